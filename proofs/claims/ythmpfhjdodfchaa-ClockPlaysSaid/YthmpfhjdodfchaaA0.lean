/- The functions of layer 14, lifted. Conditions: none. -/
import Derived.Test.YthmpfhjdodfchaaRows
import Derived.Test.YthmpfhjdodfchaaOT
import Derived.Test.YthmpfhjdodfchaaQT
import Derived.Test.YthmpfhjdodfchaaOD
import Derived.Test.YthmpfhjdodfchaaOC
import Derived.Test.YthmpfhjdodfchaaDR
import Derived.Test.YthmpfhjdodfchaaOX
namespace Go.Proofs.Ythmpfhjdodfchaa
open Go Go.RowKit
set_option linter.unusedVariables false
set_option linter.unusedSimpArgs false
set_option maxRecDepth 20000
theorem u22_ : type_of% Try.underlying22 := Try.underlying22
theorem u46_ : type_of% Try.underlying46 := Try.underlying46
theorem u48_ : type_of% Try.underlying48 := Try.underlying48
theorem u50_ : type_of% Try.underlying50 := Try.underlying50
abbrev R32 : Rp (Int × Int × Int) := (Rp.pair (Rp.int .i64) (Rp.pair (Rp.int .i64) (Rp.int .i64)))
theorem B48 : Bt Try.prog 48 [.int .i64 0, .int .i64 0, .slice none 0 0] [(0, 1), (1, 1), (2, 1)] := ⟨⟨.agg #[.int .i64 0, .int .i64 0, .slice none 0 0], by kernel_rfl, rfl⟩, ⟨_, u48_, fun w => by kernel_rfl⟩⟩
theorem L22 : Et Try.prog 22 3 1 8 := Et.of u22_ (by kernel_rfl) (by kernel_rfl) (by kernel_rfl) (by decide)
theorem T3 : Ty Try.prog 3 false 1 := ⟨by kernel_rfl, by kernel_rfl⟩
theorem T46 : Ty Try.prog 46 false 1 := ⟨by kernel_rfl, by kernel_rfl⟩
theorem B50 : Bt Try.prog 50 [.int .i64 0, .int .i64 0, .int .i64 0] [(0, 1), (1, 1), (2, 1)] := ⟨⟨.agg #[.int .i64 0, .int .i64 0, .int .i64 0], by kernel_rfl, rfl⟩, ⟨_, u50_, fun w => by kernel_rfl⟩⟩
theorem Z50 : (Try.prog.info? 50).bind (·.zero) = some (.agg #[.int .i64 0, .int .i64 0, .int .i64 0]) := by kernel_rfl
abbrev R50 : Rp (Int × Int × Int) := (Rp.pair (Rp.int .i64) (Rp.pair (Rp.int .i64) (Rp.int .i64)))
def E50 (a : Int × Int × Int) : List Value := [.int .i64 a.1, .int .i64 a.2.1, .int .i64 a.2.2]
theorem F50 : Fl R50 E50 := (Fl.pair Fl.int (Fl.pair Fl.int Fl.int))
theorem L46 : Et Try.prog 46 50 3 24 := Et.of u46_ (by kernel_rfl) (by kernel_rfl) (by kernel_rfl) (by decide)
noncomputable def clock_New_l1 (p0 : List Int) : (Int × (List (Int × Int × Int))) → Option ((Int × (List (Int × Int × Int))) ⊕ ((List (Int × Int × Int)) ⊕ ((Int × Int × (List (Int × Int × Int))) ⊕ Unit)))
  | (x2, x3) => (if x2 < (p0.length : Int) then (ix p0 x2).bind fun x4 => (if (decide (x4 < (-1048576)) || decide (1048576 < x4)) = true then some (.inr (.inr (.inr ()))) else (app x3 ([(x4, 0, 0)] : List (Int × Int × Int))).bind fun x5 => some (.inl (w64 (x2 + 1), x5))) else some (.inr (.inl x3)))
noncomputable def clock_New (p0 : List Int) (p1 : Int) : Option ((Int × Int × (List (Int × Int × Int))) ⊕ Unit) := (if (decide ((p0.length : Int) < 1) || (decide (8 < (p0.length : Int)) || (decide (p1 < 0) || decide (500 < p1)))) = true then some (.inr ()) else orR (loopW (clock_New_l1 p0) (0, [])) fun x1 => some (.inl (0, p1, x1)))
theorem clock_New_c (Y : Nat → Prop) (w0 : World) (v1 : Value) (p0 : List Int) (p1 : Int) (r : (Int × Int × (List (Int × Int × Int))) ⊕ Unit) (H : clock_New p0 p1 = some r) (h_v1 : Sl w0 (NX []) (Rp.int .i64) v1 p0) :
    Calls Try.prog 7 #[v1, .int .i64 p1] w0 fun e w' => altP r (fun r => ∃ x : Nat × Value, e = .returned (.tuple #[.pointer (some ⟨x.1, 0, none⟩), .int .i64 0]) ∧ Stw ⟨Y, [], w0⟩ [(x.1, [.int .i64 r.1, .int .i64 r.2.1, x.2])] [row (x.2) 50 R50 r.2.2] w') (fun r => ∃ x : Unit, e = .returned (.tuple #[.pointer none, .int .i64 2]) ∧ Stw ⟨Y, [], w0⟩ [] [] w') := by
 refine enter Try.func7 rfl Try.ntmps7 rfl (fun a hF => ?_)
 have hW := Stw.start Y w0
 unfold clock_New at H
 refine c_seq (reg_list ?_)
 iterate 2 refine ls hF hW rfl ((y_assign hF rfl).q) (fun a w hF hW => ?_)
 refine ls_nil (c_then ?_)
 refine c_seq ?_
 refine c_seqJ (fun a w => Fr 53 [] [(0, v1), (1, .int .i64 p1), (4, .pointer none), (5, .int .i64 0), (24, .bool (decide ((p0.length : Int) < 1) || (decide (8 < (p0.length : Int)) || (decide (p1 < 0) || decide (500 < p1)))))] a ∧ Stw ⟨Y, [], w0⟩ [] [] w) ?_ ?_
 ·
  refine reg_list ?_
  refine ls hF hW rfl ((y_move hF rfl).q) (fun a w hF hW => ?_)
  refine ls hF hW rfl ((y_len (r := (Rp.int .i64)) (l := p0) u22_ rfl hF rfl (rdc_ro h_v1)).q) (fun a w hF hW => ?_)
  refine ls hF hW rfl ((y_lss hF rfl rfl).q) (fun a w hF hW => ?_)
  refine ls hF hW rfl ((y_move hF rfl).q) (fun a w hF hW => ?_)
  rcases Bool.eq_false_or_eq_true (decide ((p0.length : Int) < 1)) with hb0 | hb0
  ·
   rw [hb0] at hF
   iterate 3 refine lsn hF rfl rfl rfl rfl rfl rfl rfl (fun a hF => ?_)
   refine ls hF hW rfl ((y_pick_t hF rfl rfl rfl).q) (fun a w hF hW => ?_)
   refine ls hF hW rfl ((y_move hF rfl).q) (fun a w hF hW => ?_)
   iterate 2 refine lsn hF rfl rfl rfl rfl rfl rfl rfl (fun a hF => ?_)
   refine ls hF hW rfl ((y_pick_t hF rfl rfl rfl).q) (fun a w hF hW => ?_)
   refine ls hF hW rfl ((y_move hF rfl).q) (fun a w hF hW => ?_)
   iterate 2 refine lsn hF rfl rfl rfl rfl rfl rfl rfl (fun a hF => ?_)
   refine ls hF hW rfl ((y_pick_t hF rfl rfl rfl).q) (fun a w hF hW => ?_)
   refine ls_nil (c_then ?_)
   exact ⟨hF.re ⟨rfl, rfl, rfl, rfl, (by show some (Value.bool true) = some (Value.bool (decide ((p0.length : Int) < 1) || (decide (8 < (p0.length : Int)) || (decide (p1 < 0) || decide (500 < p1))))); try rw [hb0]; all_goals simp only [Bool.not_true, Bool.not_false, Bool.true_and, Bool.false_and, Bool.true_or, Bool.false_or, Bool.and_true, Bool.or_false, cond_true, cond_false]), trivial⟩, hW⟩
  ·
   rw [hb0] at hF
   refine ls_w hF hW (wanted_y hF rfl rfl rfl rfl) rfl (Nat.le_of_ble_eq_true rfl) ((y_move hF rfl).q) (fun a w hF hW => ?_)
   refine ls_w hF hW (wanted_y hF rfl rfl rfl rfl) rfl (Nat.le_of_ble_eq_true rfl) ((y_len (r := (Rp.int .i64)) (l := p0) u22_ rfl hF rfl (rdc_ro h_v1)).q) (fun a w hF hW => ?_)
   refine ls_w hF hW (wanted_y hF rfl rfl rfl rfl) rfl (Nat.le_of_ble_eq_true rfl) ((y_gtr hF rfl rfl).q) (fun a w hF hW => ?_)
   refine ls hF hW rfl ((y_pick_f hF rfl rfl rfl).q) (fun a w hF hW => ?_)
   refine ls hF hW rfl ((y_move hF rfl).q) (fun a w hF hW => ?_)
   rcases Bool.eq_false_or_eq_true (decide (8 < (p0.length : Int))) with hb1 | hb1
   ·
    rw [hb1] at hF
    iterate 2 refine lsn hF rfl rfl rfl rfl rfl rfl rfl (fun a hF => ?_)
    refine ls hF hW rfl ((y_pick_t hF rfl rfl rfl).q) (fun a w hF hW => ?_)
    refine ls hF hW rfl ((y_move hF rfl).q) (fun a w hF hW => ?_)
    iterate 2 refine lsn hF rfl rfl rfl rfl rfl rfl rfl (fun a hF => ?_)
    refine ls hF hW rfl ((y_pick_t hF rfl rfl rfl).q) (fun a w hF hW => ?_)
    refine ls_nil (c_then ?_)
    exact ⟨hF.re ⟨rfl, rfl, rfl, rfl, (by show some (Value.bool true) = some (Value.bool (decide ((p0.length : Int) < 1) || (decide (8 < (p0.length : Int)) || (decide (p1 < 0) || decide (500 < p1))))); try rw [hb0]; try rw [hb1]; all_goals simp only [Bool.not_true, Bool.not_false, Bool.true_and, Bool.false_and, Bool.true_or, Bool.false_or, Bool.and_true, Bool.or_false, cond_true, cond_false]), trivial⟩, hW⟩
   ·
    rw [hb1] at hF
    refine ls_w hF hW (wanted_y hF rfl rfl rfl rfl) rfl (Nat.le_of_ble_eq_true rfl) ((y_move hF rfl).q) (fun a w hF hW => ?_)
    refine ls_w hF hW (wanted_y hF rfl rfl rfl rfl) rfl (Nat.le_of_ble_eq_true rfl) ((y_lss hF rfl rfl).q) (fun a w hF hW => ?_)
    refine ls hF hW rfl ((y_pick_f hF rfl rfl rfl).q) (fun a w hF hW => ?_)
    refine ls hF hW rfl ((y_move hF rfl).q) (fun a w hF hW => ?_)
    rcases Bool.eq_false_or_eq_true (decide (p1 < 0)) with hb2 | hb2
    ·
     rw [hb2] at hF
     iterate 2 refine lsn hF rfl rfl rfl rfl rfl rfl rfl (fun a hF => ?_)
     refine ls hF hW rfl ((y_pick_t hF rfl rfl rfl).q) (fun a w hF hW => ?_)
     refine ls_nil (c_then ?_)
     exact ⟨hF.re ⟨rfl, rfl, rfl, rfl, (by show some (Value.bool true) = some (Value.bool (decide ((p0.length : Int) < 1) || (decide (8 < (p0.length : Int)) || (decide (p1 < 0) || decide (500 < p1))))); try rw [hb0]; try rw [hb1]; try rw [hb2]; all_goals simp only [Bool.not_true, Bool.not_false, Bool.true_and, Bool.false_and, Bool.true_or, Bool.false_or, Bool.and_true, Bool.or_false, cond_true, cond_false]), trivial⟩, hW⟩
    ·
     rw [hb2] at hF
     refine ls_w hF hW (wanted_y hF rfl rfl rfl rfl) rfl (Nat.le_of_ble_eq_true rfl) ((y_move hF rfl).q) (fun a w hF hW => ?_)
     refine ls_w hF hW (wanted_y hF rfl rfl rfl rfl) rfl (Nat.le_of_ble_eq_true rfl) ((y_gtr hF rfl rfl).q) (fun a w hF hW => ?_)
     refine ls hF hW rfl ((y_pick_f hF rfl rfl rfl).q) (fun a w hF hW => ?_)
     refine ls_nil (c_then ?_)
     exact ⟨hF.re ⟨rfl, rfl, rfl, rfl, (by show some (Value.bool (decide (500 < p1))) = some (Value.bool (decide ((p0.length : Int) < 1) || (decide (8 < (p0.length : Int)) || (decide (p1 < 0) || decide (500 < p1))))); try rw [hb0]; try rw [hb1]; try rw [hb2]; all_goals simp only [Bool.not_true, Bool.not_false, Bool.true_and, Bool.false_and, Bool.true_or, Bool.false_or, Bool.and_true, Bool.or_false, cond_true, cond_false]), trivial⟩, hW⟩
 rintro a w ⟨hF, hW⟩
 refine c_cond hF rfl (fun hb => ?_) (fun hb => ?_)
 ·
  have H := iteT hb H
  rw [hb] at hF
  clear hb
  refine c_seq (reg_list ?_)
  iterate 2 refine ls hF hW rfl ((y_assign hF rfl).q) (fun a w hF hW => ?_)
  refine ls_nil (c_then ?_)
  refine wr_ret ?_
  refine r_then ?_
  have H := Option.some.inj H
  subst H
  refine post2 (.inl rfl) hF hW rfl (rv_tmp hF rfl) (rv_tmp hF rfl) ?_
  exact ⟨(), rfl, hW⟩
 ·
  have H := iteF (by rw [hb]; decide) H
  rw [hb] at hF
  clear hb
  refine wr_skip ?_
  refine c_then ?_
  refine c_seq (reg_list ?_)
  refine ls hF hW rfl ((y_move hF rfl).q) (fun a w hF hW => ?_)
  refine ls hF hW rfl ((y_build (v := Value.agg #[.int .i64 0, .int .i64 p1, .slice none 0 0]) B48 hF rfl rfl rfl).q) (fun a w hF hW => ?_)
  refine l_box (cs := [.int .i64 0, .int .i64 p1, .slice none 0 0]) hF hW rfl rfl rfl (fun b1 a w hF hW => ?_)
  refine ls hF hW rfl ((y_assign hF rfl).q) (fun a w hF hW => ?_)
  refine ls_nil (c_then ?_)
  obtain ⟨o1, G1, K1, L1⟩ := orE H
  refine c_seqJ (fun a w => ∃ x1 : List (Int × Int × Int), ∃ v2 : Value, some (Sum.inl x1) = some o1 ∧ Fr 53 [] [(4, .pointer none), (5, .int .i64 0), (6, .pointer (some ⟨b1, 0, none⟩))] a ∧ Stw ⟨Y, [], w0⟩ [(b1, [.int .i64 0, .int .i64 p1, v2])] [row v2 50 R50 x1] w) ?_ ?_
  ·
   have H := G1
   clear G1 K1
   refine c_seq (reg_list ?_)
   refine ls hF hW rfl ((y_move hF rfl).q) (fun a w hF hW => ?_)
   refine ls hF hW rfl ((y_len (r := (Rp.int .i64)) (l := p0) u22_ rfl hF rfl (rdc_ro h_v1)).q) (fun a w hF hW => ?_)
   refine ls hF hW rfl ((y_move hF rfl).q) (fun a w hF hW => ?_)
   refine ls_nil (c_then ?_)
   refine wr_block ?_
   have hW := hW.nilRow 50 R50
   refine c_loopW H (fun s a w => ∃ v3 : Value, Fr 53 [] [(4, .pointer none), (5, .int .i64 0), (6, .pointer (some ⟨b1, 0, none⟩)), (28, v1), (29, .int .i64 (p0.length : Int)), (30, .int .i64 s.1)] a ∧ Stw ⟨Y, [], w0⟩ [(b1, [.int .i64 0, .int .i64 p1, v3])] [row v3 50 R50 s.2] w) ⟨(Value.slice none 0 0), hF.re ⟨rfl, rfl, rfl, rfl, rfl, rfl, trivial⟩, hW⟩ (fun s o a w H L2 hR => ?_)
   obtain ⟨x2, x3⟩ := s
   obtain ⟨v3, hF, hW⟩ := hR
   have hF : Fr 53 [] [(4, .pointer none), (5, .int .i64 0), (6, .pointer (some ⟨b1, 0, none⟩)), (28, v1), (29, .int .i64 (p0.length : Int)), (30, .int .i64 x2)] a := hF
   have hW : Stw ⟨Y, [], w0⟩ [(b1, [.int .i64 0, .int .i64 p1, v3])] [row v3 50 R50 x3] w := hW
   rw [clock_New_l1] at H
   refine c_seq (reg_list ?_)
   refine ls hF hW rfl ((y_lss hF rfl rfl).q) (fun a w hF hW => ?_)
   refine ls_nil (c_then ?_)
   refine c_seq ?_
   refine c_cond hF rfl (fun hb => ?_) (fun hb => ?_)
   ·
    have H := iteT (of_decide_eq_true hb) H
    rw [hb] at hF
    clear hb
    refine wr_skip ?_
    refine c_then ?_
    refine c_seq ?_
    refine wr_block ?_
    refine c_seq (reg_list ?_)
    obtain ⟨x4, h1, H⟩ := bindE H
    refine ls hF hW rfl ((y_index (r := (Rp.int .i64)) L22 hF rfl rfl (rdc_ro h_v1) h1).q) (fun a w hF hW => ?_)
    refine ls hF hW rfl ((y_load_el (y := Value.int .i64 x4) (j := 0) (i := x2) hF rfl rfl (rdc_ro h_v1) h1 Fl.int.to T3 rfl).q) (fun a w hF hW => ?_)
    refine ls hF hW rfl ((y_assign hF rfl).q) (fun a w hF hW => ?_)
    refine ls_nil (c_then ?_)
    refine c_seq ?_
    refine c_seqJ (fun a w => Fr 53 [] [(4, .pointer none), (5, .int .i64 0), (6, .pointer (some ⟨b1, 0, none⟩)), (8, .int .i64 x4), (28, v1), (29, .int .i64 (p0.length : Int)), (30, .int .i64 x2), (39, .bool (decide (x4 < (-1048576)) || decide (1048576 < x4)))] a ∧ Stw ⟨Y, [], w0⟩ [(b1, [.int .i64 0, .int .i64 p1, v3])] [row v3 50 R50 x3] w) ?_ ?_
    ·
     refine reg_list ?_
     refine ls hF hW rfl ((y_move hF rfl).q) (fun a w hF hW => ?_)
     refine ls hF hW rfl ((y_lss hF rfl rfl).q) (fun a w hF hW => ?_)
     refine ls hF hW rfl ((y_move hF rfl).q) (fun a w hF hW => ?_)
     rcases Bool.eq_false_or_eq_true (decide (x4 < (-1048576))) with hb0 | hb0
     ·
      rw [hb0] at hF
      iterate 2 refine lsn hF rfl rfl rfl rfl rfl rfl rfl (fun a hF => ?_)
      refine ls hF hW rfl ((y_pick_t hF rfl rfl rfl).q) (fun a w hF hW => ?_)
      refine ls_nil (c_then ?_)
      exact ⟨hF.re ⟨rfl, rfl, rfl, rfl, rfl, rfl, rfl, (by show some (Value.bool true) = some (Value.bool (decide (x4 < (-1048576)) || decide (1048576 < x4))); try rw [hb0]; all_goals simp only [Bool.not_true, Bool.not_false, Bool.true_and, Bool.false_and, Bool.true_or, Bool.false_or, Bool.and_true, Bool.or_false, cond_true, cond_false]), trivial⟩, hW⟩
     ·
      rw [hb0] at hF
      refine ls_w hF hW (wanted_y hF rfl rfl rfl rfl) rfl (Nat.le_of_ble_eq_true rfl) ((y_move hF rfl).q) (fun a w hF hW => ?_)
      refine ls_w hF hW (wanted_y hF rfl rfl rfl rfl) rfl (Nat.le_of_ble_eq_true rfl) ((y_gtr hF rfl rfl).q) (fun a w hF hW => ?_)
      refine ls hF hW rfl ((y_pick_f hF rfl rfl rfl).q) (fun a w hF hW => ?_)
      refine ls_nil (c_then ?_)
      exact ⟨hF.re ⟨rfl, rfl, rfl, rfl, rfl, rfl, rfl, (by show some (Value.bool (decide (1048576 < x4))) = some (Value.bool (decide (x4 < (-1048576)) || decide (1048576 < x4))); try rw [hb0]; all_goals simp only [Bool.not_true, Bool.not_false, Bool.true_and, Bool.false_and, Bool.true_or, Bool.false_or, Bool.and_true, Bool.or_false, cond_true, cond_false]), trivial⟩, hW⟩
    rintro a w ⟨hF, hW⟩
    refine c_cond hF rfl (fun hb => ?_) (fun hb => ?_)
    ·
     have H := iteT hb H
     rw [hb] at hF
     clear hb
     refine c_seq (reg_list ?_)
     iterate 2 refine ls hF hW rfl ((y_assign hF rfl).q) (fun a w hF hW => ?_)
     refine ls_nil (c_then ?_)
     refine wr_ret ?_
     refine r_then ?_
     refine r_block ?_
     iterate 2 refine r_then ?_
     refine r_block ?_
     refine r_then ?_
     have H := L2 _ H
     have H := L1 _ H
     have H := Option.some.inj H
     subst H
     refine post2 (.inl rfl) hF hW rfl (rv_tmp hF rfl) (rv_tmp hF rfl) ?_
     have hW := hW.sub (M' := []) (Z' := []) (List.nil_sublist _) (List.nil_sublist _)
     exact ⟨(), rfl, hW⟩
    ·
     have H := iteF (by rw [hb]; decide) H
     rw [hb] at hF
     clear hb
     refine wr_skip ?_
     refine c_then ?_
     refine reg_list ?_
     iterate 2 refine ls hF hW rfl ((y_move hF rfl).q) (fun a w hF hW => ?_)
     refine ls hF hW rfl ((y_nilCheck hF rfl).q) (fun a w hF hW => ?_)
     refine ls hF hW rfl ((y_fieldAddr u48_ rfl rfl rfl T46 hF rfl 2 rfl).q) (fun a w hF hW => ?_)
     refine ls hF hW rfl ((y_load (v := v3) 0 hF rfl rfl T46 rfl).q) (fun a w hF hW => ?_)
     refine ls hF hW rfl ((y_move hF rfl).q) (fun a w hF hW => ?_)
     refine ls hF hW rfl ((y_build (v := Value.agg #[.int .i64 x4, .int .i64 0, .int .i64 0]) B50 hF rfl rfl rfl).q) (fun a w hF hW => ?_)
     refine l_lit (z := Value.agg #[.int .i64 0, .int .i64 0, .int .i64 0]) (cs := [.int .i64 x4, .int .i64 0, .int .i64 0]) R50 ([(x4, 0, 0)] : List (Int × Int × Int)) hF hW rfl L46 Z50 rfl rfl rfl rfl rfl rfl (F50.repL _ _ ([(x4, 0, 0)] : List (Int × Int × Int))) (fun v4 a w hF hW => ?_)
     obtain ⟨x5, h2, H⟩ := bindE H
     refine l_append (r := R50) (i := 1) hF hW rfl L46 rfl rfl rfl rfl (src_row hW 0 rfl) h2 rfl (fun v5 a w hF hW => ?_)
     have hW : Stw ⟨Y, [], w0⟩ [(b1, [.int .i64 0, .int .i64 p1, v3])] [row v5 50 R50 x5, row v4 50 R50 ([(x4, 0, 0)] : List (Int × Int × Int))] w := hW
     refine ls hF hW rfl ((y_nilCheck hF rfl).q) (fun a w hF hW => ?_)
     refine ls hF hW rfl ((y_fieldAddr u48_ rfl rfl rfl T46 hF rfl 2 rfl).q) (fun a w hF hW => ?_)
     refine l_store1 (M' := [(b1, [.int .i64 0, .int .i64 p1, v5])]) 0 hF hW rfl rfl rfl T46 (hW.one (k := 0) rfl) rfl rfl (fun w hW => ?_)
     refine ls_nil ?_
     refine b_normal ?_
     refine c_then ?_
     refine reg_list ?_
     refine ls hF hW rfl ((y_add hF rfl rfl rfl).q) (fun a w hF hW => ?_)
     refine ls hF hW rfl ((y_move hF rfl).q) (fun a w hF hW => ?_)
     refine ls_nil (c_then ?_)
     have hW := hW.sub (M' := [(b1, [.int .i64 0, .int .i64 p1, v5])]) (Z' := [row v5 50 R50 x5]) (List.Sublist.refl _) (List.Sublist.cons_cons _ (List.nil_sublist _))
     exact ⟨_, H, (v5), hF.re ⟨rfl, rfl, rfl, rfl, rfl, rfl, trivial⟩, hW⟩
   ·
    have H := iteF (of_decide_eq_false hb) H
    rw [hb] at hF
    clear hb
    refine wr_exit ?_
    iterate 2 refine e_then ?_
    refine e_block ?_
    refine c_then ?_
    have H := L2 _ H
    exact ⟨_, (v3), H, hF.re ⟨rfl, rfl, rfl, trivial⟩, hW⟩
  rintro a w ⟨x1, v2, hj, hF, hW⟩
  have H := K1 _ hj
  clear hj G1 K1 L1
  refine c_seq (reg_list ?_)
  refine ls hF hW rfl ((y_move hF rfl).q) (fun a w hF hW => ?_)
  iterate 2 refine ls hF hW rfl ((y_assign hF rfl).q) (fun a w hF hW => ?_)
  refine ls_nil (c_then ?_)
  refine wr_ret ?_
  have H := Option.some.inj H
  subst H
  refine post2 (.inl rfl) hF hW rfl (rv_tmp hF rfl) (rv_tmp hF rfl) ?_
  exact ⟨(b1, (v2)), rfl, hW⟩

theorem u38_ : type_of% Try.underlying38 := Try.underlying38
theorem u40_ : type_of% Try.underlying40 := Try.underlying40
theorem u53_ : type_of% Try.underlying53 := Try.underlying53
theorem H7 : Has Try.prog 7 := ⟨fun args w => run_callFunc_body Try.func7 rfl (by decide) args w⟩
theorem B40 : Bt Try.prog 40 [.int .i64 0, .int .i64 0, .slice none 0 0] [(0, 1), (1, 1), (2, 1)] := ⟨⟨.agg #[.int .i64 0, .int .i64 0, .slice none 0 0], by kernel_rfl, rfl⟩, ⟨_, u40_, fun w => by kernel_rfl⟩⟩
theorem MO : Try.prog.follows .mixedOrders = true := by kernel_rfl
theorem T38 : Ty Try.prog 38 false 1 := ⟨by kernel_rfl, by kernel_rfl⟩
theorem B53 : Bt Try.prog 53 [.int .i64 0, .int .i64 0, .slice none 0 0] [(0, 1), (1, 1), (2, 1)] := ⟨⟨.agg #[.int .i64 0, .int .i64 0, .slice none 0 0], by kernel_rfl, rfl⟩, ⟨_, u53_, fun w => by kernel_rfl⟩⟩
theorem Z53 : (Try.prog.info? 53).bind (·.zero) = some (.agg #[.int .i64 0, .int .i64 0, .slice none 0 0]) := by kernel_rfl
abbrev R55 : Rp (Int × Int) := (Rp.pair (Rp.int .i64) (Rp.int .i64))
abbrev DP53 : Dp (Int × Int × (Value × Nat × List (Int × Int))) := (Dp.pair (Dp.fl 1 (fun a => [.int .i64 a]) (fun _ => rfl)) (Dp.pair (Dp.fl 1 (fun a => [.int .i64 a]) (fun _ => rfl)) (Dp.sl 55 R55)))
abbrev ERD53 (p : Int × Int × (Value × Nat × List (Int × Int))) : Int × Int × (Nat × List (Int × Int)) := (p.1, p.2.1, p.2.2.2)
abbrev R53 : Rp (Int × Int × (List (Int × Int))) := (Rp.pair (Rp.int .i64) (Rp.pair (Rp.int .i64) (Rp.slice R55)))
abbrev GR53 : (Int × Int × (Nat × List (Int × Int))) → Option (Int × Int × (List (Int × Int))) := (fun p => (some p.1).bind fun a => ((fun p => (some p.1).bind fun a => (rsl p.2).bind fun b => some (a, b)) p.2).bind fun b => some (a, b))
theorem RS53 : Rst DP53 R53 ERD53 GR53 := (Rst.pair (Rst.flat Fl.int (fun _ => rfl) rfl) (Rst.pair (Rst.flat Fl.int (fun _ => rfl) rfl) Rst.sl))
theorem L38 : Et Try.prog 38 53 3 40 := Et.of u38_ (by kernel_rfl) (by kernel_rfl) (by kernel_rfl) (by decide)
noncomputable def r14_New_l1 (p0 : List Int) : (Int × (List (Int × Int × (Nat × List (Int × Int))))) → Option ((Int × (List (Int × Int × (Nat × List (Int × Int))))) ⊕ ((List (Int × Int × (Nat × List (Int × Int)))) ⊕ ((Int × Int × (List (Int × Int × (Nat × List (Int × Int))))) ⊕ Unit)))
  | (x2, x3) => (if x2 < (p0.length : Int) then ((ix p0 x2).bind fun x6 => (if x6 < (-1048576) then some (true, x3) else (ix p0 x2).bind fun x7 => some (decide (1048576 < x7), x3))).bind fun (x4, x5) => (if x4 = true then some (.inr (.inr (.inr ()))) else (ix p0 x2).bind fun x8 => (app x5 ([(x8, 0, (2, []))] : List (Int × Int × (Nat × List (Int × Int))))).bind fun x9 => some (.inl (w64 (x2 + 1), x9))) else some (.inr (.inl x3)))
noncomputable def r14_New (p0 : List Int) (p1 : Int) : Option ((Int × Int × (List (Int × Int × (Nat × List (Int × Int))))) ⊕ Unit) := (if (decide ((p0.length : Int) < 1) || (decide (8 < (p0.length : Int)) || (decide (p1 < 0) || decide (500 < p1)))) = true then some (.inr ()) else orR (loopW (r14_New_l1 p0) (0, [])) fun x1 => some (.inl (0, p1, x1)))
theorem r14_New_c (Y : Nat → Prop) (w0 : World) (v1 : Value) (p0 : List Int) (p1 : Int) (r : (Int × Int × (List (Int × Int × (Nat × List (Int × Int))))) ⊕ Unit) (H : r14_New p0 p1 = some r) (h_v1 : Sl w0 (NX []) (Rp.int .i64) v1 p0) :
    Calls Try.prog 8 #[v1, .int .i64 p1] w0 fun e w' => altP r (fun r => ∃ x : Nat × Value × ({x : List (Int × Int × (Value × Nat × List (Int × Int))) // x.map ERD53 = r.2.2}), e = .returned (.pointer (some ⟨x.1, 0, none⟩)) ∧ Stw ⟨Y, [], w0⟩ [(x.1, [.int .i64 r.1, .int .i64 r.2.1, x.2.1])] [drow (x.2.1) 53 DP53 (x.2.2.1)] w') (fun r => ∃ x : Unit, e = .returned (.pointer none) ∧ Stw ⟨Y, [], w0⟩ [] [] w') := by
 refine enter Try.func8 rfl Try.ntmps8 rfl (fun a hF => ?_)
 have hW := Stw.start Y w0
 unfold r14_New at H
 refine c_seq (reg_list ?_)
 refine ls hF hW rfl ((y_assign hF rfl).q) (fun a w hF hW => ?_)
 refine ls_nil (c_then ?_)
 refine c_seq ?_
 refine c_seqJ (fun a w => Fr 59 [] [(0, v1), (1, .int .i64 p1), (4, .pointer none), (22, .bool (decide ((p0.length : Int) < 1) || (decide (8 < (p0.length : Int)) || (decide (p1 < 0) || decide (500 < p1)))))] a ∧ Stw ⟨Y, [], w0⟩ [] [] w) ?_ ?_
 ·
  refine reg_list ?_
  refine ls hF hW rfl ((y_move hF rfl).q) (fun a w hF hW => ?_)
  refine ls hF hW rfl ((y_len (r := (Rp.int .i64)) (l := p0) u22_ rfl hF rfl (rdc_ro h_v1)).q) (fun a w hF hW => ?_)
  refine ls hF hW rfl ((y_lss hF rfl rfl).q) (fun a w hF hW => ?_)
  refine ls hF hW rfl ((y_move hF rfl).q) (fun a w hF hW => ?_)
  rcases Bool.eq_false_or_eq_true (decide ((p0.length : Int) < 1)) with hb0 | hb0
  ·
   rw [hb0] at hF
   iterate 3 refine lsn hF rfl rfl rfl rfl rfl rfl rfl (fun a hF => ?_)
   refine ls hF hW rfl ((y_pick_t hF rfl rfl rfl).q) (fun a w hF hW => ?_)
   refine ls hF hW rfl ((y_move hF rfl).q) (fun a w hF hW => ?_)
   iterate 2 refine lsn hF rfl rfl rfl rfl rfl rfl rfl (fun a hF => ?_)
   refine ls hF hW rfl ((y_pick_t hF rfl rfl rfl).q) (fun a w hF hW => ?_)
   refine ls hF hW rfl ((y_move hF rfl).q) (fun a w hF hW => ?_)
   iterate 2 refine lsn hF rfl rfl rfl rfl rfl rfl rfl (fun a hF => ?_)
   refine ls hF hW rfl ((y_pick_t hF rfl rfl rfl).q) (fun a w hF hW => ?_)
   refine ls_nil (c_then ?_)
   exact ⟨hF.re ⟨rfl, rfl, rfl, (by show some (Value.bool true) = some (Value.bool (decide ((p0.length : Int) < 1) || (decide (8 < (p0.length : Int)) || (decide (p1 < 0) || decide (500 < p1))))); try rw [hb0]; all_goals simp only [Bool.not_true, Bool.not_false, Bool.true_and, Bool.false_and, Bool.true_or, Bool.false_or, Bool.and_true, Bool.or_false, cond_true, cond_false]), trivial⟩, hW⟩
  ·
   rw [hb0] at hF
   refine ls_w hF hW (wanted_y hF rfl rfl rfl rfl) rfl (Nat.le_of_ble_eq_true rfl) ((y_move hF rfl).q) (fun a w hF hW => ?_)
   refine ls_w hF hW (wanted_y hF rfl rfl rfl rfl) rfl (Nat.le_of_ble_eq_true rfl) ((y_len (r := (Rp.int .i64)) (l := p0) u22_ rfl hF rfl (rdc_ro h_v1)).q) (fun a w hF hW => ?_)
   refine ls_w hF hW (wanted_y hF rfl rfl rfl rfl) rfl (Nat.le_of_ble_eq_true rfl) ((y_gtr hF rfl rfl).q) (fun a w hF hW => ?_)
   refine ls hF hW rfl ((y_pick_f hF rfl rfl rfl).q) (fun a w hF hW => ?_)
   refine ls hF hW rfl ((y_move hF rfl).q) (fun a w hF hW => ?_)
   rcases Bool.eq_false_or_eq_true (decide (8 < (p0.length : Int))) with hb1 | hb1
   ·
    rw [hb1] at hF
    iterate 2 refine lsn hF rfl rfl rfl rfl rfl rfl rfl (fun a hF => ?_)
    refine ls hF hW rfl ((y_pick_t hF rfl rfl rfl).q) (fun a w hF hW => ?_)
    refine ls hF hW rfl ((y_move hF rfl).q) (fun a w hF hW => ?_)
    iterate 2 refine lsn hF rfl rfl rfl rfl rfl rfl rfl (fun a hF => ?_)
    refine ls hF hW rfl ((y_pick_t hF rfl rfl rfl).q) (fun a w hF hW => ?_)
    refine ls_nil (c_then ?_)
    exact ⟨hF.re ⟨rfl, rfl, rfl, (by show some (Value.bool true) = some (Value.bool (decide ((p0.length : Int) < 1) || (decide (8 < (p0.length : Int)) || (decide (p1 < 0) || decide (500 < p1))))); try rw [hb0]; try rw [hb1]; all_goals simp only [Bool.not_true, Bool.not_false, Bool.true_and, Bool.false_and, Bool.true_or, Bool.false_or, Bool.and_true, Bool.or_false, cond_true, cond_false]), trivial⟩, hW⟩
   ·
    rw [hb1] at hF
    refine ls_w hF hW (wanted_y hF rfl rfl rfl rfl) rfl (Nat.le_of_ble_eq_true rfl) ((y_move hF rfl).q) (fun a w hF hW => ?_)
    refine ls_w hF hW (wanted_y hF rfl rfl rfl rfl) rfl (Nat.le_of_ble_eq_true rfl) ((y_lss hF rfl rfl).q) (fun a w hF hW => ?_)
    refine ls hF hW rfl ((y_pick_f hF rfl rfl rfl).q) (fun a w hF hW => ?_)
    refine ls hF hW rfl ((y_move hF rfl).q) (fun a w hF hW => ?_)
    rcases Bool.eq_false_or_eq_true (decide (p1 < 0)) with hb2 | hb2
    ·
     rw [hb2] at hF
     iterate 2 refine lsn hF rfl rfl rfl rfl rfl rfl rfl (fun a hF => ?_)
     refine ls hF hW rfl ((y_pick_t hF rfl rfl rfl).q) (fun a w hF hW => ?_)
     refine ls_nil (c_then ?_)
     exact ⟨hF.re ⟨rfl, rfl, rfl, (by show some (Value.bool true) = some (Value.bool (decide ((p0.length : Int) < 1) || (decide (8 < (p0.length : Int)) || (decide (p1 < 0) || decide (500 < p1))))); try rw [hb0]; try rw [hb1]; try rw [hb2]; all_goals simp only [Bool.not_true, Bool.not_false, Bool.true_and, Bool.false_and, Bool.true_or, Bool.false_or, Bool.and_true, Bool.or_false, cond_true, cond_false]), trivial⟩, hW⟩
    ·
     rw [hb2] at hF
     refine ls_w hF hW (wanted_y hF rfl rfl rfl rfl) rfl (Nat.le_of_ble_eq_true rfl) ((y_move hF rfl).q) (fun a w hF hW => ?_)
     refine ls_w hF hW (wanted_y hF rfl rfl rfl rfl) rfl (Nat.le_of_ble_eq_true rfl) ((y_gtr hF rfl rfl).q) (fun a w hF hW => ?_)
     refine ls hF hW rfl ((y_pick_f hF rfl rfl rfl).q) (fun a w hF hW => ?_)
     refine ls_nil (c_then ?_)
     exact ⟨hF.re ⟨rfl, rfl, rfl, (by show some (Value.bool (decide (500 < p1))) = some (Value.bool (decide ((p0.length : Int) < 1) || (decide (8 < (p0.length : Int)) || (decide (p1 < 0) || decide (500 < p1))))); try rw [hb0]; try rw [hb1]; try rw [hb2]; all_goals simp only [Bool.not_true, Bool.not_false, Bool.true_and, Bool.false_and, Bool.true_or, Bool.false_or, Bool.and_true, Bool.or_false, cond_true, cond_false]), trivial⟩, hW⟩
 rintro a w ⟨hF, hW⟩
 refine c_cond hF rfl (fun hb => ?_) (fun hb => ?_)
 ·
  have H := iteT hb H
  rw [hb] at hF
  clear hb
  refine c_seq (reg_list ?_)
  refine ls hF hW rfl ((y_assign hF rfl).q) (fun a w hF hW => ?_)
  refine ls_nil (c_then ?_)
  refine wr_ret ?_
  refine r_then ?_
  have H := Option.some.inj H
  subst H
  refine post1 (.inl rfl) hF hW rfl (rv_tmp hF rfl) ?_
  exact ⟨(), rfl, hW⟩
 ·
  have H := iteF (by rw [hb]; decide) H
  rw [hb] at hF
  clear hb
  refine wr_skip ?_
  refine c_then ?_
  refine c_seq (reg_list ?_)
  refine ls hF hW rfl ((y_move hF rfl).q) (fun a w hF hW => ?_)
  refine ls hF hW rfl ((y_build (v := Value.agg #[.int .i64 0, .int .i64 p1, .slice none 0 0]) B40 hF rfl rfl rfl).q) (fun a w hF hW => ?_)
  refine l_box (cs := [.int .i64 0, .int .i64 p1, .slice none 0 0]) hF hW rfl rfl rfl (fun b1 a w hF hW => ?_)
  refine ls hF hW rfl ((y_assign hF rfl).q) (fun a w hF hW => ?_)
  refine ls_nil (c_then ?_)
  obtain ⟨o1, G1, K1, L1⟩ := orE H
  refine c_seqJ (fun a w => ∃ x1 : List (Int × Int × (Nat × List (Int × Int))), ∃ v2 : Value, ∃ g_x1 : {x : List (Int × Int × (Value × Nat × List (Int × Int))) // x.map ERD53 = x1}, some (Sum.inl x1) = some o1 ∧ Fr 59 [] [(4, .pointer none), (5, .pointer (some ⟨b1, 0, none⟩))] a ∧ Stw ⟨Y, [], w0⟩ [(b1, [.int .i64 0, .int .i64 p1, v2])] [drow v2 53 DP53 g_x1.1] w) ?_ ?_
  ·
   have H := G1
   clear G1 K1
   refine c_seq (reg_list ?_)
   refine ls hF hW rfl ((y_assign hF rfl).q) (fun a w hF hW => ?_)
   refine ls_nil (c_then ?_)
   refine wr_block ?_
   have hW := hW.dNil 53 DP53
   have h1 : List.map ERD53 ([] : List (Int × Int × (Value × Nat × List (Int × Int)))) = ([] : List (Int × Int × (Nat × List (Int × Int)))) := rfl
   refine c_loopW H (fun s a w => ∃ v3 : Value, ∃ g_x3 : {x : List (Int × Int × (Value × Nat × List (Int × Int))) // x.map ERD53 = s.2}, Fr 59 [] [(0, v1), (4, .pointer none), (5, .pointer (some ⟨b1, 0, none⟩)), (6, .int .i64 s.1)] a ∧ Stw ⟨Y, [], w0⟩ [(b1, [.int .i64 0, .int .i64 p1, v3])] [drow v3 53 DP53 g_x3.1] w) ⟨(Value.slice none 0 0), ⟨([] : List (Int × Int × (Value × Nat × List (Int × Int)))), h1⟩, hF.re ⟨rfl, rfl, rfl, rfl, trivial⟩, hW⟩ (fun s o a w H L2 hR => ?_)
   obtain ⟨x2, x3⟩ := s
   obtain ⟨v3, g_x3, hF, hW⟩ := hR
   have hF : Fr 59 [] [(0, v1), (4, .pointer none), (5, .pointer (some ⟨b1, 0, none⟩)), (6, .int .i64 x2)] a := hF
   have hW : Stw ⟨Y, [], w0⟩ [(b1, [.int .i64 0, .int .i64 p1, v3])] [drow v3 53 DP53 g_x3.1] w := hW
   rw [r14_New_l1] at H
   refine c_seq ?_
   refine c_seq (reg_list ?_)
   iterate 2 refine ls hF hW rfl ((y_move hF rfl).q) (fun a w hF hW => ?_)
   refine ls hF hW rfl ((y_len (r := (Rp.int .i64)) (l := p0) u22_ rfl hF rfl (rdc_ro h_v1)).q) (fun a w hF hW => ?_)
   refine ls hF hW rfl ((y_lss hF rfl rfl).q) (fun a w hF hW => ?_)
   refine ls_nil (c_then ?_)
   refine c_cond hF rfl (fun hb => ?_) (fun hb => ?_)
   ·
    have H := iteT (of_decide_eq_true hb) H
    rw [hb] at hF
    clear hb
    refine wr_skip ?_
    refine c_then ?_
    refine c_seq ?_
    refine wr_block ?_
    refine c_seq ?_
    obtain ⟨o3, G3, K3⟩ := bindE H
    refine c_seqJ (fun a w => ∃ x4 : Bool, ∃ x5 : List (Int × Int × (Nat × List (Int × Int))), ∃ g_x5 : {x : List (Int × Int × (Value × Nat × List (Int × Int))) // x.map ERD53 = x5}, some ((x4, x5)) = some o3 ∧ Fr 59 [] [(0, v1), (4, .pointer none), (5, .pointer (some ⟨b1, 0, none⟩)), (6, .int .i64 x2), (43, .bool x4)] a ∧ Stw ⟨Y, [], w0⟩ [(b1, [.int .i64 0, .int .i64 p1, v3])] [drow v3 53 DP53 g_x5.1] w) ?_ ?_
    ·
     have H := G3
     clear G3 K3
     refine reg_list ?_
     iterate 2 refine ls hF hW rfl ((y_move hF rfl).q) (fun a w hF hW => ?_)
     obtain ⟨x6, h2, H⟩ := bindE H
     refine ls hF hW rfl ((y_index (r := (Rp.int .i64)) L22 hF rfl rfl (rdc_ro h_v1) h2).q) (fun a w hF hW => ?_)
     refine ls hF hW rfl ((y_load_el (y := Value.int .i64 x6) (j := 0) (i := x2) hF rfl rfl (rdc_ro h_v1) h2 Fl.int.to T3 rfl).q) (fun a w hF hW => ?_)
     refine ls hF hW rfl ((y_lss hF rfl rfl).q) (fun a w hF hW => ?_)
     refine ls hF hW rfl ((y_move hF rfl).q) (fun a w hF hW => ?_)
     rcases Bool.eq_false_or_eq_true (decide (x6 < (-1048576))) with hb | hb
     ·
      have H := iteT (of_decide_eq_true hb) H
      rw [hb] at hF
      clear hb
      iterate 5 refine lsn hF rfl rfl rfl rfl rfl rfl rfl (fun a hF => ?_)
      refine ls hF hW rfl ((y_pick_t hF rfl rfl rfl).q) (fun a w hF hW => ?_)
      refine ls_nil (c_then ?_)
      exact ⟨_, _, ⟨g_x3.1, g_x3.2⟩, H, hF.re ⟨rfl, rfl, rfl, rfl, rfl, trivial⟩, hW⟩
     ·
      have H := iteF (of_decide_eq_false hb) H
      rw [hb] at hF
      clear hb
      iterate 2 refine ls_w hF hW (wanted_y hF rfl rfl rfl rfl) rfl (Nat.le_of_ble_eq_true rfl) ((y_move hF rfl).q) (fun a w hF hW => ?_)
      obtain ⟨x7, h3, H⟩ := bindE H
      refine ls_w hF hW (wanted_y hF rfl rfl rfl rfl) rfl (Nat.le_of_ble_eq_true rfl) ((y_index (r := (Rp.int .i64)) L22 hF rfl rfl (rdc_ro h_v1) h3).q) (fun a w hF hW => ?_)
      refine ls_w hF hW (wanted_y hF rfl rfl rfl rfl) rfl (Nat.le_of_ble_eq_true rfl) ((y_load_el (y := Value.int .i64 x7) (j := 0) (i := x2) hF rfl rfl (rdc_ro h_v1) h3 Fl.int.to T3 rfl).q) (fun a w hF hW => ?_)
      refine ls_w hF hW (wanted_y hF rfl rfl rfl rfl) rfl (Nat.le_of_ble_eq_true rfl) ((y_gtr hF rfl rfl).q) (fun a w hF hW => ?_)
      refine ls hF hW rfl ((y_pick_f hF rfl rfl rfl).q) (fun a w hF hW => ?_)
      refine ls_nil (c_then ?_)
      exact ⟨_, _, ⟨g_x3.1, g_x3.2⟩, H, hF.re ⟨rfl, rfl, rfl, rfl, rfl, trivial⟩, hW⟩
    rintro a w ⟨x4, x5, g_x5, hj, hF, hW⟩
    have hj := Option.some.inj hj
    subst hj
    have H := K3
    clear G3 K3
    refine c_cond hF rfl (fun hb => ?_) (fun hb => ?_)
    ·
     have H := iteT hb H
     rw [hb] at hF
     clear hb
     refine c_seq (reg_list ?_)
     refine ls hF hW rfl ((y_assign hF rfl).q) (fun a w hF hW => ?_)
     refine ls_nil (c_then ?_)
     refine wr_ret ?_
     refine r_then ?_
     refine r_block ?_
     iterate 2 refine r_then ?_
     refine r_block ?_
     refine r_then ?_
     have H := L2 _ H
     have H := L1 _ H
     have H := Option.some.inj H
     subst H
     refine post1 (.inl rfl) hF hW rfl (rv_tmp hF rfl) ?_
     have hW := hW.sub (M' := []) (Z' := []) (List.nil_sublist _) (List.nil_sublist _)
     exact ⟨(), rfl, hW⟩
    ·
     have H := iteF (by rw [hb]; decide) H
     rw [hb] at hF
     clear hb
     refine wr_skip ?_
     refine c_then ?_
     refine reg_plan [(true, 0), (true, 1), (true, 2), (true, 3), (true, 4), (true, 5), (true, 6), (true, 7), (true, 8), (true, 9), (false, 10), (false, 11), (true, 12), (true, 13), (false, 14)] (CN ⟨Y, [], w0⟩ [(some 11, b1, [.int .i64 0, .int .i64 p1, v3])] []) (fun ch a d v w h => by cases d <;> exact h) MO (by kernel_rfl) hW (fun w hW => ⟨_, _, hW, (all_cons (fun _ => (.head _)) all_nil), all_nil⟩) (fun w hW => ?_)
     iterate 2 refine pl_t (R := []) hF rfl rfl (yC fun M Z hN hZ => y_move hF rfl) rfl rfl (fun a hF => ?_)
     refine pl_t (R := []) hF rfl rfl (yC fun M Z hN hZ => y_nilCheck hF rfl) rfl rfl (fun a hF => ?_)
     refine pl_t (R := []) hF rfl rfl (yC fun M Z hN hZ => y_fieldAddr u40_ rfl rfl rfl T38 hF rfl 2 rfl) rfl rfl (fun a hF => ?_)
     refine pl_t (R := [11]) hF rfl rfl (yC fun M Z hN hZ => y_load_m (cs := [.int .i64 0, .int .i64 p1, v3]) (v := v3) hF rfl (hN ((some 11), b1, [.int .i64 0, .int .i64 p1, v3]) (.head _) rfl) T38 rfl) (by kernel_rfl) rfl (fun a hF => ?_)
     iterate 2 refine pl_t (R := []) hF rfl rfl (yC fun M Z hN hZ => y_move hF rfl) rfl rfl (fun a hF => ?_)
     obtain ⟨x8, h4, H⟩ := bindE H
     refine pl_t (R := []) hF rfl rfl (yC fun M Z hN hZ => y_index (r := (Rp.int .i64)) L22 hF rfl rfl (rdc_ro h_v1) h4) rfl rfl (fun a hF => ?_)
     refine pl_t (R := []) hF rfl rfl (yC fun M Z hN hZ => y_load_el (y := Value.int .i64 x8) (j := 0) (i := x2) hF rfl rfl (rdc_ro h_v1) h4 Fl.int.to T3 rfl) rfl rfl (fun a hF => ?_)
     refine pl_t (R := []) hF rfl rfl (yC fun M Z hN hZ => y_build (v := Value.agg #[.int .i64 x8, .int .i64 0, .slice none 0 0]) B53 hF rfl rfl rfl) rfl rfl (fun a hF => ?_)
     refine pl_f rfl ?_
     have hW := hW.nlZ (Nl.sl (e' := 55) (r := R55))
     have hW := hW.addEmp
     have hW := hW.pairZ (D := (Dp.fl 1 (fun a => [.int .i64 a]) (fun _ => rfl))) (p := 0) (q := (Value.slice none 0 0, 2, []))
     have hW := hW.addEmp
     have hW := hW.pairZ (D := (Dp.fl 1 (fun a => [.int .i64 a]) (fun _ => rfl))) (p := x8) (q := (0, (Value.slice none 0 0, 2, [])))
     refine l_lit (z := Value.agg #[.int .i64 0, .int .i64 0, .slice none 0 0]) (cs := [.int .i64 x8, .int .i64 0, .slice none 0 0]) DP53.hr ([(x8, 0, (Value.slice none 0 0, 2, []))] : List (Int × Int × (Value × Nat × List (Int × Int)))) hF hW rfl L38 Z53 rfl rfl rfl (fill_cons rfl rfl rfl fill_nil) rfl rfl ⟨[Value.int .i64 x8, Value.int .i64 0, Value.slice none 0 0], _, rfl, ⟨rfl, (one_cons rfl (one_cons rfl (one_cons rfl one_nil)))⟩, rfl⟩ (fun v4 a w hF hW => ?_)
     have hW := Stw.dShutL (D := DP53) (lx := ([(x8, 0, (Value.slice none 0 0, 2, []))] : List (Int × Int × (Value × Nat × List (Int × Int))))) hW
     have h5 : List.map ERD53 ([(x8, 0, (Value.slice none 0 0, 2, []))] : List (Int × Int × (Value × Nat × List (Int × Int)))) = ([(x8, 0, (2, []))] : List (Int × Int × (Nat × List (Int × Int)))) := rfl
     have hW : Stw ⟨Y, [], w0⟩ [(b1, [.int .i64 0, .int .i64 p1, v3])] [drow v4 53 DP53 ([(x8, 0, (Value.slice none 0 0, 2, []))] : List (Int × Int × (Value × Nat × List (Int × Int)))), drow v3 53 DP53 g_x5.1] w := hW
     refine pl_next (N2 := []) (NZ2 := []) (N3 := [(some 11, b1, [.int .i64 0, .int .i64 p1, v3])]) (NZ3 := []) hW rfl rfl (all_cons (fun _ => (.head _)) all_nil) all_nil ?_
     refine pl_f rfl ?_
     have hW := hW.frontZ (i := 1) rfl rfl
     obtain ⟨x9, h6, H⟩ := bindE H
     refine l_append_d (D := DP53) hF hW rfl L38 rfl rfl (app_ex (er := ERD53) g_x5.2 h5 h6).1 rfl (fun v5 a w hF hW => ?_)
     have h7 : List.map ERD53 (g_x5.1 ++ ([(x8, 0, (Value.slice none 0 0, 2, []))] : List (Int × Int × (Value × Nat × List (Int × Int))))) = x9 := (app_ex (er := ERD53) g_x5.2 h5 h6).2
     have hW : Stw ⟨Y, [], w0⟩ [(b1, [.int .i64 0, .int .i64 p1, v3])] [drow v5 53 DP53 (g_x5.1 ++ ([(x8, 0, (Value.slice none 0 0, 2, []))] : List (Int × Int × (Value × Nat × List (Int × Int)))))] w := hW
     refine pl_next (N2 := []) (NZ2 := []) (N3 := [(some 11, b1, [.int .i64 0, .int .i64 p1, v3])]) (NZ3 := []) hW rfl rfl (all_cons (fun h => rel_dead (by kernel_rfl) h) all_nil) all_nil ?_
     refine pl_t (R := []) hF rfl rfl (yC fun M Z hN hZ => y_nilCheck hF rfl) rfl rfl (fun a hF => ?_)
     refine pl_t (R := []) hF rfl rfl (yC fun M Z hN hZ => y_fieldAddr u40_ rfl rfl rfl T38 hF rfl 2 rfl) rfl rfl (fun a hF => ?_)
     refine pl_f rfl ?_
     refine l_store1 (M' := [(b1, [.int .i64 0, .int .i64 p1, v5])]) 0 hF hW rfl rfl rfl T38 (hW.oneD 0 rfl) rfl rfl (fun w hW => ?_)
     refine pl_next (N2 := []) (NZ2 := []) (N3 := [(some 11, b1, [.int .i64 0, .int .i64 p1, v3])]) (NZ3 := []) hW rfl rfl (all_cons (fun h => rel_dead (by kernel_rfl) h) all_nil) all_nil ?_
     refine pl_end ?_
     refine b_normal ?_
     refine c_then ?_
     refine reg_list ?_
     refine ls hF hW rfl ((y_move hF rfl).q) (fun a w hF hW => ?_)
     refine ls hF hW rfl ((y_add hF rfl rfl rfl).q) (fun a w hF hW => ?_)
     refine ls hF hW rfl ((y_assign hF rfl).q) (fun a w hF hW => ?_)
     refine ls_nil (c_then ?_)
     exact ⟨_, H, (v5), ⟨(g_x5.1 ++ ([(x8, 0, (Value.slice none 0 0, 2, []))] : List (Int × Int × (Value × Nat × List (Int × Int))))), h7⟩, hF.re ⟨rfl, rfl, rfl, rfl, trivial⟩, hW⟩
   ·
    have H := iteF (of_decide_eq_false hb) H
    rw [hb] at hF
    clear hb
    refine wr_exit ?_
    iterate 2 refine e_then ?_
    refine e_block ?_
    refine c_then ?_
    have H := L2 _ H
    exact ⟨_, (v3), ⟨g_x3.1, g_x3.2⟩, H, hF.re ⟨rfl, rfl, trivial⟩, hW⟩
  rintro a w ⟨x1, v2, g_x1, hj, hF, hW⟩
  have H := K1 _ hj
  clear hj G1 K1 L1
  refine c_seq (reg_list ?_)
  refine ls hF hW rfl ((y_move hF rfl).q) (fun a w hF hW => ?_)
  refine ls hF hW rfl ((y_assign hF rfl).q) (fun a w hF hW => ?_)
  refine ls_nil (c_then ?_)
  refine wr_ret ?_
  have H := Option.some.inj H
  subst H
  refine post1 (.inl rfl) hF hW rfl (rv_tmp hF rfl) ?_
  exact ⟨(b1, (v2), ⟨g_x1.1, g_x1.2⟩), rfl, hW⟩

theorem u23_ : type_of% Try.underlying23 := Try.underlying23
theorem u24_ : type_of% Try.underlying24 := Try.underlying24
theorem H8 : Has Try.prog 8 := ⟨fun args w => run_callFunc_body Try.func8 rfl (by decide) args w⟩
theorem L23 : Et Try.prog 23 32 3 24 := Et.of u23_ (by kernel_rfl) (by kernel_rfl) (by kernel_rfl) (by decide)
def E32 (a : Int × Int × Int) : List Value := [.int .i64 a.1, .int .i64 a.2.1, .int .i64 a.2.2]
theorem F32 : Fl R32 E32 := (Fl.pair Fl.int (Fl.pair Fl.int Fl.int))
noncomputable def clock_Clocks_Tick_l1 (p0 : Int × Int × (List (Int × Int × Int))) (p1 : Int) : (Int × (List (Int × Int × Int))) → Option ((Int × (List (Int × Int × Int))) ⊕ (Int × Int × (List (Int × Int × Int))))
  | (x1, x2) => (if x1 < (p0.2.2.length : Int) then (ix x2 x1).bind fun x3 => (ix x2 x1).bind fun x4 => (ix x2 x1).bind fun x5 => some (.inl (w64 (x1 + 1), (setAt x2 x1 (x5.1, x5.2.1, w64 (x3.2.2 + (w64 ((min p1 (w64 (1099511627776 - p0.1))) * x4.2.1))))))) else some (.inr (w64 (p0.1 + (min p1 (w64 (1099511627776 - p0.1)))), p0.2.1, x2)))
noncomputable def clock_Clocks_Tick (p0 : Int × Int × (List (Int × Int × Int))) (p1 : Int) : Option (Int × Int × (List (Int × Int × Int))) := (if p1 < 0 then some p0 else loopW (clock_Clocks_Tick_l1 p0 p1) (0, p0.2.2))
theorem clock_Clocks_Tick_c (Y : Nat → Prop) (X : List Nat) (w0 : World) (q_p0 : Nat) (v1 : Value) (p0 : Int × Int × (List (Int × Int × Int))) (p1 : Int) (r : (Int × Int × (List (Int × Int × Int)))) (H : clock_Clocks_Tick p0 p1 = some r) (hL : Stw ⟨Y, X, w0⟩ [(q_p0, [.int .i64 p0.1, .int .i64 p0.2.1, v1])] [row v1 50 R50 p0.2.2] w0) :
    Calls Try.prog 10 #[.pointer (some ⟨q_p0, 0, none⟩), .int .i64 p1] w0 fun e w' => ∃ x : Value, e = .returned (.tuple #[]) ∧ Stw ⟨Y, X, w0⟩ [(q_p0, [.int .i64 r.1, .int .i64 r.2.1, x])] [row (x) 50 R50 r.2.2] w' := by
 refine enter Try.func10 rfl Try.ntmps10 rfl (fun a hF => ?_)
 have hW := hL
 unfold clock_Clocks_Tick at H
 refine c_seq ?_
 refine c_seq (reg_list ?_)
 refine ls hF hW rfl ((y_move hF rfl).q) (fun a w hF hW => ?_)
 refine ls hF hW rfl ((y_peq_some_nil u24_ hF rfl rfl).q) (fun a w hF hW => ?_)
 refine ls hF hW rfl ((y_move hF rfl).q) (fun a w hF hW => ?_)
 refine ls_w hF hW (wanted_y hF rfl rfl rfl rfl) rfl (Nat.le_of_ble_eq_true rfl) ((y_move hF rfl).q) (fun a w hF hW => ?_)
 refine ls_w hF hW (wanted_y hF rfl rfl rfl rfl) rfl (Nat.le_of_ble_eq_true rfl) ((y_lss hF rfl rfl).q) (fun a w hF hW => ?_)
 refine ls hF hW rfl ((y_pick_f hF rfl rfl rfl).q) (fun a w hF hW => ?_)
 refine ls_nil (c_then ?_)
 refine c_cond hF rfl (fun hb => ?_) (fun hb => ?_)
 ·
  have H := iteT (of_decide_eq_true hb) H
  rw [hb] at hF
  clear hb
  refine wr_ret ?_
  refine r_then ?_
  have H := Option.some.inj H
  subst H
  refine post0 (.inl rfl) hF rfl ?_
  exact ⟨(v1), rfl, hW⟩
 ·
  have H := iteF (of_decide_eq_false hb) H
  rw [hb] at hF
  clear hb
  refine wr_skip ?_
  refine c_then ?_
  refine c_seq (reg_list ?_)
  iterate 2 refine ls hF hW rfl ((y_move hF rfl).q) (fun a w hF hW => ?_)
  refine ls hF hW rfl ((y_nilCheck hF rfl).q) (fun a w hF hW => ?_)
  refine ls hF hW rfl ((y_fieldAddr u48_ rfl rfl rfl T3 hF rfl 0 rfl).q) (fun a w hF hW => ?_)
  refine ls hF hW rfl ((y_load (v := Value.int .i64 p0.1) 0 hF rfl rfl T3 rfl).q) (fun a w hF hW => ?_)
  refine ls hF hW rfl ((y_sub hF rfl rfl rfl).q) (fun a w hF hW => ?_)
  refine ls hF hW rfl ((y_min hF rfl rfl).q) (fun a w hF hW => ?_)
  refine ls hF hW rfl ((y_assign hF rfl).q) (fun a w hF hW => ?_)
  refine ls_nil (c_then ?_)
  refine c_seq (reg_list ?_)
  refine ls hF hW rfl ((y_move hF rfl).q) (fun a w hF hW => ?_)
  refine ls hF hW rfl ((y_nilCheck hF rfl).q) (fun a w hF hW => ?_)
  refine ls hF hW rfl ((y_fieldAddr u48_ rfl rfl rfl T3 hF rfl 0 rfl).q) (fun a w hF hW => ?_)
  refine ls hF hW rfl ((y_load (v := Value.int .i64 p0.1) 0 hF rfl rfl T3 rfl).q) (fun a w hF hW => ?_)
  refine ls hF hW rfl ((y_move hF rfl).q) (fun a w hF hW => ?_)
  refine ls hF hW rfl ((y_add hF rfl rfl rfl).q) (fun a w hF hW => ?_)
  refine ls hF hW rfl ((y_nilCheck hF rfl).q) (fun a w hF hW => ?_)
  refine ls hF hW rfl ((y_fieldAddr u48_ rfl rfl rfl T3 hF rfl 0 rfl).q) (fun a w hF hW => ?_)
  refine l_store (vs := [.int .i64 (w64 (p0.1 + (min p1 (w64 (1099511627776 - p0.1)))))]) (M' := [(q_p0, [.int .i64 (w64 (p0.1 + (min p1 (w64 (1099511627776 - p0.1))))), .int .i64 p0.2.1, v1])]) 0 hF hW rfl rfl rfl T3 rfl rfl rfl rfl rfl (fun w hW => ?_)
  refine ls_nil (c_then ?_)
  refine c_seq (reg_list ?_)
  refine ls hF hW rfl ((y_move hF rfl).q) (fun a w hF hW => ?_)
  refine ls hF hW rfl ((y_nilCheck hF rfl).q) (fun a w hF hW => ?_)
  refine ls hF hW rfl ((y_fieldAddr u48_ rfl rfl rfl T46 hF rfl 2 rfl).q) (fun a w hF hW => ?_)
  refine ls hF hW rfl ((y_load (v := v1) 0 hF rfl rfl T46 rfl).q) (fun a w hF hW => ?_)
  refine ls hF hW rfl ((y_len (r := R50) (l := p0.2.2) u46_ rfl hF rfl (rdc_row 0 rfl)).q) (fun a w hF hW => ?_)
  refine ls hF hW rfl ((y_move hF rfl).q) (fun a w hF hW => ?_)
  refine ls_nil (c_then ?_)
  refine wr_block ?_
  refine c_loopW H (fun s a w => Fr 56 [] [(0, .pointer (some ⟨q_p0, 0, none⟩)), (1, .int .i64 (min p1 (w64 (1099511627776 - p0.1)))), (30, .int .i64 (p0.2.2.length : Int)), (31, .int .i64 s.1)] a ∧ Stw ⟨Y, X, w0⟩ [(q_p0, [.int .i64 (w64 (p0.1 + (min p1 (w64 (1099511627776 - p0.1))))), .int .i64 p0.2.1, v1])] [row v1 50 R50 s.2] w) ⟨hF.re ⟨rfl, rfl, rfl, rfl, trivial⟩, hW⟩ (fun s o a w H L1 hR => ?_)
  obtain ⟨x1, x2⟩ := s
  obtain ⟨hF, hW⟩ := hR
  have hF : Fr 56 [] [(0, .pointer (some ⟨q_p0, 0, none⟩)), (1, .int .i64 (min p1 (w64 (1099511627776 - p0.1)))), (30, .int .i64 (p0.2.2.length : Int)), (31, .int .i64 x1)] a := hF
  have hW : Stw ⟨Y, X, w0⟩ [(q_p0, [.int .i64 (w64 (p0.1 + (min p1 (w64 (1099511627776 - p0.1))))), .int .i64 p0.2.1, v1])] [row v1 50 R50 x2] w := hW
  rw [clock_Clocks_Tick_l1] at H
  refine c_seq (reg_list ?_)
  refine ls hF hW rfl ((y_lss hF rfl rfl).q) (fun a w hF hW => ?_)
  refine ls_nil (c_then ?_)
  refine c_seq ?_
  refine c_cond hF rfl (fun hb => ?_) (fun hb => ?_)
  ·
   have H := iteT (of_decide_eq_true hb) H
   rw [hb] at hF
   clear hb
   refine wr_skip ?_
   refine c_then ?_
   refine c_seq ?_
   refine wr_block ?_
   refine c_seq (reg_list ?_)
   refine ls hF hW rfl ((y_move hF rfl).q) (fun a w hF hW => ?_)
   refine ls hF hW rfl ((y_assign hF rfl).q) (fun a w hF hW => ?_)
   refine ls_nil (c_then ?_)
   refine reg_tail 21 hW MO (by kernel_rfl) ?_
   refine qs hF rfl ((y_move hF rfl).q) (fun a hF => ?_)
   refine qs hF rfl ((y_nilCheck hF rfl).q) (fun a hF => ?_)
   refine qs hF rfl ((y_fieldAddr u48_ rfl rfl rfl T46 hF rfl 2 rfl).q) (fun a hF => ?_)
   refine qs hF rfl ((y_load (v := v1) 0 hF rfl rfl T46 rfl).q) (fun a hF => ?_)
   refine qs hF rfl ((y_move hF rfl).q) (fun a hF => ?_)
   obtain ⟨x3, h1, H⟩ := bindE H
   refine qs hF rfl ((y_index (r := R50) L46 hF rfl rfl (rdc_row 0 rfl) h1).q) (fun a hF => ?_)
   refine qs hF rfl ((y_fieldAddr u50_ rfl rfl rfl T3 hF rfl (voff v1 + (x1).toNat * 3 + 2) rfl).q) (fun a hF => ?_)
   refine qs hF rfl ((y_load_el (y := Value.int .i64 x3.2.2) (j := 2) (i := x1) hF rfl rfl (rdc_row 0 rfl) h1 F50.to T3 rfl).q) (fun a hF => ?_)
   iterate 2 refine qs hF rfl ((y_move hF rfl).q) (fun a hF => ?_)
   refine qs hF rfl ((y_nilCheck hF rfl).q) (fun a hF => ?_)
   refine qs hF rfl ((y_fieldAddr u48_ rfl rfl rfl T46 hF rfl 2 rfl).q) (fun a hF => ?_)
   refine qs hF rfl ((y_load (v := v1) 0 hF rfl rfl T46 rfl).q) (fun a hF => ?_)
   refine qs hF rfl ((y_move hF rfl).q) (fun a hF => ?_)
   obtain ⟨x4, h2, H⟩ := bindE H
   refine qs hF rfl ((y_index (r := R50) L46 hF rfl rfl (rdc_row 0 rfl) h2).q) (fun a hF => ?_)
   refine qs hF rfl ((y_fieldAddr u50_ rfl rfl rfl T3 hF rfl (voff v1 + (x1).toNat * 3 + 1) rfl).q) (fun a hF => ?_)
   refine qs hF rfl ((y_load_el (y := Value.int .i64 x4.2.1) (j := 1) (i := x1) hF rfl rfl (rdc_row 0 rfl) h2 F50.to T3 rfl).q) (fun a hF => ?_)
   refine qs hF rfl ((y_mul hF rfl rfl rfl).q) (fun a hF => ?_)
   refine qs hF rfl ((y_add hF rfl rfl rfl).q) (fun a hF => ?_)
   obtain ⟨x5, h3, H⟩ := bindE H
   refine qs hF rfl ((y_index (r := R50) L46 hF rfl rfl (rdc_row 0 rfl) h3).q) (fun a hF => ?_)
   refine qs hF rfl ((y_fieldAddr u50_ rfl rfl rfl T3 hF rfl (voff v1 + (x1).toNat * 3 + 2) rfl).q) (fun a hF => ?_)
   refine quiet_end (fun w hW => ?_)
   refine l_store_el (i := x1) (j := 2) (vs := [.int .i64 (w64 (x3.2.2 + (w64 ((min p1 (w64 (1099511627776 - p0.1))) * x4.2.1))))]) (x' := (x5.1, x5.2.1, w64 (x3.2.2 + (w64 ((min p1 (w64 (1099511627776 - p0.1))) * x4.2.1))))) hF hW rfl rfl rfl (k := 0) rfl rfl h3 T3 rfl rfl rfl rfl (fun A cs _ => F50.sto (by rfl) _ _ _) (fun w hW => ?_)
   refine ls_nil ?_
   refine b_normal ?_
   refine c_then ?_
   refine reg_list ?_
   refine ls hF hW rfl ((y_add hF rfl rfl rfl).q) (fun a w hF hW => ?_)
   refine ls hF hW rfl ((y_move hF rfl).q) (fun a w hF hW => ?_)
   refine ls_nil (c_then ?_)
   exact ⟨_, H, hF.re ⟨rfl, rfl, rfl, rfl, trivial⟩, hW⟩
  ·
   have H := iteF (of_decide_eq_false hb) H
   rw [hb] at hF
   clear hb
   refine wr_exit ?_
   iterate 2 refine e_then ?_
   refine e_block ?_
   have H := L1 _ H
   have H := Option.some.inj H
   subst H
   refine post0 (.inr rfl) hF rfl ?_
   exact ⟨(v1), rfl, hW⟩

theorem u51_ : type_of% Try.underlying51 := Try.underlying51
theorem u55_ : type_of% Try.underlying55 := Try.underlying55
theorem H10 : Has Try.prog 10 := ⟨fun args w => run_callFunc_body Try.func10 rfl (by decide) args w⟩
theorem T51 : Ty Try.prog 51 false 1 := ⟨by kernel_rfl, by kernel_rfl⟩
theorem B55 : Bt Try.prog 55 [.int .i64 0, .int .i64 0] [(0, 1), (1, 1)] := ⟨⟨.agg #[.int .i64 0, .int .i64 0], by kernel_rfl, rfl⟩, ⟨_, u55_, fun w => by kernel_rfl⟩⟩
theorem Z55 : (Try.prog.info? 55).bind (·.zero) = some (.agg #[.int .i64 0, .int .i64 0]) := by kernel_rfl
def E55 (a : Int × Int) : List Value := [.int .i64 a.1, .int .i64 a.2]
theorem F55 : Fl R55 E55 := (Fl.pair Fl.int Fl.int)
theorem L51 : Et Try.prog 51 55 2 16 := Et.of u51_ (by kernel_rfl) (by kernel_rfl) (by kernel_rfl) (by decide)
noncomputable def r14_Clocks_Tick_l1 (p0 : Int × Int × (List (Int × Int × (Nat × List (Int × Int))))) (x1 : Int) : (Int × (List (Int × Int × (Nat × List (Int × Int))))) → Option ((Int × (List (Int × Int × (Nat × List (Int × Int))))) ⊕ (Int × Int × (List (Int × Int × (Nat × List (Int × Int))))))
  | (x2, x3) => (if x2 < (x3.length : Int) then (ix x3 x2).bind fun x4 => (ix x3 x2).bind fun x5 => (own2 x4.2.2.1).bind fun x6 => (app x4.2.2.2 ([(x1, x5.2.1)] : List (Int × Int))).bind fun x7 => (ix (setAt x3 x2 (x4.1, x4.2.1, (0, []))) x2).bind fun x8 => (ix (setAt x3 x2 (x4.1, x4.2.1, (0, []))) x2).bind fun x9 => some (.inl (w64 (x2 + 1), (setAt (setAt x3 x2 (x4.1, x4.2.1, (0, []))) x2 (x9.1, x9.2.1, (2, x7))))) else some (.inr (w64 (p0.1 + x1), p0.2.1, x3)))
noncomputable def r14_Clocks_Tick (p0 : Int × Int × (List (Int × Int × (Nat × List (Int × Int))))) (p1 : Int) : Option (Int × Int × (List (Int × Int × (Nat × List (Int × Int))))) := (if p1 < 0 then some p0 else (if (w64 (1099511627776 - p0.1)) < p1 then some (w64 (1099511627776 - p0.1)) else some p1).bind fun x1 => loopW (r14_Clocks_Tick_l1 p0 x1) (0, p0.2.2))
theorem r14_Clocks_Tick_c (Y : Nat → Prop) (X : List Nat) (w0 : World) (q_p0 : Nat) (v1 : Value) (p0 : Int × Int × (List (Int × Int × (Nat × List (Int × Int))))) (p1 : Int) (d_v1 : {x : List (Int × Int × (Value × Nat × List (Int × Int))) // x.map ERD53 = p0.2.2}) (r : (Int × Int × (List (Int × Int × (Nat × List (Int × Int)))))) (H : r14_Clocks_Tick p0 p1 = some r) (hL : Stw ⟨Y, X, w0⟩ [(q_p0, [.int .i64 p0.1, .int .i64 p0.2.1, v1])] [drow v1 53 DP53 d_v1.1] w0) :
    Calls Try.prog 11 #[.pointer (some ⟨q_p0, 0, none⟩), .int .i64 p1] w0 fun e w' => ∃ x : Value × ({x : List (Int × Int × (Value × Nat × List (Int × Int))) // x.map ERD53 = r.2.2}), e = .returned (.tuple #[]) ∧ Stw ⟨Y, X, w0⟩ [(q_p0, [.int .i64 r.1, .int .i64 r.2.1, x.1])] [drow (x.1) 53 DP53 (x.2.1)] w' := by
 refine enter Try.func11 rfl Try.ntmps11 rfl (fun a hF => ?_)
 have hW := hL
 unfold r14_Clocks_Tick at H
 refine c_seq ?_
 refine c_seq (reg_list ?_)
 refine ls hF hW rfl ((y_move hF rfl).q) (fun a w hF hW => ?_)
 refine ls hF hW rfl ((y_lss hF rfl rfl).q) (fun a w hF hW => ?_)
 refine ls_nil (c_then ?_)
 refine c_cond hF rfl (fun hb => ?_) (fun hb => ?_)
 ·
  have H := iteT (of_decide_eq_true hb) H
  rw [hb] at hF
  clear hb
  refine wr_ret ?_
  refine r_then ?_
  have H := Option.some.inj H
  subst H
  refine post0 (.inl rfl) hF rfl ?_
  exact ⟨((v1), ⟨d_v1.1, d_v1.2⟩), rfl, hW⟩
 ·
  have H := iteF (of_decide_eq_false hb) H
  rw [hb] at hF
  clear hb
  refine wr_skip ?_
  refine c_then ?_
  obtain ⟨o1, G1, K1⟩ := bindE H
  refine c_seqJ (fun a w => ∃ x1 : Int, some (x1) = some o1 ∧ Fr 64 [] [(0, .pointer (some ⟨q_p0, 0, none⟩)), (1, .int .i64 x1)] a ∧ Stw ⟨Y, X, w0⟩ [(q_p0, [.int .i64 p0.1, .int .i64 p0.2.1, v1])] [drow v1 53 DP53 d_v1.1] w) ?_ ?_
  ·
   have H := G1
   clear G1 K1
   refine c_seq (reg_list ?_)
   iterate 2 refine ls hF hW rfl ((y_move hF rfl).q) (fun a w hF hW => ?_)
   refine ls hF hW rfl ((y_nilCheck hF rfl).q) (fun a w hF hW => ?_)
   refine ls hF hW rfl ((y_fieldAddr u40_ rfl rfl rfl T3 hF rfl 0 rfl).q) (fun a w hF hW => ?_)
   refine ls hF hW rfl ((y_load (v := Value.int .i64 p0.1) 0 hF rfl rfl T3 rfl).q) (fun a w hF hW => ?_)
   refine ls hF hW rfl ((y_sub hF rfl rfl rfl).q) (fun a w hF hW => ?_)
   refine ls hF hW rfl ((y_gtr hF rfl rfl).q) (fun a w hF hW => ?_)
   refine ls_nil (c_then ?_)
   refine c_cond hF rfl (fun hb => ?_) (fun hb => ?_)
   ·
    have H := iteT (of_decide_eq_true hb) H
    rw [hb] at hF
    clear hb
    refine reg_list ?_
    refine ls hF hW rfl ((y_move hF rfl).q) (fun a w hF hW => ?_)
    refine ls hF hW rfl ((y_nilCheck hF rfl).q) (fun a w hF hW => ?_)
    refine ls hF hW rfl ((y_fieldAddr u40_ rfl rfl rfl T3 hF rfl 0 rfl).q) (fun a w hF hW => ?_)
    refine ls hF hW rfl ((y_load (v := Value.int .i64 p0.1) 0 hF rfl rfl T3 rfl).q) (fun a w hF hW => ?_)
    refine ls hF hW rfl ((y_sub hF rfl rfl rfl).q) (fun a w hF hW => ?_)
    refine ls hF hW rfl ((y_assign hF rfl).q) (fun a w hF hW => ?_)
    refine ls_nil (c_then ?_)
    exact ⟨_, H, hF.re ⟨rfl, rfl, trivial⟩, hW⟩
   ·
    have H := iteF (of_decide_eq_false hb) H
    rw [hb] at hF
    clear hb
    refine wr_skip ?_
    refine c_then ?_
    exact ⟨_, H, hF.re ⟨rfl, rfl, trivial⟩, hW⟩
  rintro a w ⟨x1, hj, hF, hW⟩
  have hj := Option.some.inj hj
  subst hj
  have H := K1
  clear G1 K1
  refine c_seq (reg_list ?_)
  iterate 2 refine ls hF hW rfl ((y_move hF rfl).q) (fun a w hF hW => ?_)
  refine ls hF hW rfl ((y_nilCheck hF rfl).q) (fun a w hF hW => ?_)
  refine ls hF hW rfl ((y_fieldAddr u40_ rfl rfl rfl T3 hF rfl 0 rfl).q) (fun a w hF hW => ?_)
  refine ls hF hW rfl ((y_load (v := Value.int .i64 p0.1) 0 hF rfl rfl T3 rfl).q) (fun a w hF hW => ?_)
  refine ls hF hW rfl ((y_move hF rfl).q) (fun a w hF hW => ?_)
  refine ls hF hW rfl ((y_add hF rfl rfl rfl).q) (fun a w hF hW => ?_)
  refine ls hF hW rfl ((y_nilCheck hF rfl).q) (fun a w hF hW => ?_)
  refine ls hF hW rfl ((y_fieldAddr u40_ rfl rfl rfl T3 hF rfl 0 rfl).q) (fun a w hF hW => ?_)
  refine l_store (vs := [.int .i64 (w64 (p0.1 + x1))]) (M' := [(q_p0, [.int .i64 (w64 (p0.1 + x1)), .int .i64 p0.2.1, v1])]) 0 hF hW rfl rfl rfl T3 rfl rfl rfl rfl rfl (fun w hW => ?_)
  refine ls_nil (c_then ?_)
  refine c_seq (reg_list ?_)
  refine ls hF hW rfl ((y_assign hF rfl).q) (fun a w hF hW => ?_)
  refine ls_nil (c_then ?_)
  refine wr_block ?_
  refine c_loopW H (fun s a w => ∃ g_x3 : {x : List (Int × Int × (Value × Nat × List (Int × Int))) // x.map ERD53 = s.2}, Fr 64 [] [(0, .pointer (some ⟨q_p0, 0, none⟩)), (1, .int .i64 x1), (4, .int .i64 s.1)] a ∧ Stw ⟨Y, X, w0⟩ [(q_p0, [.int .i64 (w64 (p0.1 + x1)), .int .i64 p0.2.1, v1])] [drow v1 53 DP53 g_x3.1] w) ⟨⟨d_v1.1, d_v1.2⟩, hF.re ⟨rfl, rfl, rfl, trivial⟩, hW⟩ (fun s o a w H L2 hR => ?_)
  obtain ⟨x2, x3⟩ := s
  obtain ⟨g_x3, hF, hW⟩ := hR
  have hF : Fr 64 [] [(0, .pointer (some ⟨q_p0, 0, none⟩)), (1, .int .i64 x1), (4, .int .i64 x2)] a := hF
  have hW : Stw ⟨Y, X, w0⟩ [(q_p0, [.int .i64 (w64 (p0.1 + x1)), .int .i64 p0.2.1, v1])] [drow v1 53 DP53 g_x3.1] w := hW
  rw [r14_Clocks_Tick_l1] at H
  refine c_seq ?_
  refine c_seq (reg_list ?_)
  iterate 2 refine ls hF hW rfl ((y_move hF rfl).q) (fun a w hF hW => ?_)
  refine ls hF hW rfl ((y_nilCheck hF rfl).q) (fun a w hF hW => ?_)
  refine ls hF hW rfl ((y_fieldAddr u40_ rfl rfl rfl T38 hF rfl 2 rfl).q) (fun a w hF hW => ?_)
  refine ls hF hW rfl ((y_load (v := v1) 0 hF rfl rfl T38 rfl).q) (fun a w hF hW => ?_)
  refine ls hF hW rfl ((y_len_d (er := ERD53) g_x3.2 u38_ rfl hF rfl (Rdd.hd (rdd_top 0 rfl))).q) (fun a w hF hW => ?_)
  refine ls hF hW rfl ((y_lss hF rfl rfl).q) (fun a w hF hW => ?_)
  refine ls_nil (c_then ?_)
  refine c_cond hF rfl (fun hb => ?_) (fun hb => ?_)
  ·
   have H := iteT (of_decide_eq_true hb) H
   rw [hb] at hF
   clear hb
   refine wr_skip ?_
   refine c_then ?_
   refine c_seq ?_
   refine wr_block ?_
   refine reg_plan [(true, 0), (true, 1), (true, 2), (true, 3), (true, 4), (true, 5), (true, 6), (true, 7), (true, 8), (true, 9), (true, 10), (true, 11), (true, 12), (true, 13), (true, 14), (true, 15), (true, 16), (true, 17), (true, 18), (true, 19), (true, 20), (true, 21), (true, 22), (false, 23), (false, 24), (true, 25), (true, 26), (false, 27)] (CN ⟨Y, X, w0⟩ [(some 27, q_p0, [.int .i64 (w64 (p0.1 + x1)), .int .i64 p0.2.1, v1]), (some 24, q_p0, [.int .i64 (w64 (p0.1 + x1)), .int .i64 p0.2.1, v1]), (some 23, q_p0, [.int .i64 (w64 (p0.1 + x1)), .int .i64 p0.2.1, v1])] [(some 24, drow v1 53 DP53 g_x3.1), (some 23, drow v1 53 DP53 g_x3.1)]) (fun ch a d v w h => by cases d <;> exact h) MO (by kernel_rfl) hW (fun w hW => ⟨_, _, hW, (all_cons (fun _ => (.head _)) (all_cons (fun _ => (.head _)) (all_cons (fun _ => (.head _)) all_nil))), (all_cons (fun _ => (.head _)) (all_cons (fun _ => (.head _)) all_nil))⟩) (fun w hW => ?_)
   refine pl_t (R := []) hF rfl rfl (yC fun M Z hN hZ => y_move hF rfl) rfl rfl (fun a hF => ?_)
   refine pl_t (R := []) hF rfl rfl (yC fun M Z hN hZ => y_nilCheck hF rfl) rfl rfl (fun a hF => ?_)
   refine pl_t (R := []) hF rfl rfl (yC fun M Z hN hZ => y_fieldAddr u40_ rfl rfl rfl T38 hF rfl 2 rfl) rfl rfl (fun a hF => ?_)
   refine pl_t (R := [27]) hF rfl rfl (yC fun M Z hN hZ => y_load_m (cs := [.int .i64 (w64 (p0.1 + x1)), .int .i64 p0.2.1, v1]) (v := v1) hF rfl (hN ((some 27), q_p0, [.int .i64 (w64 (p0.1 + x1)), .int .i64 p0.2.1, v1]) (.head _) rfl) T38 rfl) (by kernel_rfl) rfl (fun a hF => ?_)
   iterate 2 refine pl_t (R := []) hF rfl rfl (yC fun M Z hN hZ => y_move hF rfl) rfl rfl (fun a hF => ?_)
   refine pl_t (R := []) hF rfl rfl (yC fun M Z hN hZ => y_nilCheck hF rfl) rfl rfl (fun a hF => ?_)
   refine pl_t (R := []) hF rfl rfl (yC fun M Z hN hZ => y_fieldAddr u40_ rfl rfl rfl T38 hF rfl 2 rfl) rfl rfl (fun a hF => ?_)
   refine pl_t (R := [24, 12, 11, 10]) hF rfl rfl (yC fun M Z hN hZ => y_load_m (cs := [.int .i64 (w64 (p0.1 + x1)), .int .i64 p0.2.1, v1]) (v := v1) hF rfl (hN ((some 24), q_p0, [.int .i64 (w64 (p0.1 + x1)), .int .i64 p0.2.1, v1]) (.tail _ (.head _)) rfl) T38 rfl) (by kernel_rfl) rfl (fun a hF => ?_)
   refine pl_t (R := []) hF rfl rfl (yC fun M Z hN hZ => y_move hF rfl) rfl rfl (fun a hF => ?_)
   obtain ⟨x4, h1, H⟩ := bindE H
   obtain ⟨v2, h2, h3⟩ := ix_ex (er := ERD53) g_x3.2 h1
   refine pl_t (R := []) hF rfl rfl (yC fun M Z hN hZ => y_indexV (r := DP53.hr) L38 hF rfl rfl (vs_of hW (Rdd.hd (rdd_top 0 rfl))) h2) rfl rfl (fun a hF => ?_)
   refine pl_t (R := []) hF rfl rfl (yC fun M Z hN hZ => y_fieldAddr u53_ rfl rfl rfl T51 hF rfl (voff v1 + (x2).toNat * 3 + 2) rfl) rfl rfl (fun a hF => ?_)
   have h4 : DP53.cells v2 = [.int .i64 x4.1, .int .i64 x4.2.1, (v2.2.2.1)] := congrArg (fun q : Int × Int × (Nat × List (Int × Int)) => ([.int .i64 q.1, .int .i64 q.2.1, (v2.2.2.1)] : List Value)) h3
   refine pl_t (R := [24]) hF rfl rfl (yC fun M Z hN hZ => y_load_el (y := (v2.2.2.1)) (j := 2) (i := x2) (enc := DP53.cells) hF rfl rfl (Rdd.hd (rdd_m (hZ ((some 24), drow v1 53 DP53 g_x3.1) (.head _) rfl))) h2 DP53.flat T51 (by rw [h4]; rfl)) (by kernel_rfl) rfl (fun a hF => ?_)
   iterate 2 refine pl_t (R := []) hF rfl rfl (yC fun M Z hN hZ => y_move hF rfl) rfl rfl (fun a hF => ?_)
   refine pl_t (R := []) hF rfl rfl (yC fun M Z hN hZ => y_nilCheck hF rfl) rfl rfl (fun a hF => ?_)
   refine pl_t (R := []) hF rfl rfl (yC fun M Z hN hZ => y_fieldAddr u40_ rfl rfl rfl T38 hF rfl 2 rfl) rfl rfl (fun a hF => ?_)
   refine pl_t (R := [23, 22, 21, 20, 19]) hF rfl rfl (yC fun M Z hN hZ => y_load_m (cs := [.int .i64 (w64 (p0.1 + x1)), .int .i64 p0.2.1, v1]) (v := v1) hF rfl (hN ((some 23), q_p0, [.int .i64 (w64 (p0.1 + x1)), .int .i64 p0.2.1, v1]) (.tail _ (.tail _ (.head _))) rfl) T38 rfl) (by kernel_rfl) rfl (fun a hF => ?_)
   refine pl_t (R := []) hF rfl rfl (yC fun M Z hN hZ => y_move hF rfl) rfl rfl (fun a hF => ?_)
   obtain ⟨x5, h5, H⟩ := bindE H
   obtain ⟨v3, h6, h7⟩ := ix_ex (er := ERD53) g_x3.2 h5
   refine pl_t (R := []) hF rfl rfl (yC fun M Z hN hZ => y_indexV (r := DP53.hr) L38 hF rfl rfl (vs_of hW (Rdd.hd (rdd_top 0 rfl))) h6) rfl rfl (fun a hF => ?_)
   refine pl_t (R := []) hF rfl rfl (yC fun M Z hN hZ => y_fieldAddr u53_ rfl rfl rfl T3 hF rfl (voff v1 + (x2).toNat * 3 + 1) rfl) rfl rfl (fun a hF => ?_)
   have h8 : DP53.cells v3 = [.int .i64 x5.1, .int .i64 x5.2.1, (v3.2.2.1)] := congrArg (fun q : Int × Int × (Nat × List (Int × Int)) => ([.int .i64 q.1, .int .i64 q.2.1, (v3.2.2.1)] : List Value)) h7
   refine pl_t (R := [23, 22]) hF rfl rfl (yC fun M Z hN hZ => y_load_el (y := Value.int .i64 x5.2.1) (j := 1) (i := x2) (enc := DP53.cells) hF rfl rfl (Rdd.hd (rdd_m (hZ ((some 23), drow v1 53 DP53 g_x3.1) (.tail _ (.head _)) rfl))) h6 DP53.flat T3 (by rw [h8]; rfl)) (by kernel_rfl) rfl (fun a hF => ?_)
   refine pl_t (R := []) hF rfl rfl (yC fun M Z hN hZ => y_build (v := Value.agg #[.int .i64 x1, .int .i64 x5.2.1]) B55 hF rfl rfl rfl) rfl rfl (fun a hF => ?_)
   refine pl_f rfl ?_
   refine l_lit (z := Value.agg #[.int .i64 0, .int .i64 0]) (cs := [.int .i64 x1, .int .i64 x5.2.1]) R55 ([(x1, x5.2.1)] : List (Int × Int)) hF hW rfl L51 Z55 rfl rfl rfl rfl rfl rfl (F55.repL _ _ ([(x1, x5.2.1)] : List (Int × Int))) (fun v4 a w hF hW => ?_)
   refine pl_next (N2 := []) (NZ2 := []) (N3 := [(some 27, q_p0, [.int .i64 (w64 (p0.1 + x1)), .int .i64 p0.2.1, v1]), (some 24, q_p0, [.int .i64 (w64 (p0.1 + x1)), .int .i64 p0.2.1, v1]), (some 23, q_p0, [.int .i64 (w64 (p0.1 + x1)), .int .i64 p0.2.1, v1])]) (NZ3 := [(some 24, drow v1 53 DP53 g_x3.1), (some 23, drow v1 53 DP53 g_x3.1)]) hW rfl rfl (all_cons (fun _ => (.head _)) (all_cons (fun _ => (.head _)) (all_cons (fun h => rel_dead (by kernel_rfl) h) all_nil))) (all_cons (fun _ => (.tail _ (.head _))) (all_cons (fun h => rel_dead (by kernel_rfl) h) all_nil)) ?_
   refine pl_f rfl ?_
   obtain ⟨x6, h9, H⟩ := bindE H
   have hW := hW.frontZ (i := 1) rfl rfl
   have hW := hW.dTakeR h2 (Foc.snd (Foc.snd Foc.here)) ((congrArg (fun q : Int × Int × (Nat × List (Int × Int)) => q.2.2) h3).trans (Prod.ext (own2_eq h9) rfl))
   have h10 : List.map ERD53 (setAt g_x3.1 x2 (v2.1, v2.2.1, ((v2.2.2.1), 0, []))) = (setAt x3 x2 (x4.1, x4.2.1, (0, []))) := (set_ex g_x3.2 (congrArg (fun q : Int × Int × (Nat × List (Int × Int)) => (q.1, q.2.1, (0, []))) h3))
   have hW : Stw ⟨Y, X, w0⟩ [(q_p0, [.int .i64 (w64 (p0.1 + x1)), .int .i64 p0.2.1, v1])] [row (v2.2.2.1) 55 R55 x4.2.2.2, drow v1 53 DP53 (setAt g_x3.1 x2 (v2.1, v2.2.1, ((v2.2.2.1), 0, []))), row v4 55 R55 ([(x1, x5.2.1)] : List (Int × Int))] w := hW
   obtain ⟨x7, h11, H⟩ := bindE H
   refine l_append (r := R55) (i := 0) hF hW rfl L51 rfl rfl rfl rfl (src_row hW 2 rfl) h11 rfl (fun v5 a w hF hW => ?_)
   have hW : Stw ⟨Y, X, w0⟩ [(q_p0, [.int .i64 (w64 (p0.1 + x1)), .int .i64 p0.2.1, v1])] [row v5 55 R55 x7, drow v1 53 DP53 (setAt g_x3.1 x2 (v2.1, v2.2.1, ((v2.2.2.1), 0, []))), row v4 55 R55 ([(x1, x5.2.1)] : List (Int × Int))] w := hW
   refine pl_next (N2 := []) (NZ2 := []) (N3 := [(some 27, q_p0, [.int .i64 (w64 (p0.1 + x1)), .int .i64 p0.2.1, v1]), (some 24, q_p0, [.int .i64 (w64 (p0.1 + x1)), .int .i64 p0.2.1, v1]), (some 23, q_p0, [.int .i64 (w64 (p0.1 + x1)), .int .i64 p0.2.1, v1])]) (NZ3 := [(some 24, drow v1 53 DP53 g_x3.1), (some 23, drow v1 53 DP53 g_x3.1)]) hW rfl rfl (all_cons (fun _ => (.head _)) (all_cons (fun h => rel_dead (by kernel_rfl) h) (all_cons (fun h => rel_dead (by kernel_rfl) h) all_nil))) (all_cons (fun h => rel_dead (by kernel_rfl) h) (all_cons (fun h => rel_dead (by kernel_rfl) h) all_nil)) ?_
   obtain ⟨x8, h12, H⟩ := bindE H
   obtain ⟨v6, h13, h14⟩ := ix_ex (er := ERD53) h10 h12
   refine pl_t (R := []) hF rfl rfl (yC fun M Z hN hZ => y_indexV (r := DP53.hr) L38 hF rfl rfl (vs_of hW (Rdd.hd (rdd_top 1 rfl))) h13) rfl rfl (fun a hF => ?_)
   refine pl_t (R := []) hF rfl rfl (yC fun M Z hN hZ => y_fieldAddr u53_ rfl rfl rfl T51 hF rfl (voff v1 + (x2).toNat * 3 + 2) rfl) rfl rfl (fun a hF => ?_)
   refine pl_f rfl ?_
   obtain ⟨x9, h15, H⟩ := bindE H
   obtain ⟨v7, h16, h17⟩ := ix_ex (er := ERD53) h10 h15
   have h18 : Value.oneCell' v5 = true := (hW.one (k := 0) rfl)
   have hW := hW.frontZ (i := 1) rfl rfl
   have hW := hW.frontZ (i := 1) rfl rfl
   have hW := hW.toR
   refine l_store_dH (D := DP53) (S := (Dp.sl 55 R55)) (b := (v5, 2, x7)) (i := x2) (j := 2) (Foc.snd (Foc.snd Foc.here)) hF hW rfl rfl rfl h16 T51 (cells_one h18) rfl h18 rfl (fun w hW => ?_)
   have h19 : List.map ERD53 (setAt (setAt g_x3.1 x2 (v2.1, v2.2.1, ((v2.2.2.1), 0, []))) x2 (v7.1, v7.2.1, (v5, 2, x7))) = (setAt (setAt x3 x2 (x4.1, x4.2.1, (0, []))) x2 (x9.1, x9.2.1, (2, x7))) := (set_ex h10 (congrArg (fun q : Int × Int × (Nat × List (Int × Int)) => (q.1, q.2.1, (2, x7))) h17))
   have hW : Stw ⟨Y, X, w0⟩ [(q_p0, [.int .i64 (w64 (p0.1 + x1)), .int .i64 p0.2.1, v1])] [drow v1 53 DP53 (setAt (setAt g_x3.1 x2 (v2.1, v2.2.1, ((v2.2.2.1), 0, []))) x2 (v7.1, v7.2.1, (v5, 2, x7))), row v4 55 R55 ([(x1, x5.2.1)] : List (Int × Int))] w := hW
   refine pl_next (N2 := []) (NZ2 := []) (N3 := [(some 27, q_p0, [.int .i64 (w64 (p0.1 + x1)), .int .i64 p0.2.1, v1]), (some 24, q_p0, [.int .i64 (w64 (p0.1 + x1)), .int .i64 p0.2.1, v1]), (some 23, q_p0, [.int .i64 (w64 (p0.1 + x1)), .int .i64 p0.2.1, v1])]) (NZ3 := [(some 24, drow v1 53 DP53 g_x3.1), (some 23, drow v1 53 DP53 g_x3.1)]) hW rfl rfl (all_cons (fun h => rel_dead (by kernel_rfl) h) (all_cons (fun h => rel_dead (by kernel_rfl) h) (all_cons (fun h => rel_dead (by kernel_rfl) h) all_nil))) (all_cons (fun h => rel_dead (by kernel_rfl) h) (all_cons (fun h => rel_dead (by kernel_rfl) h) all_nil)) ?_
   refine pl_end ?_
   refine b_normal ?_
   refine c_then ?_
   refine reg_list ?_
   refine ls hF hW rfl ((y_move hF rfl).q) (fun a w hF hW => ?_)
   refine ls hF hW rfl ((y_add hF rfl rfl rfl).q) (fun a w hF hW => ?_)
   refine ls hF hW rfl ((y_assign hF rfl).q) (fun a w hF hW => ?_)
   refine ls_nil (c_then ?_)
   have hW := hW.sub (M' := [(q_p0, [.int .i64 (w64 (p0.1 + x1)), .int .i64 p0.2.1, v1])]) (Z' := [drow v1 53 DP53 (setAt (setAt g_x3.1 x2 (v2.1, v2.2.1, ((v2.2.2.1), 0, []))) x2 (v7.1, v7.2.1, (v5, 2, x7)))]) (List.Sublist.refl _) (List.Sublist.cons_cons _ (List.nil_sublist _))
   exact ⟨_, H, ⟨(setAt (setAt g_x3.1 x2 (v2.1, v2.2.1, ((v2.2.2.1), 0, []))) x2 (v7.1, v7.2.1, (v5, 2, x7))), h19⟩, hF.re ⟨rfl, rfl, rfl, trivial⟩, hW⟩
  ·
   have H := iteF (of_decide_eq_false hb) H
   rw [hb] at hF
   clear hb
   refine wr_exit ?_
   iterate 2 refine e_then ?_
   refine e_block ?_
   have H := L2 _ H
   have H := Option.some.inj H
   subst H
   refine post0 (.inr rfl) hF rfl ?_
   exact ⟨((v1), ⟨g_x3.1, g_x3.2⟩), rfl, hW⟩

theorem H11 : Has Try.prog 11 := ⟨fun args w => run_callFunc_body Try.func11 rfl (by decide) args w⟩
def clock_Clocks_has (p0 : Int × Int × (List (Int × Int × Int))) (p1 : Int) : Bool := (decide (0 ≤ p1) && decide (p1 < (p0.2.2.length : Int)))
theorem clock_Clocks_has_c (Y : Nat → Prop) (w0 : World) (q_p0 : Nat) (v1 : Value) (p0 : Int × Int × (List (Int × Int × Int))) (p1 : Int) (r : Bool) (H : clock_Clocks_has p0 p1 = r) (h_v1 : Sl w0 (NX []) R50 v1 p0.2.2) (a_q_p0 : At ⟨Y, [], w0⟩ q_p0 0 [.int .i64 p0.1, .int .i64 p0.2.1, v1]) :
    Calls Try.prog 22 #[.pointer (some ⟨q_p0, 0, none⟩), .int .i64 p1] w0 fun e w' => e = .returned (.bool r) ∧ Below w0.heap.size w0 w' := by
 refine enter Try.func22 rfl Try.ntmps22 rfl (fun a hF => ?_)
 have hW := Stw.start Y w0
 unfold clock_Clocks_has at H
 refine c_seq (reg_list ?_)
 refine ls hF hW rfl ((y_assign hF rfl).q) (fun a w hF hW => ?_)
 refine ls_nil (c_then ?_)
 refine c_seqJ (fun a w => Fr 20 [] [(4, .bool (decide (0 ≤ p1) && decide (p1 < (p0.2.2.length : Int))))] a ∧ Stw ⟨Y, [], w0⟩ [] [] w) ?_ ?_
 ·
  refine reg_list ?_
  refine ls hF hW rfl ((y_move hF rfl).q) (fun a w hF hW => ?_)
  refine ls hF hW rfl ((y_pne_some_nil u24_ hF rfl rfl).q) (fun a w hF hW => ?_)
  refine ls hF hW rfl ((y_move hF rfl).q) (fun a w hF hW => ?_)
  refine ls_w hF hW (wanted_y hF rfl rfl rfl rfl) rfl (Nat.le_of_ble_eq_true rfl) ((y_move hF rfl).q) (fun a w hF hW => ?_)
  refine ls_w hF hW (wanted_y hF rfl rfl rfl rfl) rfl (Nat.le_of_ble_eq_true rfl) ((y_geq hF rfl rfl).q) (fun a w hF hW => ?_)
  refine ls hF hW rfl ((y_pick_t hF rfl rfl rfl).q) (fun a w hF hW => ?_)
  refine ls hF hW rfl ((y_move hF rfl).q) (fun a w hF hW => ?_)
  rcases Bool.eq_false_or_eq_true (decide (0 ≤ p1)) with hb0 | hb0
  ·
   rw [hb0] at hF
   iterate 2 refine ls_w hF hW (wanted_y hF rfl rfl rfl rfl) rfl (Nat.le_of_ble_eq_true rfl) ((y_move hF rfl).q) (fun a w hF hW => ?_)
   refine ls_w hF hW (wanted_y hF rfl rfl rfl rfl) rfl (Nat.le_of_ble_eq_true rfl) ((y_nilCheck hF rfl).q) (fun a w hF hW => ?_)
   refine ls_w hF hW (wanted_y hF rfl rfl rfl rfl) rfl (Nat.le_of_ble_eq_true rfl) ((y_fieldAddr u48_ rfl rfl rfl T46 hF rfl 2 rfl).q) (fun a w hF hW => ?_)
   refine ls_w hF hW (wanted_y hF rfl rfl rfl rfl) rfl (Nat.le_of_ble_eq_true rfl) ((y_load_at (y := v1) (j := 2) hF rfl (Nat.zero_add _).symm a_q_p0 T46 rfl).q) (fun a w hF hW => ?_)
   refine ls_w hF hW (wanted_y hF rfl rfl rfl rfl) rfl (Nat.le_of_ble_eq_true rfl) ((y_len (r := R50) (l := p0.2.2) u46_ rfl hF rfl (rdc_ro h_v1)).q) (fun a w hF hW => ?_)
   refine ls_w hF hW (wanted_y hF rfl rfl rfl rfl) rfl (Nat.le_of_ble_eq_true rfl) ((y_lss hF rfl rfl).q) (fun a w hF hW => ?_)
   refine ls hF hW rfl ((y_pick_t hF rfl rfl rfl).q) (fun a w hF hW => ?_)
   refine ls hF hW rfl ((y_assign hF rfl).q) (fun a w hF hW => ?_)
   refine ls_nil (c_then ?_)
   exact ⟨hF.re ⟨(by show some (Value.bool (decide (p1 < (p0.2.2.length : Int)))) = some (Value.bool (decide (0 ≤ p1) && decide (p1 < (p0.2.2.length : Int)))); try rw [hb0]; all_goals simp only [Bool.not_true, Bool.not_false, Bool.true_and, Bool.false_and, Bool.true_or, Bool.false_or, Bool.and_true, Bool.or_false, cond_true, cond_false]), trivial⟩, hW⟩
  ·
   rw [hb0] at hF
   iterate 7 refine lsn hF rfl rfl rfl rfl rfl rfl rfl (fun a hF => ?_)
   refine ls hF hW rfl ((y_pick_f hF rfl rfl rfl).q) (fun a w hF hW => ?_)
   refine ls hF hW rfl ((y_assign hF rfl).q) (fun a w hF hW => ?_)
   refine ls_nil (c_then ?_)
   exact ⟨hF.re ⟨(by show some (Value.bool false) = some (Value.bool (decide (0 ≤ p1) && decide (p1 < (p0.2.2.length : Int)))); try rw [hb0]; all_goals simp only [Bool.not_true, Bool.not_false, Bool.true_and, Bool.false_and, Bool.true_or, Bool.false_or, Bool.and_true, Bool.or_false, cond_true, cond_false]), trivial⟩, hW⟩
 rintro a w ⟨hF, hW⟩
 refine wr_ret ?_
 subst H
 refine post1 (.inl rfl) hF hW rfl (rv_tmp hF rfl) ?_
 exact ⟨rfl, hW.done⟩

theorem H22 : Has Try.prog 22 := ⟨fun args w => run_callFunc_body Try.func22 rfl (by decide) args w⟩
noncomputable def clock_Clocks_Rate (p0 : Int × Int × (List (Int × Int × Int))) (p1 : Int) (p2 : Int) : Option (Int × (Int × Int × (List (Int × Int × Int)))) := (if (!(clock_Clocks_has p0 p1)) = true then some (7, p0) else (if (decide (p2 < (w64 (0 - p0.2.1))) || decide (p0.2.1 < p2)) = true then some (2, p0) else (ix p0.2.2 p1).bind fun x1 => some (0, (p0.1, p0.2.1, (setAt p0.2.2 p1 (x1.1, p2, x1.2.2))))))
theorem clock_Clocks_Rate_c (Y : Nat → Prop) (X : List Nat) (w0 : World) (q_p0 : Nat) (v1 : Value) (p0 : Int × Int × (List (Int × Int × Int))) (p1 : Int) (p2 : Int) (r : Int × (Int × Int × (List (Int × Int × Int)))) (H : clock_Clocks_Rate p0 p1 p2 = some r) (hL : Stw ⟨Y, X, w0⟩ [(q_p0, [.int .i64 p0.1, .int .i64 p0.2.1, v1])] [row v1 50 R50 p0.2.2] w0) :
    Calls Try.prog 12 #[.pointer (some ⟨q_p0, 0, none⟩), .int .i64 p1, .int .i64 p2] w0 fun e w' => ∃ x : Value, e = .returned (.int .i64 r.1) ∧ Stw ⟨Y, X, w0⟩ [(q_p0, [.int .i64 r.2.1, .int .i64 r.2.2.1, x])] [row (x) 50 R50 r.2.2.2] w' := by
 refine enter Try.func12 rfl Try.ntmps12 rfl (fun a hF => ?_)
 have hW := hL
 unfold clock_Clocks_Rate at H
 refine c_seq (reg_list ?_)
 refine ls hF hW rfl ((y_assign hF rfl).q) (fun a w hF hW => ?_)
 refine ls_nil (c_then ?_)
 refine c_seq ?_
 refine c_seq (reg_list ?_)
 iterate 2 refine ls hF hW rfl ((y_move hF rfl).q) (fun a w hF hW => ?_)
 refine ls hF hW rfl (y_call (v := Value.bool (clock_Clocks_has p0 p1)) hF H22 rfl (fun w hW => clock_Clocks_has_c any w q_p0 (v1) p0 p1 _ rfl (((rdc_row 0 rfl) : Rdc _ _ _ _ _ _) w hW).nx (at_M hW 0 rfl))) (fun a w hF hW => ?_)
 refine ls hF hW rfl ((y_not hF rfl).q) (fun a w hF hW => ?_)
 refine ls_nil (c_then ?_)
 refine c_cond hF rfl (fun hb => ?_) (fun hb => ?_)
 ·
  have H := iteT hb H
  rw [hb] at hF
  clear hb
  refine c_seq (reg_list ?_)
  refine ls hF hW rfl ((y_assign hF rfl).q) (fun a w hF hW => ?_)
  refine ls_nil (c_then ?_)
  refine wr_ret ?_
  refine r_then ?_
  have H := Option.some.inj H
  subst H
  refine post1 (.inl rfl) hF hW rfl (rv_tmp hF rfl) ?_
  exact ⟨(v1), rfl, hW⟩
 ·
  have H := iteF (by rw [hb]; decide) H
  rw [hb] at hF
  clear hb
  refine wr_skip ?_
  refine c_then ?_
  refine c_seq ?_
  refine c_seqJ (fun a w => Fr 34 [] [(0, .pointer (some ⟨q_p0, 0, none⟩)), (1, .int .i64 p1), (2, .int .i64 p2), (6, .int .i64 0), (25, .bool (decide (p2 < (w64 (0 - p0.2.1))) || decide (p0.2.1 < p2)))] a ∧ Stw ⟨Y, X, w0⟩ [(q_p0, [.int .i64 p0.1, .int .i64 p0.2.1, v1])] [row v1 50 R50 p0.2.2] w) ?_ ?_
  ·
   refine reg_list ?_
   iterate 2 refine ls hF hW rfl ((y_move hF rfl).q) (fun a w hF hW => ?_)
   refine ls hF hW rfl ((y_nilCheck hF rfl).q) (fun a w hF hW => ?_)
   refine ls hF hW rfl ((y_fieldAddr u48_ rfl rfl rfl T3 hF rfl 1 rfl).q) (fun a w hF hW => ?_)
   refine ls hF hW rfl ((y_load (v := Value.int .i64 p0.2.1) 0 hF rfl rfl T3 rfl).q) (fun a w hF hW => ?_)
   refine ls hF hW rfl ((y_neg hF rfl rfl).q) (fun a w hF hW => ?_)
   refine ls hF hW rfl ((y_lss hF rfl rfl).q) (fun a w hF hW => ?_)
   refine ls hF hW rfl ((y_move hF rfl).q) (fun a w hF hW => ?_)
   rcases Bool.eq_false_or_eq_true (decide (p2 < (w64 (0 - p0.2.1)))) with hb0 | hb0
   ·
    rw [hb0] at hF
    iterate 6 refine lsn hF rfl rfl rfl rfl rfl rfl rfl (fun a hF => ?_)
    refine ls hF hW rfl ((y_pick_t hF rfl rfl rfl).q) (fun a w hF hW => ?_)
    refine ls_nil (c_then ?_)
    exact ⟨hF.re ⟨rfl, rfl, rfl, rfl, (by show some (Value.bool true) = some (Value.bool (decide (p2 < (w64 (0 - p0.2.1))) || decide (p0.2.1 < p2))); try rw [hb0]; all_goals simp only [Bool.not_true, Bool.not_false, Bool.true_and, Bool.false_and, Bool.true_or, Bool.false_or, Bool.and_true, Bool.or_false, cond_true, cond_false]), trivial⟩, hW⟩
   ·
    rw [hb0] at hF
    iterate 2 refine ls_w hF hW (wanted_y hF rfl rfl rfl rfl) rfl (Nat.le_of_ble_eq_true rfl) ((y_move hF rfl).q) (fun a w hF hW => ?_)
    refine ls_w hF hW (wanted_y hF rfl rfl rfl rfl) rfl (Nat.le_of_ble_eq_true rfl) ((y_nilCheck hF rfl).q) (fun a w hF hW => ?_)
    refine ls_w hF hW (wanted_y hF rfl rfl rfl rfl) rfl (Nat.le_of_ble_eq_true rfl) ((y_fieldAddr u48_ rfl rfl rfl T3 hF rfl 1 rfl).q) (fun a w hF hW => ?_)
    refine ls_w hF hW (wanted_y hF rfl rfl rfl rfl) rfl (Nat.le_of_ble_eq_true rfl) ((y_load (v := Value.int .i64 p0.2.1) 0 hF rfl rfl T3 rfl).q) (fun a w hF hW => ?_)
    refine ls_w hF hW (wanted_y hF rfl rfl rfl rfl) rfl (Nat.le_of_ble_eq_true rfl) ((y_gtr hF rfl rfl).q) (fun a w hF hW => ?_)
    refine ls hF hW rfl ((y_pick_f hF rfl rfl rfl).q) (fun a w hF hW => ?_)
    refine ls_nil (c_then ?_)
    exact ⟨hF.re ⟨rfl, rfl, rfl, rfl, (by show some (Value.bool (decide (p0.2.1 < p2))) = some (Value.bool (decide (p2 < (w64 (0 - p0.2.1))) || decide (p0.2.1 < p2))); try rw [hb0]; all_goals simp only [Bool.not_true, Bool.not_false, Bool.true_and, Bool.false_and, Bool.true_or, Bool.false_or, Bool.and_true, Bool.or_false, cond_true, cond_false]), trivial⟩, hW⟩
  rintro a w ⟨hF, hW⟩
  refine c_cond hF rfl (fun hb => ?_) (fun hb => ?_)
  ·
   have H := iteT hb H
   rw [hb] at hF
   clear hb
   refine c_seq (reg_list ?_)
   refine ls hF hW rfl ((y_assign hF rfl).q) (fun a w hF hW => ?_)
   refine ls_nil (c_then ?_)
   refine wr_ret ?_
   refine r_then ?_
   have H := Option.some.inj H
   subst H
   refine post1 (.inl rfl) hF hW rfl (rv_tmp hF rfl) ?_
   exact ⟨(v1), rfl, hW⟩
  ·
   have H := iteF (by rw [hb]; decide) H
   rw [hb] at hF
   clear hb
   refine wr_skip ?_
   refine c_then ?_
   refine c_seq (reg_list ?_)
   refine ls hF hW rfl ((y_move hF rfl).q) (fun a w hF hW => ?_)
   refine ls hF hW rfl ((y_nilCheck hF rfl).q) (fun a w hF hW => ?_)
   refine ls hF hW rfl ((y_fieldAddr u48_ rfl rfl rfl T46 hF rfl 2 rfl).q) (fun a w hF hW => ?_)
   refine ls hF hW rfl ((y_load (v := v1) 0 hF rfl rfl T46 rfl).q) (fun a w hF hW => ?_)
   iterate 2 refine ls hF hW rfl ((y_move hF rfl).q) (fun a w hF hW => ?_)
   obtain ⟨x1, h1, H⟩ := bindE H
   refine ls hF hW rfl ((y_index (r := R50) L46 hF rfl rfl (rdc_row 0 rfl) h1).q) (fun a w hF hW => ?_)
   refine ls hF hW rfl ((y_fieldAddr u50_ rfl rfl rfl T3 hF rfl (voff v1 + (p1).toNat * 3 + 1) rfl).q) (fun a w hF hW => ?_)
   refine l_store_el (i := p1) (j := 1) (vs := [.int .i64 p2]) (x' := (x1.1, p2, x1.2.2)) hF hW rfl rfl rfl (k := 0) rfl rfl h1 T3 rfl rfl rfl rfl (fun A cs _ => F50.sto (by rfl) _ _ _) (fun w hW => ?_)
   refine ls_nil (c_then ?_)
   refine c_seq (reg_list ?_)
   refine ls hF hW rfl ((y_assign hF rfl).q) (fun a w hF hW => ?_)
   refine ls_nil (c_then ?_)
   refine wr_ret ?_
   have H := Option.some.inj H
   subst H
   refine post1 (.inl rfl) hF hW rfl (rv_tmp hF rfl) ?_
   exact ⟨(v1), rfl, hW⟩

theorem H12 : Has Try.prog 12 := ⟨fun args w => run_callFunc_body Try.func12 rfl (by decide) args w⟩
def r14_Clocks_Is (p0 : Int × Int × (List (Int × Int × (Nat × List (Int × Int))))) (p1 : Int) : Bool := (decide (0 ≤ p1) && decide (p1 < (p0.2.2.length : Int)))
theorem r14_Clocks_Is_c (Y : Nat → Prop) (X : List Nat) (w0 : World) (q_p0 : Nat) (v1 : Value) (p0 : Int × Int × (List (Int × Int × (Nat × List (Int × Int))))) (p1 : Int) (d_v1 : {x : List (Int × Int × (Value × Nat × List (Int × Int))) // x.map ERD53 = p0.2.2}) (r : Bool) (H : r14_Clocks_Is p0 p1 = r) (hL : Stw ⟨Y, X, w0⟩ [(q_p0, [.int .i64 p0.1, .int .i64 p0.2.1, v1])] [drow v1 53 DP53 d_v1.1] w0) :
    Calls Try.prog 17 #[.pointer (some ⟨q_p0, 0, none⟩), .int .i64 p1] w0 fun e w' => ∃ x : Unit, e = .returned (.bool r) ∧ Stw ⟨Y, X, w0⟩ [(q_p0, [.int .i64 p0.1, .int .i64 p0.2.1, v1])] [drow v1 53 DP53 d_v1.1] w' := by
 refine enter Try.func17 rfl Try.ntmps17 rfl (fun a hF => ?_)
 have hW := hL
 unfold r14_Clocks_Is at H
 refine c_seq (reg_list ?_)
 refine ls hF hW rfl ((y_assign hF rfl).q) (fun a w hF hW => ?_)
 refine ls_nil (c_then ?_)
 refine c_seqJ (fun a w => Fr 16 [] [(4, .bool (decide (0 ≤ p1) && decide (p1 < (p0.2.2.length : Int))))] a ∧ Stw ⟨Y, X, w0⟩ [(q_p0, [.int .i64 p0.1, .int .i64 p0.2.1, v1])] [drow v1 53 DP53 d_v1.1] w) ?_ ?_
 ·
  refine reg_list ?_
  refine ls hF hW rfl ((y_move hF rfl).q) (fun a w hF hW => ?_)
  refine ls hF hW rfl ((y_geq hF rfl rfl).q) (fun a w hF hW => ?_)
  refine ls hF hW rfl ((y_move hF rfl).q) (fun a w hF hW => ?_)
  rcases Bool.eq_false_or_eq_true (decide (0 ≤ p1)) with hb0 | hb0
  ·
   rw [hb0] at hF
   iterate 2 refine ls_w hF hW (wanted_y hF rfl rfl rfl rfl) rfl (Nat.le_of_ble_eq_true rfl) ((y_move hF rfl).q) (fun a w hF hW => ?_)
   refine ls_w hF hW (wanted_y hF rfl rfl rfl rfl) rfl (Nat.le_of_ble_eq_true rfl) ((y_nilCheck hF rfl).q) (fun a w hF hW => ?_)
   refine ls_w hF hW (wanted_y hF rfl rfl rfl rfl) rfl (Nat.le_of_ble_eq_true rfl) ((y_fieldAddr u40_ rfl rfl rfl T38 hF rfl 2 rfl).q) (fun a w hF hW => ?_)
   refine ls_w hF hW (wanted_y hF rfl rfl rfl rfl) rfl (Nat.le_of_ble_eq_true rfl) ((y_load (v := v1) 0 hF rfl rfl T38 rfl).q) (fun a w hF hW => ?_)
   refine ls_w hF hW (wanted_y hF rfl rfl rfl rfl) rfl (Nat.le_of_ble_eq_true rfl) ((y_len_d (er := ERD53) d_v1.2 u38_ rfl hF rfl (Rdd.hd (rdd_top 0 rfl))).q) (fun a w hF hW => ?_)
   refine ls_w hF hW (wanted_y hF rfl rfl rfl rfl) rfl (Nat.le_of_ble_eq_true rfl) ((y_lss hF rfl rfl).q) (fun a w hF hW => ?_)
   refine ls hF hW rfl ((y_pick_t hF rfl rfl rfl).q) (fun a w hF hW => ?_)
   refine ls hF hW rfl ((y_assign hF rfl).q) (fun a w hF hW => ?_)
   refine ls_nil (c_then ?_)
   exact ⟨hF.re ⟨(by show some (Value.bool (decide (p1 < (p0.2.2.length : Int)))) = some (Value.bool (decide (0 ≤ p1) && decide (p1 < (p0.2.2.length : Int)))); try rw [hb0]; all_goals simp only [Bool.not_true, Bool.not_false, Bool.true_and, Bool.false_and, Bool.true_or, Bool.false_or, Bool.and_true, Bool.or_false, cond_true, cond_false]), trivial⟩, hW⟩
  ·
   rw [hb0] at hF
   iterate 7 refine lsn hF rfl rfl rfl rfl rfl rfl rfl (fun a hF => ?_)
   refine ls hF hW rfl ((y_pick_f hF rfl rfl rfl).q) (fun a w hF hW => ?_)
   refine ls hF hW rfl ((y_assign hF rfl).q) (fun a w hF hW => ?_)
   refine ls_nil (c_then ?_)
   exact ⟨hF.re ⟨(by show some (Value.bool false) = some (Value.bool (decide (0 ≤ p1) && decide (p1 < (p0.2.2.length : Int)))); try rw [hb0]; all_goals simp only [Bool.not_true, Bool.not_false, Bool.true_and, Bool.false_and, Bool.true_or, Bool.false_or, Bool.and_true, Bool.or_false, cond_true, cond_false]), trivial⟩, hW⟩
 rintro a w ⟨hF, hW⟩
 refine wr_ret ?_
 subst H
 refine post1 (.inl rfl) hF hW rfl (rv_tmp hF rfl) ?_
 exact ⟨(), rfl, hW⟩

theorem H17 : Has Try.prog 17 := ⟨fun args w => run_callFunc_body Try.func17 rfl (by decide) args w⟩
noncomputable def r14_Clocks_Rate (p0 : Int × Int × (List (Int × Int × (Nat × List (Int × Int))))) (p1 : Int) (p2 : Int) : Option (Int × (Int × Int × (List (Int × Int × (Nat × List (Int × Int)))))) := (if (!(r14_Clocks_Is p0 p1)) = true then some (7, p0) else (if (decide (p0.2.1 < p2) || (decide (p0.2.1 < (w64 (0 - p2))) || decide (p2 < (-500)))) = true then some (2, p0) else (ix p0.2.2 p1).bind fun x1 => (ix p0.2.2 p1).bind fun x2 => some (0, (p0.1, p0.2.1, (setAt p0.2.2 p1 (x2.1, p2, x2.2.2))))))
theorem r14_Clocks_Rate_c (Y : Nat → Prop) (X : List Nat) (w0 : World) (q_p0 : Nat) (v1 : Value) (p0 : Int × Int × (List (Int × Int × (Nat × List (Int × Int))))) (p1 : Int) (p2 : Int) (d_v1 : {x : List (Int × Int × (Value × Nat × List (Int × Int))) // x.map ERD53 = p0.2.2}) (r : Int × (Int × Int × (List (Int × Int × (Nat × List (Int × Int)))))) (H : r14_Clocks_Rate p0 p1 p2 = some r) (hL : Stw ⟨Y, X, w0⟩ [(q_p0, [.int .i64 p0.1, .int .i64 p0.2.1, v1])] [drow v1 53 DP53 d_v1.1] w0) :
    Calls Try.prog 13 #[.pointer (some ⟨q_p0, 0, none⟩), .int .i64 p1, .int .i64 p2] w0 fun e w' => ∃ x : Value × ({x : List (Int × Int × (Value × Nat × List (Int × Int))) // x.map ERD53 = r.2.2.2}), e = .returned (.int .i64 r.1) ∧ Stw ⟨Y, X, w0⟩ [(q_p0, [.int .i64 r.2.1, .int .i64 r.2.2.1, x.1])] [drow (x.1) 53 DP53 (x.2.1)] w' := by
 refine enter Try.func13 rfl Try.ntmps13 rfl (fun a hF => ?_)
 have hW := hL
 unfold r14_Clocks_Rate at H
 refine c_seq (reg_list ?_)
 refine ls hF hW rfl ((y_assign hF rfl).q) (fun a w hF hW => ?_)
 refine ls_nil (c_then ?_)
 refine c_seq ?_
 refine c_seq (reg_list ?_)
 iterate 2 refine ls hF hW rfl ((y_move hF rfl).q) (fun a w hF hW => ?_)
 refine l_callG (Ml := [(q_p0, [.int .i64 p0.1, .int .i64 p0.2.1, v1])]) (Zl := [drow v1 53 DP53 d_v1.1]) (M := []) (Z := []) (β := Unit) (rv := fun x => .bool (r14_Clocks_Is p0 p1)) (MM := fun x => [(q_p0, [.int .i64 p0.1, .int .i64 p0.2.1, v1])]) (ZZ := fun x => [drow v1 53 DP53 d_v1.1]) hF hW H17 rfl rfl (fun hL => r14_Clocks_Is_c _ _ w q_p0 (v1) p0 p1 ⟨d_v1.1, d_v1.2⟩ _ rfl hL) (fun x a w hF hW => ?_)
 have hW : Stw ⟨Y, X, w0⟩ [(q_p0, [.int .i64 p0.1, .int .i64 p0.2.1, v1])] [drow v1 53 DP53 d_v1.1] w := hW
 refine ls hF hW rfl ((y_not hF rfl).q) (fun a w hF hW => ?_)
 refine ls_nil (c_then ?_)
 refine c_cond hF rfl (fun hb => ?_) (fun hb => ?_)
 ·
  have H := iteT hb H
  rw [hb] at hF
  clear hb
  refine c_seq (reg_list ?_)
  refine ls hF hW rfl ((y_assign hF rfl).q) (fun a w hF hW => ?_)
  refine ls_nil (c_then ?_)
  refine wr_ret ?_
  refine r_then ?_
  have H := Option.some.inj H
  subst H
  refine post1 (.inl rfl) hF hW rfl (rv_tmp hF rfl) ?_
  exact ⟨((v1), ⟨d_v1.1, d_v1.2⟩), rfl, hW⟩
 ·
  have H := iteF (by rw [hb]; decide) H
  rw [hb] at hF
  clear hb
  refine wr_skip ?_
  refine c_then ?_
  refine c_seq ?_
  refine c_seqJ (fun a w => Fr 38 [] [(0, .pointer (some ⟨q_p0, 0, none⟩)), (1, .int .i64 p1), (2, .int .i64 p2), (6, .int .i64 0), (29, .bool (decide (p0.2.1 < p2) || (decide (p0.2.1 < (w64 (0 - p2))) || decide (p2 < (-500)))))] a ∧ Stw ⟨Y, X, w0⟩ [(q_p0, [.int .i64 p0.1, .int .i64 p0.2.1, v1])] [drow v1 53 DP53 d_v1.1] w) ?_ ?_
  ·
   refine reg_list ?_
   iterate 2 refine ls hF hW rfl ((y_move hF rfl).q) (fun a w hF hW => ?_)
   refine ls hF hW rfl ((y_nilCheck hF rfl).q) (fun a w hF hW => ?_)
   refine ls hF hW rfl ((y_fieldAddr u40_ rfl rfl rfl T3 hF rfl 1 rfl).q) (fun a w hF hW => ?_)
   refine ls hF hW rfl ((y_load (v := Value.int .i64 p0.2.1) 0 hF rfl rfl T3 rfl).q) (fun a w hF hW => ?_)
   refine ls hF hW rfl ((y_gtr hF rfl rfl).q) (fun a w hF hW => ?_)
   refine ls hF hW rfl ((y_move hF rfl).q) (fun a w hF hW => ?_)
   rcases Bool.eq_false_or_eq_true (decide (p0.2.1 < p2)) with hb0 | hb0
   ·
    rw [hb0] at hF
    iterate 7 refine lsn hF rfl rfl rfl rfl rfl rfl rfl (fun a hF => ?_)
    refine ls hF hW rfl ((y_pick_t hF rfl rfl rfl).q) (fun a w hF hW => ?_)
    refine ls hF hW rfl ((y_move hF rfl).q) (fun a w hF hW => ?_)
    iterate 2 refine lsn hF rfl rfl rfl rfl rfl rfl rfl (fun a hF => ?_)
    refine ls hF hW rfl ((y_pick_t hF rfl rfl rfl).q) (fun a w hF hW => ?_)
    refine ls_nil (c_then ?_)
    exact ⟨hF.re ⟨rfl, rfl, rfl, rfl, (by show some (Value.bool true) = some (Value.bool (decide (p0.2.1 < p2) || (decide (p0.2.1 < (w64 (0 - p2))) || decide (p2 < (-500))))); try rw [hb0]; all_goals simp only [Bool.not_true, Bool.not_false, Bool.true_and, Bool.false_and, Bool.true_or, Bool.false_or, Bool.and_true, Bool.or_false, cond_true, cond_false]), trivial⟩, hW⟩
   ·
    rw [hb0] at hF
    refine ls_w hF hW (wanted_y hF rfl rfl rfl rfl) rfl (Nat.le_of_ble_eq_true rfl) ((y_move hF rfl).q) (fun a w hF hW => ?_)
    refine ls_w hF hW (wanted_y hF rfl rfl rfl rfl) rfl (Nat.le_of_ble_eq_true rfl) ((y_sub hF rfl rfl rfl).q) (fun a w hF hW => ?_)
    refine ls_w hF hW (wanted_y hF rfl rfl rfl rfl) rfl (Nat.le_of_ble_eq_true rfl) ((y_move hF rfl).q) (fun a w hF hW => ?_)
    refine ls_w hF hW (wanted_y hF rfl rfl rfl rfl) rfl (Nat.le_of_ble_eq_true rfl) ((y_nilCheck hF rfl).q) (fun a w hF hW => ?_)
    refine ls_w hF hW (wanted_y hF rfl rfl rfl rfl) rfl (Nat.le_of_ble_eq_true rfl) ((y_fieldAddr u40_ rfl rfl rfl T3 hF rfl 1 rfl).q) (fun a w hF hW => ?_)
    refine ls_w hF hW (wanted_y hF rfl rfl rfl rfl) rfl (Nat.le_of_ble_eq_true rfl) ((y_load (v := Value.int .i64 p0.2.1) 0 hF rfl rfl T3 rfl).q) (fun a w hF hW => ?_)
    refine ls_w hF hW (wanted_y hF rfl rfl rfl rfl) rfl (Nat.le_of_ble_eq_true rfl) ((y_gtr hF rfl rfl).q) (fun a w hF hW => ?_)
    refine ls hF hW rfl ((y_pick_f hF rfl rfl rfl).q) (fun a w hF hW => ?_)
    refine ls hF hW rfl ((y_move hF rfl).q) (fun a w hF hW => ?_)
    rcases Bool.eq_false_or_eq_true (decide (p0.2.1 < (w64 (0 - p2)))) with hb1 | hb1
    ·
     rw [hb1] at hF
     iterate 2 refine lsn hF rfl rfl rfl rfl rfl rfl rfl (fun a hF => ?_)
     refine ls hF hW rfl ((y_pick_t hF rfl rfl rfl).q) (fun a w hF hW => ?_)
     refine ls_nil (c_then ?_)
     exact ⟨hF.re ⟨rfl, rfl, rfl, rfl, (by show some (Value.bool true) = some (Value.bool (decide (p0.2.1 < p2) || (decide (p0.2.1 < (w64 (0 - p2))) || decide (p2 < (-500))))); try rw [hb1]; try rw [hb0]; all_goals simp only [Bool.not_true, Bool.not_false, Bool.true_and, Bool.false_and, Bool.true_or, Bool.false_or, Bool.and_true, Bool.or_false, cond_true, cond_false]), trivial⟩, hW⟩
    ·
     rw [hb1] at hF
     refine ls_w hF hW (wanted_y hF rfl rfl rfl rfl) rfl (Nat.le_of_ble_eq_true rfl) ((y_move hF rfl).q) (fun a w hF hW => ?_)
     refine ls_w hF hW (wanted_y hF rfl rfl rfl rfl) rfl (Nat.le_of_ble_eq_true rfl) ((y_lss hF rfl rfl).q) (fun a w hF hW => ?_)
     refine ls hF hW rfl ((y_pick_f hF rfl rfl rfl).q) (fun a w hF hW => ?_)
     refine ls_nil (c_then ?_)
     exact ⟨hF.re ⟨rfl, rfl, rfl, rfl, (by show some (Value.bool (decide (p2 < (-500)))) = some (Value.bool (decide (p0.2.1 < p2) || (decide (p0.2.1 < (w64 (0 - p2))) || decide (p2 < (-500))))); try rw [hb1]; try rw [hb0]; all_goals simp only [Bool.not_true, Bool.not_false, Bool.true_and, Bool.false_and, Bool.true_or, Bool.false_or, Bool.and_true, Bool.or_false, cond_true, cond_false]), trivial⟩, hW⟩
  rintro a w ⟨hF, hW⟩
  refine c_cond hF rfl (fun hb => ?_) (fun hb => ?_)
  ·
   have H := iteT hb H
   rw [hb] at hF
   clear hb
   refine c_seq (reg_list ?_)
   refine ls hF hW rfl ((y_assign hF rfl).q) (fun a w hF hW => ?_)
   refine ls_nil (c_then ?_)
   refine wr_ret ?_
   refine r_then ?_
   have H := Option.some.inj H
   subst H
   refine post1 (.inl rfl) hF hW rfl (rv_tmp hF rfl) ?_
   exact ⟨((v1), ⟨d_v1.1, d_v1.2⟩), rfl, hW⟩
  ·
   have H := iteF (by rw [hb]; decide) H
   rw [hb] at hF
   clear hb
   refine wr_skip ?_
   refine c_then ?_
   refine c_seq (reg_list ?_)
   refine ls hF hW rfl ((y_move hF rfl).q) (fun a w hF hW => ?_)
   refine ls hF hW rfl ((y_nilCheck hF rfl).q) (fun a w hF hW => ?_)
   refine ls hF hW rfl ((y_fieldAddr u40_ rfl rfl rfl T38 hF rfl 2 rfl).q) (fun a w hF hW => ?_)
   refine ls hF hW rfl ((y_load (v := v1) 0 hF rfl rfl T38 rfl).q) (fun a w hF hW => ?_)
   iterate 2 refine ls hF hW rfl ((y_move hF rfl).q) (fun a w hF hW => ?_)
   obtain ⟨x1, h1, H⟩ := bindE H
   obtain ⟨v2, h2, h3⟩ := ix_ex (er := ERD53) d_v1.2 h1
   refine ls hF hW rfl ((y_index (r := DP53.hr) L38 hF rfl rfl (Rdd.hd (rdd_top 0 rfl)) h2).q) (fun a w hF hW => ?_)
   refine ls hF hW rfl ((y_fieldAddr u53_ rfl rfl rfl T3 hF rfl (voff v1 + (p1).toNat * 3 + 1) rfl).q) (fun a w hF hW => ?_)
   obtain ⟨x2, h4, H⟩ := bindE H
   obtain ⟨v3, h5, h6⟩ := ix_ex (er := ERD53) d_v1.2 h4
   refine l_store_dF (D := DP53) (i := p1) (j := 1) (vs := [.int .i64 p2]) (x' := (v3.1, p2, v3.2.2)) hF hW rfl rfl rfl h5 T3 rfl rfl rfl rfl rfl rfl (fun w hW => ?_)
   have h7 : List.map ERD53 (setAt d_v1.1 p1 (v3.1, p2, v3.2.2)) = (setAt p0.2.2 p1 (x2.1, p2, x2.2.2)) := (set_ex d_v1.2 (congrArg (fun q : Int × Int × (Nat × List (Int × Int)) => (q.1, p2, q.2.2)) h6))
   have hW : Stw ⟨Y, X, w0⟩ [(q_p0, [.int .i64 p0.1, .int .i64 p0.2.1, v1])] [drow v1 53 DP53 (setAt d_v1.1 p1 (v3.1, p2, v3.2.2))] w := hW
   refine ls_nil (c_then ?_)
   refine c_seq (reg_list ?_)
   refine ls hF hW rfl ((y_assign hF rfl).q) (fun a w hF hW => ?_)
   refine ls_nil (c_then ?_)
   refine wr_ret ?_
   have H := Option.some.inj H
   subst H
   refine post1 (.inl rfl) hF hW rfl (rv_tmp hF rfl) ?_
   exact ⟨((v1), ⟨(setAt d_v1.1 p1 (v3.1, p2, v3.2.2)), h7⟩), rfl, hW⟩

theorem H13 : Has Try.prog 13 := ⟨fun args w => run_callFunc_body Try.func13 rfl (by decide) args w⟩
noncomputable def clock_floorThousandth (p0 : Int) : Option Int := (if (Int.tmod p0 1000) < 0 then some (w64 ((w64 (Int.tdiv p0 1000)) - 1)) else some (w64 (Int.tdiv p0 1000))).bind fun x1 => some x1
theorem clock_floorThousandth_c (Y : Nat → Prop) (w0 : World)  (p0 : Int) (r : Int) (H : clock_floorThousandth p0 = some r)  :
    Calls Try.prog 23 #[.int .i64 p0] w0 fun e w' => e = .returned (.int .i64 r) ∧ Below w0.heap.size w0 w' := by
 refine enter Try.func23 rfl Try.ntmps23 rfl (fun a hF => ?_)
 have hW := Stw.start Y w0
 unfold clock_floorThousandth at H
 refine c_seq (reg_list ?_)
 refine ls hF hW rfl ((y_assign hF rfl).q) (fun a w hF hW => ?_)
 refine ls_nil (c_then ?_)
 refine c_seq (reg_list ?_)
 refine ls hF hW rfl ((y_move hF rfl).q) (fun a w hF hW => ?_)
 refine ls hF hW rfl ((y_quo hF rfl rfl (by decide) rfl).q) (fun a w hF hW => ?_)
 refine ls hF hW rfl ((y_assign hF rfl).q) (fun a w hF hW => ?_)
 refine ls_nil (c_then ?_)
 obtain ⟨o1, G1, K1⟩ := bindE H
 refine c_seqJ (fun a w => ∃ x1 : Int, some (x1) = some o1 ∧ Fr 12 [] [(2, .int .i64 0), (3, .int .i64 x1)] a ∧ Stw ⟨Y, [], w0⟩ [] [] w) ?_ ?_
 ·
  have H := G1
  clear G1 K1
  refine c_seq (reg_list ?_)
  refine ls hF hW rfl ((y_move hF rfl).q) (fun a w hF hW => ?_)
  refine ls hF hW rfl ((y_rem hF rfl rfl (by decide) rfl).q) (fun a w hF hW => ?_)
  refine ls hF hW rfl ((y_lss hF rfl rfl).q) (fun a w hF hW => ?_)
  refine ls_nil (c_then ?_)
  refine c_cond hF rfl (fun hb => ?_) (fun hb => ?_)
  ·
   have H := iteT (of_decide_eq_true hb) H
   rw [hb] at hF
   clear hb
   refine reg_list ?_
   refine ls hF hW rfl ((y_move hF rfl).q) (fun a w hF hW => ?_)
   refine ls hF hW rfl ((y_sub hF rfl rfl rfl).q) (fun a w hF hW => ?_)
   refine ls hF hW rfl ((y_assign hF rfl).q) (fun a w hF hW => ?_)
   refine ls_nil (c_then ?_)
   exact ⟨_, H, hF.re ⟨rfl, rfl, trivial⟩, hW⟩
  ·
   have H := iteF (of_decide_eq_false hb) H
   rw [hb] at hF
   clear hb
   refine wr_skip ?_
   refine c_then ?_
   exact ⟨_, H, hF.re ⟨rfl, rfl, trivial⟩, hW⟩
 rintro a w ⟨x1, hj, hF, hW⟩
 have hj := Option.some.inj hj
 subst hj
 have H := K1
 clear G1 K1
 refine c_seq (reg_list ?_)
 refine ls hF hW rfl ((y_move hF rfl).q) (fun a w hF hW => ?_)
 refine ls hF hW rfl ((y_assign hF rfl).q) (fun a w hF hW => ?_)
 refine ls_nil (c_then ?_)
 refine wr_ret ?_
 have H := Option.some.inj H
 subst H
 refine post1 (.inl rfl) hF hW rfl (rv_tmp hF rfl) ?_
 exact ⟨rfl, hW.done⟩

theorem H23 : Has Try.prog 23 := ⟨fun args w => run_callFunc_body Try.func23 rfl (by decide) args w⟩
noncomputable def clock_Clocks_Apart (p0 : Int × Int × (List (Int × Int × Int))) (p1 : Int) : Option Int := (if (!(clock_Clocks_has p0 p1)) = true then some 0 else (ix p0.2.2 p1).bind fun x1 => (ix p0.2.2 p1).bind fun x2 => (clock_floorThousandth x2.2.2).bind fun x3 => some (w64 (x1.1 + x3)))
theorem clock_Clocks_Apart_c (Y : Nat → Prop) (w0 : World) (q_p0 : Nat) (v1 : Value) (p0 : Int × Int × (List (Int × Int × Int))) (p1 : Int) (r : Int) (H : clock_Clocks_Apart p0 p1 = some r) (h_v1 : Sl w0 (NX []) R50 v1 p0.2.2) (a_q_p0 : At ⟨Y, [], w0⟩ q_p0 0 [.int .i64 p0.1, .int .i64 p0.2.1, v1]) :
    Calls Try.prog 18 #[.pointer (some ⟨q_p0, 0, none⟩), .int .i64 p1] w0 fun e w' => e = .returned (.int .i64 r) ∧ Below w0.heap.size w0 w' := by
 refine enter Try.func18 rfl Try.ntmps18 rfl (fun a hF => ?_)
 have hW := Stw.start Y w0
 unfold clock_Clocks_Apart at H
 refine c_seq (reg_list ?_)
 refine ls hF hW rfl ((y_assign hF rfl).q) (fun a w hF hW => ?_)
 refine ls_nil (c_then ?_)
 refine c_seq ?_
 refine c_seq (reg_list ?_)
 iterate 2 refine ls hF hW rfl ((y_move hF rfl).q) (fun a w hF hW => ?_)
 refine ls hF hW rfl (y_call (v := Value.bool (clock_Clocks_has p0 p1)) hF H22 rfl (fun w hW => clock_Clocks_has_c any w q_p0 (v1) p0 p1 _ rfl (((rdc_ro h_v1) : Rdc _ _ _ _ _ _) w hW).nx (At.re a_q_p0 hW))) (fun a w hF hW => ?_)
 refine ls hF hW rfl ((y_not hF rfl).q) (fun a w hF hW => ?_)
 refine ls_nil (c_then ?_)
 refine c_cond hF rfl (fun hb => ?_) (fun hb => ?_)
 ·
  have H := iteT hb H
  rw [hb] at hF
  clear hb
  refine c_seq (reg_list ?_)
  refine ls hF hW rfl ((y_assign hF rfl).q) (fun a w hF hW => ?_)
  refine ls_nil (c_then ?_)
  refine wr_ret ?_
  refine r_then ?_
  have H := Option.some.inj H
  subst H
  refine post1 (.inl rfl) hF hW rfl (rv_tmp hF rfl) ?_
  exact ⟨rfl, hW.done⟩
 ·
  have H := iteF (by rw [hb]; decide) H
  rw [hb] at hF
  clear hb
  refine wr_skip ?_
  refine c_then ?_
  refine c_seq ?_
  refine reg_quiet hW MO (by kernel_rfl) ?_
  refine qs hF rfl ((y_move hF rfl).q) (fun a hF => ?_)
  refine qs hF rfl ((y_nilCheck hF rfl).q) (fun a hF => ?_)
  refine qs hF rfl ((y_fieldAddr u48_ rfl rfl rfl T46 hF rfl 2 rfl).q) (fun a hF => ?_)
  refine qs hF rfl ((y_load_at (y := v1) (j := 2) hF rfl (Nat.zero_add _).symm a_q_p0 T46 rfl).q) (fun a hF => ?_)
  refine qs hF rfl ((y_move hF rfl).q) (fun a hF => ?_)
  obtain ⟨x1, h1, H⟩ := bindE H
  refine qs hF rfl ((y_index (r := R50) L46 hF rfl rfl (rdc_ro h_v1) h1).q) (fun a hF => ?_)
  refine qs hF rfl ((y_fieldAddr u50_ rfl rfl rfl T3 hF rfl (voff v1 + (p1).toNat * 3) rfl).q) (fun a hF => ?_)
  refine qs hF rfl ((y_load_el (y := Value.int .i64 x1.1) (j := 0) (i := p1) hF rfl rfl (rdc_ro h_v1) h1 F50.to T3 rfl).q) (fun a hF => ?_)
  refine qs hF rfl ((y_move hF rfl).q) (fun a hF => ?_)
  refine qs hF rfl ((y_nilCheck hF rfl).q) (fun a hF => ?_)
  refine qs hF rfl ((y_fieldAddr u48_ rfl rfl rfl T46 hF rfl 2 rfl).q) (fun a hF => ?_)
  refine qs hF rfl ((y_load_at (y := v1) (j := 2) hF rfl (Nat.zero_add _).symm a_q_p0 T46 rfl).q) (fun a hF => ?_)
  refine qs hF rfl ((y_move hF rfl).q) (fun a hF => ?_)
  obtain ⟨x2, h2, H⟩ := bindE H
  refine qs hF rfl ((y_index (r := R50) L46 hF rfl rfl (rdc_ro h_v1) h2).q) (fun a hF => ?_)
  refine qs hF rfl ((y_fieldAddr u50_ rfl rfl rfl T3 hF rfl (voff v1 + (p1).toNat * 3 + 2) rfl).q) (fun a hF => ?_)
  refine qs hF rfl ((y_load_el (y := Value.int .i64 x2.2.2) (j := 2) (i := p1) hF rfl rfl (rdc_ro h_v1) h2 F50.to T3 rfl).q) (fun a hF => ?_)
  obtain ⟨x3, h3, H⟩ := bindE H
  refine qs hF rfl (y_call (v := Value.int .i64 x3) hF H23 rfl (fun w hW => clock_floorThousandth_c any w x2.2.2 _ h3)) (fun a hF => ?_)
  refine qs hF rfl ((y_add hF rfl rfl rfl).q) (fun a hF => ?_)
  refine qs hF rfl ((y_assign hF rfl).q) (fun a hF => ?_)
  refine quiet_end (fun w hW => ?_)
  refine c_then ?_
  refine wr_ret ?_
  have H := Option.some.inj H
  subst H
  refine post1 (.inl rfl) hF hW rfl (rv_tmp hF rfl) ?_
  exact ⟨rfl, hW.done⟩

theorem H18 : Has Try.prog 18 := ⟨fun args w => run_callFunc_body Try.func18 rfl (by decide) args w⟩
noncomputable def clock_Clocks_Read (p0 : Int × Int × (List (Int × Int × Int))) (p1 : Int) : Option Int := (if (!(clock_Clocks_has p0 p1)) = true then some 0 else (clock_Clocks_Apart p0 p1).bind fun x1 => some (w64 (p0.1 + x1)))
theorem clock_Clocks_Read_c (Y : Nat → Prop) (w0 : World) (q_p0 : Nat) (v1 : Value) (p0 : Int × Int × (List (Int × Int × Int))) (p1 : Int) (r : Int) (H : clock_Clocks_Read p0 p1 = some r) (h_v1 : Sl w0 (NX []) R50 v1 p0.2.2) (a_q_p0 : At ⟨Y, [], w0⟩ q_p0 0 [.int .i64 p0.1, .int .i64 p0.2.1, v1]) :
    Calls Try.prog 14 #[.pointer (some ⟨q_p0, 0, none⟩), .int .i64 p1] w0 fun e w' => e = .returned (.int .i64 r) ∧ Below w0.heap.size w0 w' := by
 refine enter Try.func14 rfl Try.ntmps14 rfl (fun a hF => ?_)
 have hW := Stw.start Y w0
 unfold clock_Clocks_Read at H
 refine c_seq (reg_list ?_)
 refine ls hF hW rfl ((y_assign hF rfl).q) (fun a w hF hW => ?_)
 refine ls_nil (c_then ?_)
 refine c_seq ?_
 refine c_seq (reg_list ?_)
 iterate 2 refine ls hF hW rfl ((y_move hF rfl).q) (fun a w hF hW => ?_)
 refine ls hF hW rfl (y_call (v := Value.bool (clock_Clocks_has p0 p1)) hF H22 rfl (fun w hW => clock_Clocks_has_c any w q_p0 (v1) p0 p1 _ rfl (((rdc_ro h_v1) : Rdc _ _ _ _ _ _) w hW).nx (At.re a_q_p0 hW))) (fun a w hF hW => ?_)
 refine ls hF hW rfl ((y_not hF rfl).q) (fun a w hF hW => ?_)
 refine ls_nil (c_then ?_)
 refine c_cond hF rfl (fun hb => ?_) (fun hb => ?_)
 ·
  have H := iteT hb H
  rw [hb] at hF
  clear hb
  refine c_seq (reg_list ?_)
  refine ls hF hW rfl ((y_assign hF rfl).q) (fun a w hF hW => ?_)
  refine ls_nil (c_then ?_)
  refine wr_ret ?_
  refine r_then ?_
  have H := Option.some.inj H
  subst H
  refine post1 (.inl rfl) hF hW rfl (rv_tmp hF rfl) ?_
  exact ⟨rfl, hW.done⟩
 ·
  have H := iteF (by rw [hb]; decide) H
  rw [hb] at hF
  clear hb
  refine wr_skip ?_
  refine c_then ?_
  refine c_seq ?_
  refine reg_quiet hW MO (by kernel_rfl) ?_
  refine qs hF rfl ((y_move hF rfl).q) (fun a hF => ?_)
  refine qs hF rfl ((y_nilCheck hF rfl).q) (fun a hF => ?_)
  refine qs hF rfl ((y_fieldAddr u48_ rfl rfl rfl T3 hF rfl 0 rfl).q) (fun a hF => ?_)
  refine qs hF rfl ((y_load_at (y := Value.int .i64 p0.1) (j := 0) hF rfl (Nat.zero_add _).symm a_q_p0 T3 rfl).q) (fun a hF => ?_)
  iterate 2 refine qs hF rfl ((y_move hF rfl).q) (fun a hF => ?_)
  obtain ⟨x1, h1, H⟩ := bindE H
  refine qs hF rfl (y_call (v := Value.int .i64 x1) hF H18 rfl (fun w hW => clock_Clocks_Apart_c any w q_p0 (v1) p0 p1 _ h1 (((rdc_ro h_v1) : Rdc _ _ _ _ _ _) w hW).nx (At.re a_q_p0 hW))) (fun a hF => ?_)
  refine qs hF rfl ((y_add hF rfl rfl rfl).q) (fun a hF => ?_)
  refine qs hF rfl ((y_assign hF rfl).q) (fun a hF => ?_)
  refine quiet_end (fun w hW => ?_)
  refine c_then ?_
  refine wr_ret ?_
  have H := Option.some.inj H
  subst H
  refine post1 (.inl rfl) hF hW rfl (rv_tmp hF rfl) ?_
  exact ⟨rfl, hW.done⟩

theorem H14 : Has Try.prog 14 := ⟨fun args w => run_callFunc_body Try.func14 rfl (by decide) args w⟩
noncomputable def r01_Floor (p0 : Int) (p1 : Int) : Option Int := (dvI .i64 p0 p1).bind fun x1 => (if p0 < (w64 (x1 * p1)) then some (w64 (x1 - 1)) else some x1).bind fun x2 => some x2
theorem r01_Floor_c (Y : Nat → Prop) (w0 : World)  (p0 : Int) (p1 : Int) (r : Int) (H : r01_Floor p0 p1 = some r)  :
    Calls Try.prog 24 #[.int .i64 p0, .int .i64 p1] w0 fun e w' => e = .returned (.int .i64 r) ∧ Below w0.heap.size w0 w' := by
 refine enter Try.func24 rfl Try.ntmps24 rfl (fun a hF => ?_)
 have hW := Stw.start Y w0
 unfold r01_Floor at H
 refine c_seq (reg_list ?_)
 refine ls hF hW rfl ((y_assign hF rfl).q) (fun a w hF hW => ?_)
 refine ls_nil (c_then ?_)
 refine c_seq (reg_list ?_)
 iterate 2 refine ls hF hW rfl ((y_move hF rfl).q) (fun a w hF hW => ?_)
 obtain ⟨x1, h1, H⟩ := bindE H
 refine ls hF hW rfl ((y_quo hF rfl rfl (dvI_some h1).1 (dvI_some h1).2).q) (fun a w hF hW => ?_)
 refine ls hF hW rfl ((y_assign hF rfl).q) (fun a w hF hW => ?_)
 refine ls_nil (c_then ?_)
 obtain ⟨o1, G1, K1⟩ := bindE H
 refine c_seqJ (fun a w => ∃ x2 : Int, some (x2) = some o1 ∧ Fr 17 [] [(4, .int .i64 0), (5, .int .i64 x2)] a ∧ Stw ⟨Y, [], w0⟩ [] [] w) ?_ ?_
 ·
  have H := G1
  clear G1 K1
  refine c_seq (reg_list ?_)
  iterate 2 refine ls hF hW rfl ((y_move hF rfl).q) (fun a w hF hW => ?_)
  refine ls hF hW rfl ((y_mul hF rfl rfl rfl).q) (fun a w hF hW => ?_)
  refine ls hF hW rfl ((y_move hF rfl).q) (fun a w hF hW => ?_)
  refine ls hF hW rfl ((y_gtr hF rfl rfl).q) (fun a w hF hW => ?_)
  refine ls_nil (c_then ?_)
  refine c_cond hF rfl (fun hb => ?_) (fun hb => ?_)
  ·
   have H := iteT (of_decide_eq_true hb) H
   rw [hb] at hF
   clear hb
   refine reg_list ?_
   refine ls hF hW rfl ((y_move hF rfl).q) (fun a w hF hW => ?_)
   refine ls hF hW rfl ((y_sub hF rfl rfl rfl).q) (fun a w hF hW => ?_)
   refine ls hF hW rfl ((y_assign hF rfl).q) (fun a w hF hW => ?_)
   refine ls_nil (c_then ?_)
   exact ⟨_, H, hF.re ⟨rfl, rfl, trivial⟩, hW⟩
  ·
   have H := iteF (of_decide_eq_false hb) H
   rw [hb] at hF
   clear hb
   refine wr_skip ?_
   refine c_then ?_
   exact ⟨_, H, hF.re ⟨rfl, rfl, trivial⟩, hW⟩
 rintro a w ⟨x2, hj, hF, hW⟩
 have hj := Option.some.inj hj
 subst hj
 have H := K1
 clear G1 K1
 refine c_seq (reg_list ?_)
 refine ls hF hW rfl ((y_move hF rfl).q) (fun a w hF hW => ?_)
 refine ls hF hW rfl ((y_assign hF rfl).q) (fun a w hF hW => ?_)
 refine ls_nil (c_then ?_)
 refine wr_ret ?_
 have H := Option.some.inj H
 subst H
 refine post1 (.inl rfl) hF hW rfl (rv_tmp hF rfl) ?_
 exact ⟨rfl, hW.done⟩

theorem H24 : Has Try.prog 24 := ⟨fun args w => run_callFunc_body Try.func24 rfl (by decide) args w⟩
noncomputable def r14_Clocks_Apart_l1 (p0 : Int × Int × (List (Int × Int × (Nat × List (Int × Int))))) (p1 : Int) : (Int × Int) → Option ((Int × Int) ⊕ Int)
  | (x2, x3) => (ix p0.2.2 p1).bind fun x4 => (rd12 x4.2.2.1).bind fun x5 => (if x3 < (x4.2.2.2.length : Int) then (ix p0.2.2 p1).bind fun x6 => (ix x6.2.2.2 x3).bind fun x7 => (rd12 x6.2.2.1).bind fun x8 => (ix p0.2.2 p1).bind fun x9 => (ix x9.2.2.2 x3).bind fun x10 => (rd12 x9.2.2.1).bind fun x11 => some (.inl (w64 (x2 + (w64 (x7.1 * x10.2))), w64 (x3 + 1))) else some (.inr x2))
noncomputable def r14_Clocks_Apart (p0 : Int × Int × (List (Int × Int × (Nat × List (Int × Int))))) (p1 : Int) : Option Int := (loopW (r14_Clocks_Apart_l1 p0 p1) (0, 0)).bind fun x1 => (ix p0.2.2 p1).bind fun x12 => (r01_Floor x1 1000).bind fun x13 => some (w64 (x12.1 + x13))
theorem r14_Clocks_Apart_c (Y : Nat → Prop) (X : List Nat) (w0 : World) (q_p0 : Nat) (v1 : Value) (p0 : Int × Int × (List (Int × Int × (Nat × List (Int × Int))))) (p1 : Int) (d_v1 : {x : List (Int × Int × (Value × Nat × List (Int × Int))) // x.map ERD53 = p0.2.2}) (r : Int) (H : r14_Clocks_Apart p0 p1 = some r) (hL : Stw ⟨Y, X, w0⟩ [(q_p0, [.int .i64 p0.1, .int .i64 p0.2.1, v1])] [drow v1 53 DP53 d_v1.1] w0) :
    Calls Try.prog 19 #[.pointer (some ⟨q_p0, 0, none⟩), .int .i64 p1] w0 fun e w' => ∃ x : Unit, e = .returned (.int .i64 r) ∧ Stw ⟨Y, X, w0⟩ [(q_p0, [.int .i64 p0.1, .int .i64 p0.2.1, v1])] [drow v1 53 DP53 d_v1.1] w' := by
 refine enter Try.func19 rfl Try.ntmps19 rfl (fun a hF => ?_)
 have hW := hL
 unfold r14_Clocks_Apart at H
 refine c_seq (reg_list ?_)
 refine ls hF hW rfl ((y_assign hF rfl).q) (fun a w hF hW => ?_)
 refine ls_nil (c_then ?_)
 refine c_seq (reg_list ?_)
 refine ls hF hW rfl ((y_assign hF rfl).q) (fun a w hF hW => ?_)
 refine ls_nil (c_then ?_)
 obtain ⟨o1, G1, K1⟩ := bindE H
 refine c_seqJ (fun a w => ∃ x1 : Int, some (x1) = some o1 ∧ Fr 58 [] [(0, .pointer (some ⟨q_p0, 0, none⟩)), (1, .int .i64 p1), (4, .int .i64 0), (5, .int .i64 x1)] a ∧ Stw ⟨Y, X, w0⟩ [(q_p0, [.int .i64 p0.1, .int .i64 p0.2.1, v1])] [drow v1 53 DP53 d_v1.1] w) ?_ ?_
 ·
  have H := G1
  clear G1 K1
  refine c_seq (reg_list ?_)
  refine ls hF hW rfl ((y_assign hF rfl).q) (fun a w hF hW => ?_)
  refine ls_nil (c_then ?_)
  refine wr_block ?_
  refine c_loopW H (fun s a w => Fr 58 [] [(0, .pointer (some ⟨q_p0, 0, none⟩)), (1, .int .i64 p1), (4, .int .i64 0), (5, .int .i64 s.1), (6, .int .i64 s.2)] a ∧ Stw ⟨Y, X, w0⟩ [(q_p0, [.int .i64 p0.1, .int .i64 p0.2.1, v1])] [drow v1 53 DP53 d_v1.1] w) ⟨hF.re ⟨rfl, rfl, rfl, rfl, rfl, trivial⟩, hW⟩ (fun s o a w H L2 hR => ?_)
  obtain ⟨x2, x3⟩ := s
  obtain ⟨hF, hW⟩ := hR
  have hF : Fr 58 [] [(0, .pointer (some ⟨q_p0, 0, none⟩)), (1, .int .i64 p1), (4, .int .i64 0), (5, .int .i64 x2), (6, .int .i64 x3)] a := hF
  have hW : Stw ⟨Y, X, w0⟩ [(q_p0, [.int .i64 p0.1, .int .i64 p0.2.1, v1])] [drow v1 53 DP53 d_v1.1] w := hW
  rw [r14_Clocks_Apart_l1] at H
  refine c_seq ?_
  refine c_seq (reg_list ?_)
  iterate 2 refine ls hF hW rfl ((y_move hF rfl).q) (fun a w hF hW => ?_)
  refine ls hF hW rfl ((y_nilCheck hF rfl).q) (fun a w hF hW => ?_)
  refine ls hF hW rfl ((y_fieldAddr u40_ rfl rfl rfl T38 hF rfl 2 rfl).q) (fun a w hF hW => ?_)
  refine ls hF hW rfl ((y_load (v := v1) 0 hF rfl rfl T38 rfl).q) (fun a w hF hW => ?_)
  refine ls hF hW rfl ((y_move hF rfl).q) (fun a w hF hW => ?_)
  obtain ⟨x4, h1, H⟩ := bindE H
  obtain ⟨v2, h2, h3⟩ := ix_ex (er := ERD53) d_v1.2 h1
  refine ls hF hW rfl ((y_index (r := DP53.hr) L38 hF rfl rfl (Rdd.hd (rdd_top 0 rfl)) h2).q) (fun a w hF hW => ?_)
  refine ls hF hW rfl ((y_fieldAddr u53_ rfl rfl rfl T51 hF rfl (voff v1 + (p1).toNat * 3 + 2) rfl).q) (fun a w hF hW => ?_)
  have h4 : DP53.cells v2 = [.int .i64 x4.1, .int .i64 x4.2.1, (v2.2.2.1)] := congrArg (fun q : Int × Int × (Nat × List (Int × Int)) => ([.int .i64 q.1, .int .i64 q.2.1, (v2.2.2.1)] : List Value)) h3
  refine ls hF hW rfl ((y_load_el (y := (v2.2.2.1)) (j := 2) (i := p1) (enc := DP53.cells) hF rfl rfl (Rdd.hd (rdd_top 0 rfl)) h2 DP53.flat T51 (by rw [h4]; rfl)).q) (fun a w hF hW => ?_)
  obtain ⟨x5, h5, H⟩ := bindE H
  refine ls hF hW rfl ((y_len (r := R55) (l := x4.2.2.2) u51_ rfl hF rfl (Rdd.sl (k := x4.2.2.1) (l := x4.2.2.2) (rdd_top 0 rfl) h2 (Foc.snd (Foc.snd Foc.here)) (congrArg (fun q : Int × Int × (Nat × List (Int × Int)) => q.2.2) h3) (rd12_eq h5))).q) (fun a w hF hW => ?_)
  refine ls hF hW rfl ((y_lss hF rfl rfl).q) (fun a w hF hW => ?_)
  refine ls_nil (c_then ?_)
  refine c_cond hF rfl (fun hb => ?_) (fun hb => ?_)
  ·
   have H := iteT (of_decide_eq_true hb) H
   rw [hb] at hF
   clear hb
   refine wr_skip ?_
   refine c_then ?_
   refine c_seq ?_
   refine wr_block ?_
   refine reg_quiet hW MO (by kernel_rfl) ?_
   iterate 2 refine qs hF rfl ((y_move hF rfl).q) (fun a hF => ?_)
   refine qs hF rfl ((y_nilCheck hF rfl).q) (fun a hF => ?_)
   refine qs hF rfl ((y_fieldAddr u40_ rfl rfl rfl T38 hF rfl 2 rfl).q) (fun a hF => ?_)
   refine qs hF rfl ((y_load (v := v1) 0 hF rfl rfl T38 rfl).q) (fun a hF => ?_)
   refine qs hF rfl ((y_move hF rfl).q) (fun a hF => ?_)
   obtain ⟨x6, h6, H⟩ := bindE H
   obtain ⟨v3, h7, h8⟩ := ix_ex (er := ERD53) d_v1.2 h6
   refine qs hF rfl ((y_index (r := DP53.hr) L38 hF rfl rfl (Rdd.hd (rdd_top 0 rfl)) h7).q) (fun a hF => ?_)
   refine qs hF rfl ((y_fieldAddr u53_ rfl rfl rfl T51 hF rfl (voff v1 + (p1).toNat * 3 + 2) rfl).q) (fun a hF => ?_)
   have h9 : DP53.cells v3 = [.int .i64 x6.1, .int .i64 x6.2.1, (v3.2.2.1)] := congrArg (fun q : Int × Int × (Nat × List (Int × Int)) => ([.int .i64 q.1, .int .i64 q.2.1, (v3.2.2.1)] : List Value)) h8
   refine qs hF rfl ((y_load_el (y := (v3.2.2.1)) (j := 2) (i := p1) (enc := DP53.cells) hF rfl rfl (Rdd.hd (rdd_top 0 rfl)) h7 DP53.flat T51 (by rw [h9]; rfl)).q) (fun a hF => ?_)
   refine qs hF rfl ((y_move hF rfl).q) (fun a hF => ?_)
   obtain ⟨x7, h10, H⟩ := bindE H
   obtain ⟨x8, h11, H⟩ := bindE H
   refine qs hF rfl ((y_index (r := R55) L51 hF rfl rfl (Rdd.sl (k := x6.2.2.1) (l := x6.2.2.2) (rdd_top 0 rfl) h7 (Foc.snd (Foc.snd Foc.here)) (congrArg (fun q : Int × Int × (Nat × List (Int × Int)) => q.2.2) h8) (rd12_eq h11)) h10).q) (fun a hF => ?_)
   refine qs hF rfl ((y_fieldAddr u55_ rfl rfl rfl T3 hF rfl (voff (v3.2.2.1) + (x3).toNat * 2) rfl).q) (fun a hF => ?_)
   refine qs hF rfl ((y_load_el (y := Value.int .i64 x7.1) (j := 0) (i := x3) hF rfl rfl (Rdd.sl (k := x6.2.2.1) (l := x6.2.2.2) (rdd_top 0 rfl) h7 (Foc.snd (Foc.snd Foc.here)) (congrArg (fun q : Int × Int × (Nat × List (Int × Int)) => q.2.2) h8) (rd12_eq h11)) h10 F55.to T3 rfl).q) (fun a hF => ?_)
   refine qs hF rfl ((y_move hF rfl).q) (fun a hF => ?_)
   refine qs hF rfl ((y_nilCheck hF rfl).q) (fun a hF => ?_)
   refine qs hF rfl ((y_fieldAddr u40_ rfl rfl rfl T38 hF rfl 2 rfl).q) (fun a hF => ?_)
   refine qs hF rfl ((y_load (v := v1) 0 hF rfl rfl T38 rfl).q) (fun a hF => ?_)
   refine qs hF rfl ((y_move hF rfl).q) (fun a hF => ?_)
   obtain ⟨x9, h12, H⟩ := bindE H
   obtain ⟨v4, h13, h14⟩ := ix_ex (er := ERD53) d_v1.2 h12
   refine qs hF rfl ((y_index (r := DP53.hr) L38 hF rfl rfl (Rdd.hd (rdd_top 0 rfl)) h13).q) (fun a hF => ?_)
   refine qs hF rfl ((y_fieldAddr u53_ rfl rfl rfl T51 hF rfl (voff v1 + (p1).toNat * 3 + 2) rfl).q) (fun a hF => ?_)
   have h15 : DP53.cells v4 = [.int .i64 x9.1, .int .i64 x9.2.1, (v4.2.2.1)] := congrArg (fun q : Int × Int × (Nat × List (Int × Int)) => ([.int .i64 q.1, .int .i64 q.2.1, (v4.2.2.1)] : List Value)) h14
   refine qs hF rfl ((y_load_el (y := (v4.2.2.1)) (j := 2) (i := p1) (enc := DP53.cells) hF rfl rfl (Rdd.hd (rdd_top 0 rfl)) h13 DP53.flat T51 (by rw [h15]; rfl)).q) (fun a hF => ?_)
   refine qs hF rfl ((y_move hF rfl).q) (fun a hF => ?_)
   obtain ⟨x10, h16, H⟩ := bindE H
   obtain ⟨x11, h17, H⟩ := bindE H
   refine qs hF rfl ((y_index (r := R55) L51 hF rfl rfl (Rdd.sl (k := x9.2.2.1) (l := x9.2.2.2) (rdd_top 0 rfl) h13 (Foc.snd (Foc.snd Foc.here)) (congrArg (fun q : Int × Int × (Nat × List (Int × Int)) => q.2.2) h14) (rd12_eq h17)) h16).q) (fun a hF => ?_)
   refine qs hF rfl ((y_fieldAddr u55_ rfl rfl rfl T3 hF rfl (voff (v4.2.2.1) + (x3).toNat * 2 + 1) rfl).q) (fun a hF => ?_)
   refine qs hF rfl ((y_load_el (y := Value.int .i64 x10.2) (j := 1) (i := x3) hF rfl rfl (Rdd.sl (k := x9.2.2.1) (l := x9.2.2.2) (rdd_top 0 rfl) h13 (Foc.snd (Foc.snd Foc.here)) (congrArg (fun q : Int × Int × (Nat × List (Int × Int)) => q.2.2) h14) (rd12_eq h17)) h16 F55.to T3 rfl).q) (fun a hF => ?_)
   refine qs hF rfl ((y_mul hF rfl rfl rfl).q) (fun a hF => ?_)
   refine qs hF rfl ((y_add hF rfl rfl rfl).q) (fun a hF => ?_)
   refine qs hF rfl ((y_assign hF rfl).q) (fun a hF => ?_)
   refine quiet_end (fun w hW => ?_)
   refine b_normal ?_
   refine c_then ?_
   refine reg_list ?_
   refine ls hF hW rfl ((y_move hF rfl).q) (fun a w hF hW => ?_)
   refine ls hF hW rfl ((y_add hF rfl rfl rfl).q) (fun a w hF hW => ?_)
   refine ls hF hW rfl ((y_assign hF rfl).q) (fun a w hF hW => ?_)
   refine ls_nil (c_then ?_)
   exact ⟨_, H, hF.re ⟨rfl, rfl, rfl, rfl, rfl, trivial⟩, hW⟩
  ·
   have H := iteF (of_decide_eq_false hb) H
   rw [hb] at hF
   clear hb
   refine wr_exit ?_
   iterate 2 refine e_then ?_
   refine e_block ?_
   refine c_then ?_
   have H := L2 _ H
   exact ⟨_, H, hF.re ⟨rfl, rfl, rfl, rfl, trivial⟩, hW⟩
 rintro a w ⟨x1, hj, hF, hW⟩
 have hj := Option.some.inj hj
 subst hj
 have H := K1
 clear G1 K1
 refine c_seq ?_
 refine reg_quiet hW MO (by kernel_rfl) ?_
 refine qs hF rfl ((y_move hF rfl).q) (fun a hF => ?_)
 refine qs hF rfl ((y_nilCheck hF rfl).q) (fun a hF => ?_)
 refine qs hF rfl ((y_fieldAddr u40_ rfl rfl rfl T38 hF rfl 2 rfl).q) (fun a hF => ?_)
 refine qs hF rfl ((y_load (v := v1) 0 hF rfl rfl T38 rfl).q) (fun a hF => ?_)
 refine qs hF rfl ((y_move hF rfl).q) (fun a hF => ?_)
 obtain ⟨x12, h18, H⟩ := bindE H
 obtain ⟨v5, h19, h20⟩ := ix_ex (er := ERD53) d_v1.2 h18
 refine qs hF rfl ((y_index (r := DP53.hr) L38 hF rfl rfl (Rdd.hd (rdd_top 0 rfl)) h19).q) (fun a hF => ?_)
 refine qs hF rfl ((y_fieldAddr u53_ rfl rfl rfl T3 hF rfl (voff v1 + (p1).toNat * 3) rfl).q) (fun a hF => ?_)
 have h21 : DP53.cells v5 = [.int .i64 x12.1, .int .i64 x12.2.1, (v5.2.2.1)] := congrArg (fun q : Int × Int × (Nat × List (Int × Int)) => ([.int .i64 q.1, .int .i64 q.2.1, (v5.2.2.1)] : List Value)) h20
 refine qs hF rfl ((y_load_el (y := Value.int .i64 x12.1) (j := 0) (i := p1) (enc := DP53.cells) hF rfl rfl (Rdd.hd (rdd_top 0 rfl)) h19 DP53.flat T3 (by rw [h21]; rfl)).q) (fun a hF => ?_)
 refine qs hF rfl ((y_move hF rfl).q) (fun a hF => ?_)
 obtain ⟨x13, h22, H⟩ := bindE H
 refine qs hF rfl (y_call (v := Value.int .i64 x13) hF H24 rfl (fun w hW => r01_Floor_c any w x1 1000 _ h22)) (fun a hF => ?_)
 refine qs hF rfl ((y_add hF rfl rfl rfl).q) (fun a hF => ?_)
 refine qs hF rfl ((y_assign hF rfl).q) (fun a hF => ?_)
 refine quiet_end (fun w hW => ?_)
 refine c_then ?_
 refine wr_ret ?_
 have H := Option.some.inj H
 subst H
 refine post1 (.inl rfl) hF hW rfl (rv_tmp hF rfl) ?_
 exact ⟨(), rfl, hW⟩

end Go.Proofs.Ythmpfhjdodfchaa
