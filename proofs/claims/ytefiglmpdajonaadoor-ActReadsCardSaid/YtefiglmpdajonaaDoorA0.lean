/- The functions of layer 9, lifted. Conditions: none. -/
import Derived.Test.YtefiglmpdajonaaDoorRows
import Derived.Test.YtefiglmpdajonaaDoorOB
import Derived.Test.YtefiglmpdajonaaDoorOG
import Derived.Test.YtefiglmpdajonaaDoorOT
import Derived.Test.YtefiglmpdajonaaDoorOD
import Derived.Test.YtefiglmpdajonaaDoorOC
import Derived.Test.YtefiglmpdajonaaDoorRF
namespace Go.Proofs.YtefiglmpdajonaaDoor
open Go Go.RowKit
set_option linter.unusedVariables false
set_option linter.unusedSimpArgs false
set_option maxRecDepth 20000
theorem u22_ : type_of% Tryd.underlying22 := Tryd.underlying22
theorem u24_ : type_of% Tryd.underlying24 := Tryd.underlying24
theorem u27_ : type_of% Tryd.underlying27 := Tryd.underlying27
abbrev R27 : Rp (Int × Int × Int) := (Rp.pair (Rp.int .i64) (Rp.pair (Rp.int .i64) (Rp.int .i64)))
theorem B27 : Bt Tryd.prog 27 [.int .i64 0, .int .i64 0, .int .i64 0] [(0, 1), (1, 1), (2, 1)] := ⟨⟨.agg #[.int .i64 0, .int .i64 0, .int .i64 0], by kernel_rfl, rfl⟩, ⟨_, u27_, fun w => by kernel_rfl⟩⟩
theorem Z27 : (Tryd.prog.info? 27).bind (·.zero) = some (.agg #[.int .i64 0, .int .i64 0, .int .i64 0]) := by kernel_rfl
def E27 (a : Int × Int × Int) : List Value := [.int .i64 a.1, .int .i64 a.2.1, .int .i64 a.2.2]
theorem F27 : Fl R27 E27 := (Fl.pair Fl.int (Fl.pair Fl.int Fl.int))
theorem L22 : Et Tryd.prog 22 27 3 24 := Et.of u22_ (by kernel_rfl) (by kernel_rfl) (by kernel_rfl) (by decide)
theorem ZA24 : ∃ z, (Tryd.prog.info? 24).bind (·.zero) = some z ∧ z.cells = [.int .i64 0, .int .i64 0, .int .i64 0, .int .i64 0].toArray := ⟨.agg #[.int .i64 0, .int .i64 0, .int .i64 0, .int .i64 0], by kernel_rfl, rfl⟩
theorem Ar24 : Ar Tryd.prog 24 4 3 1 := ⟨u24_, by kernel_rfl⟩
theorem T24 : Ty Tryd.prog 24 true 4 := ⟨by kernel_rfl, by kernel_rfl⟩
theorem Z24 : (Tryd.prog.info? 24).bind (·.zero) = some (.agg #[.int .i64 0, .int .i64 0, .int .i64 0, .int .i64 0]) := by kernel_rfl
theorem T27 : Ty Tryd.prog 27 true 3 := ⟨by kernel_rfl, by kernel_rfl⟩
theorem T3 : Ty Tryd.prog 3 false 1 := ⟨by kernel_rfl, by kernel_rfl⟩
def packet_known (p0 : Int) : Bool := (decide (0 ≤ p0) && decide (p0 < 4))
theorem packet_known_c (Y : Nat → Prop) (w0 : World)  (p0 : Int) (r : Bool) (H : packet_known p0 = r)  :
    Calls Tryd.prog 56 #[.int .i64 p0] w0 fun e w' => e = .returned (.bool r) ∧ Below w0.heap.size w0 w' := by
 refine enter Tryd.func56 rfl Tryd.ntmps56 rfl (fun a hF => ?_)
 have hW := Stw.start Y w0
 unfold packet_known at H
 refine c_seq (reg_list ?_)
 refine ls hF hW rfl ((y_assign hF rfl).q) (fun a w hF hW => ?_)
 refine ls_nil (c_then ?_)
 refine c_seqJ (fun a w => Fr 9 [] [(2, .bool (decide (0 ≤ p0) && decide (p0 < 4)))] a ∧ Stw ⟨Y, [], w0⟩ [] [] w) ?_ ?_
 ·
  refine reg_list ?_
  refine ls hF hW rfl ((y_move hF rfl).q) (fun a w hF hW => ?_)
  refine ls hF hW rfl ((y_geq hF rfl rfl).q) (fun a w hF hW => ?_)
  refine ls hF hW rfl ((y_move hF rfl).q) (fun a w hF hW => ?_)
  rcases Bool.eq_false_or_eq_true (decide (0 ≤ p0)) with hb0 | hb0
  ·
   rw [hb0] at hF
   refine ls_w hF hW (wanted_y hF rfl rfl rfl rfl) rfl (Nat.le_of_ble_eq_true rfl) ((y_move hF rfl).q) (fun a w hF hW => ?_)
   refine ls_w hF hW (wanted_y hF rfl rfl rfl rfl) rfl (Nat.le_of_ble_eq_true rfl) ((y_lss hF rfl rfl).q) (fun a w hF hW => ?_)
   refine ls hF hW rfl ((y_pick_t hF rfl rfl rfl).q) (fun a w hF hW => ?_)
   refine ls hF hW rfl ((y_assign hF rfl).q) (fun a w hF hW => ?_)
   refine ls_nil (c_then ?_)
   exact ⟨hF.re ⟨(by show some (Value.bool (decide (p0 < 4))) = some (Value.bool (decide (0 ≤ p0) && decide (p0 < 4))); try rw [hb0]; all_goals simp only [Bool.not_true, Bool.not_false, Bool.true_and, Bool.false_and, Bool.true_or, Bool.false_or, Bool.and_true, Bool.or_false, cond_true, cond_false]), trivial⟩, hW⟩
  ·
   rw [hb0] at hF
   iterate 2 refine lsn hF rfl rfl rfl rfl rfl rfl rfl (fun a hF => ?_)
   refine ls hF hW rfl ((y_pick_f hF rfl rfl rfl).q) (fun a w hF hW => ?_)
   refine ls hF hW rfl ((y_assign hF rfl).q) (fun a w hF hW => ?_)
   refine ls_nil (c_then ?_)
   exact ⟨hF.re ⟨(by show some (Value.bool false) = some (Value.bool (decide (0 ≤ p0) && decide (p0 < 4))); try rw [hb0]; all_goals simp only [Bool.not_true, Bool.not_false, Bool.true_and, Bool.false_and, Bool.true_or, Bool.false_or, Bool.and_true, Bool.or_false, cond_true, cond_false]), trivial⟩, hW⟩
 rintro a w ⟨hF, hW⟩
 refine wr_ret ?_
 subst H
 refine post1 (.inl rfl) hF hW rfl (rv_tmp hF rfl) ?_
 exact ⟨rfl, hW.done⟩

theorem H56 : Has Tryd.prog 56 := ⟨fun args w => run_callFunc_body Tryd.func56 rfl (by decide) args w⟩
noncomputable def packet_Bits (p0 : Int) : Option Int := (if p0 = 0 then some true else (if p0 = 1 then some true else some (decide (p0 = 3)))).bind fun x1 => (if x1 = true then some 8 else (if p0 = 2 then some 4 else some 0))
theorem packet_Bits_c (Y : Nat → Prop) (w0 : World)  (p0 : Int) (r : Int) (H : packet_Bits p0 = some r)  :
    Calls Tryd.prog 67 #[.int .i64 p0] w0 fun e w' => e = .returned (.int .i64 r) ∧ Below w0.heap.size w0 w' := by
 refine enter Tryd.func67 rfl Tryd.ntmps67 rfl (fun a hF => ?_)
 have hW := Stw.start Y w0
 unfold packet_Bits at H
 refine c_seq (reg_list ?_)
 refine ls hF hW rfl ((y_assign hF rfl).q) (fun a w hF hW => ?_)
 refine ls_nil (c_then ?_)
 refine c_seq ?_
 refine c_seq (reg_list ?_)
 refine ls hF hW rfl ((y_move hF rfl).q) (fun a w hF hW => ?_)
 refine ls_nil (c_then ?_)
 refine wr_block ?_
 obtain ⟨o1, G1, K1⟩ := bindE H
 refine c_seqJ (fun a w => ∃ x1 : Bool, some (x1) = some o1 ∧ Fr 10 [] [(2, .int .i64 0), (3, .int .i64 p0), (4, .bool x1)] a ∧ Stw ⟨Y, [], w0⟩ [] [] w) ?_ ?_
 ·
  have H := G1
  clear G1 K1
  refine c_seq (reg_list ?_)
  refine ls hF hW rfl ((y_eql hF rfl rfl).q) (fun a w hF hW => ?_)
  refine ls hF hW rfl ((y_assign hF rfl).q) (fun a w hF hW => ?_)
  refine ls_nil (c_then ?_)
  refine c_cond hF rfl (fun hb => ?_) (fun hb => ?_)
  ·
   have H := iteT (of_decide_eq_true hb) H
   rw [hb] at hF
   clear hb
   refine wr_skip ?_
   refine c_then ?_
   exact ⟨_, H, hF.re ⟨rfl, rfl, rfl, trivial⟩, hW⟩
  ·
   have H := iteF (of_decide_eq_false hb) H
   rw [hb] at hF
   clear hb
   refine c_seq (reg_list ?_)
   refine ls hF hW rfl ((y_eql hF rfl rfl).q) (fun a w hF hW => ?_)
   refine ls hF hW rfl ((y_assign hF rfl).q) (fun a w hF hW => ?_)
   refine ls_nil (c_then ?_)
   refine c_cond hF rfl (fun hb => ?_) (fun hb => ?_)
   ·
    have H := iteT (of_decide_eq_true hb) H
    rw [hb] at hF
    clear hb
    refine wr_skip ?_
    refine c_then ?_
    exact ⟨_, H, hF.re ⟨rfl, rfl, rfl, trivial⟩, hW⟩
   ·
    have H := iteF (of_decide_eq_false hb) H
    rw [hb] at hF
    clear hb
    refine reg_list ?_
    refine ls hF hW rfl ((y_eql hF rfl rfl).q) (fun a w hF hW => ?_)
    refine ls hF hW rfl ((y_assign hF rfl).q) (fun a w hF hW => ?_)
    refine ls_nil (c_then ?_)
    exact ⟨_, H, hF.re ⟨rfl, rfl, rfl, trivial⟩, hW⟩
 rintro a w ⟨x1, hj, hF, hW⟩
 have hj := Option.some.inj hj
 subst hj
 have H := K1
 clear G1 K1
 refine c_cond hF rfl (fun hb => ?_) (fun hb => ?_)
 ·
  have H := iteT hb H
  rw [hb] at hF
  clear hb
  refine c_seq (reg_list ?_)
  refine ls hF hW rfl ((y_assign hF rfl).q) (fun a w hF hW => ?_)
  refine ls_nil (c_then ?_)
  refine wr_ret ?_
  refine r_block ?_
  refine r_then ?_
  have H := Option.some.inj H
  subst H
  refine post1 (.inl rfl) hF hW rfl (rv_tmp hF rfl) ?_
  exact ⟨rfl, hW.done⟩
 ·
  have H := iteF (by rw [hb]; decide) H
  rw [hb] at hF
  clear hb
  refine c_seq (reg_list ?_)
  refine ls hF hW rfl ((y_eql hF rfl rfl).q) (fun a w hF hW => ?_)
  refine ls hF hW rfl ((y_assign hF rfl).q) (fun a w hF hW => ?_)
  refine ls_nil (c_then ?_)
  refine c_cond hF rfl (fun hb => ?_) (fun hb => ?_)
  ·
   have H := iteT (of_decide_eq_true hb) H
   rw [hb] at hF
   clear hb
   refine c_seq (reg_list ?_)
   refine ls hF hW rfl ((y_assign hF rfl).q) (fun a w hF hW => ?_)
   refine ls_nil (c_then ?_)
   refine wr_ret ?_
   refine r_block ?_
   refine r_then ?_
   have H := Option.some.inj H
   subst H
   refine post1 (.inl rfl) hF hW rfl (rv_tmp hF rfl) ?_
   exact ⟨rfl, hW.done⟩
  ·
   have H := iteF (of_decide_eq_false hb) H
   rw [hb] at hF
   clear hb
   refine wr_skip ?_
   refine b_normal ?_
   refine c_then ?_
   refine c_seq (reg_list ?_)
   refine ls hF hW rfl ((y_assign hF rfl).q) (fun a w hF hW => ?_)
   refine ls_nil (c_then ?_)
   refine wr_ret ?_
   have H := Option.some.inj H
   subst H
   refine post1 (.inl rfl) hF hW rfl (rv_tmp hF rfl) ?_
   exact ⟨rfl, hW.done⟩

theorem H67 : Has Tryd.prog 67 := ⟨fun args w => run_callFunc_body Tryd.func67 rfl (by decide) args w⟩
noncomputable def packet_Top (p0 : Int) : Option Int := (packet_Bits p0).bind fun x1 => (shN (shlI .i64 1 x1) x1).bind fun x2 => some (w64 (x2 - 1))
theorem packet_Top_c (Y : Nat → Prop) (w0 : World)  (p0 : Int) (r : Int) (H : packet_Top p0 = some r)  :
    Calls Tryd.prog 54 #[.int .i64 p0] w0 fun e w' => e = .returned (.int .i64 r) ∧ Below w0.heap.size w0 w' := by
 refine enter Tryd.func54 rfl Tryd.ntmps54 rfl (fun a hF => ?_)
 have hW := Stw.start Y w0
 unfold packet_Top at H
 refine c_seq (reg_list ?_)
 refine ls hF hW rfl ((y_assign hF rfl).q) (fun a w hF hW => ?_)
 refine ls_nil (c_then ?_)
 refine c_seq (reg_list ?_)
 refine ls hF hW rfl ((y_move hF rfl).q) (fun a w hF hW => ?_)
 obtain ⟨x1, h1, H⟩ := bindE H
 refine ls hF hW rfl (y_call (v := Value.int .i64 x1) hF H67 rfl (fun w hW => packet_Bits_c any w p0 _ h1)) (fun a w hF hW => ?_)
 obtain ⟨x2, h2, H⟩ := bindE H
 refine ls hF hW rfl ((y_shc (shN_some h2).2 (y_shl hF rfl rfl (shN_some h2).1)).q) (fun a w hF hW => ?_)
 refine ls hF hW rfl ((y_sub hF rfl rfl rfl).q) (fun a w hF hW => ?_)
 refine ls hF hW rfl ((y_assign hF rfl).q) (fun a w hF hW => ?_)
 refine ls_nil (c_then ?_)
 refine wr_ret ?_
 have H := Option.some.inj H
 subst H
 refine post1 (.inl rfl) hF hW rfl (rv_tmp hF rfl) ?_
 exact ⟨rfl, hW.done⟩

theorem H54 : Has Tryd.prog 54 := ⟨fun args w => run_callFunc_body Tryd.func54 rfl (by decide) args w⟩
noncomputable def packet_fits (p0 : Int) (p1 : Int) : Option Bool := (if 0 ≤ p1 then (packet_Top p0).bind fun x2 => some (decide (p1 ≤ x2)) else some false).bind fun x1 => some x1
theorem packet_fits_c (Y : Nat → Prop) (w0 : World)  (p0 : Int) (p1 : Int) (r : Bool) (H : packet_fits p0 p1 = some r)  :
    Calls Tryd.prog 57 #[.int .i64 p0, .int .i64 p1] w0 fun e w' => e = .returned (.bool r) ∧ Below w0.heap.size w0 w' := by
 refine enter Tryd.func57 rfl Tryd.ntmps57 rfl (fun a hF => ?_)
 have hW := Stw.start Y w0
 unfold packet_fits at H
 refine c_seq (reg_list ?_)
 refine ls hF hW rfl ((y_assign hF rfl).q) (fun a w hF hW => ?_)
 refine ls_nil (c_then ?_)
 obtain ⟨o1, G1, K1⟩ := bindE H
 refine c_seqJ (fun a w => ∃ x1 : Bool, some (x1) = some o1 ∧ Fr 13 [] [(4, .bool x1)] a ∧ Stw ⟨Y, [], w0⟩ [] [] w) ?_ ?_
 ·
  have H := G1
  clear G1 K1
  refine reg_list ?_
  refine ls hF hW rfl ((y_move hF rfl).q) (fun a w hF hW => ?_)
  refine ls hF hW rfl ((y_geq hF rfl rfl).q) (fun a w hF hW => ?_)
  refine ls hF hW rfl ((y_move hF rfl).q) (fun a w hF hW => ?_)
  rcases Bool.eq_false_or_eq_true (decide (0 ≤ p1)) with hb | hb
  ·
   have H := iteT (of_decide_eq_true hb) H
   rw [hb] at hF
   clear hb
   iterate 2 refine ls_w hF hW (wanted_y hF rfl rfl rfl rfl) rfl (Nat.le_of_ble_eq_true rfl) ((y_move hF rfl).q) (fun a w hF hW => ?_)
   refine ls_g (wanted_y hF rfl rfl rfl rfl) ?_
   obtain ⟨x2, h1, H⟩ := bindE H
   refine ls hF hW rfl (y_call (v := Value.int .i64 x2) hF H54 rfl (fun w hW => packet_Top_c any w p0 _ h1)) (fun a w hF hW => ?_)
   refine ls_w hF hW (wanted_y hF rfl rfl rfl rfl) rfl (Nat.le_of_ble_eq_true rfl) ((y_leq hF rfl rfl).q) (fun a w hF hW => ?_)
   refine ls hF hW rfl ((y_pick_t hF rfl rfl rfl).q) (fun a w hF hW => ?_)
   refine ls hF hW rfl ((y_assign hF rfl).q) (fun a w hF hW => ?_)
   refine ls_nil (c_then ?_)
   exact ⟨_, H, hF.re ⟨rfl, trivial⟩, hW⟩
  ·
   have H := iteF (of_decide_eq_false hb) H
   rw [hb] at hF
   clear hb
   iterate 4 refine lsn hF rfl rfl rfl rfl rfl rfl rfl (fun a hF => ?_)
   refine ls hF hW rfl ((y_pick_f hF rfl rfl rfl).q) (fun a w hF hW => ?_)
   refine ls hF hW rfl ((y_assign hF rfl).q) (fun a w hF hW => ?_)
   refine ls_nil (c_then ?_)
   exact ⟨_, H, hF.re ⟨rfl, trivial⟩, hW⟩
 rintro a w ⟨x1, hj, hF, hW⟩
 have hj := Option.some.inj hj
 subst hj
 have H := K1
 clear G1 K1
 refine wr_ret ?_
 have H := Option.some.inj H
 subst H
 refine post1 (.inl rfl) hF hW rfl (rv_tmp hF rfl) ?_
 exact ⟨rfl, hW.done⟩

theorem H57 : Has Tryd.prog 57 := ⟨fun args w => run_callFunc_body Tryd.func57 rfl (by decide) args w⟩
noncomputable def packet_With (p0 : Int × Int × Int × Int) (p1 : Int) (p2 : Int) : Option (Int × Int × Int × Int) := ((if (packet_known p1) = true then (packet_fits p1 p2).bind fun x6 => some x6 else some false).bind fun x5 => (if x5 = true then (ix ([p0.1, p0.2.1, p0.2.2.1, p0.2.2.2] : List Int) p1).bind fun x7 => some ((if p1 = 0 then p2 else p0.1), (if p1 = 1 then p2 else p0.2.1), (if p1 = 2 then p2 else p0.2.2.1), (if p1 = 3 then p2 else p0.2.2.2)) else some (p0.1, p0.2.1, p0.2.2.1, p0.2.2.2))).bind fun (x1, x2, x3, x4) => some (x1, x2, x3, x4)
theorem packet_With_c (Y : Nat → Prop) (w0 : World)  (p0 : Int × Int × Int × Int) (p1 : Int) (p2 : Int) (r : (Int × Int × Int × Int)) (H : packet_With p0 p1 p2 = some r)  :
    Calls Tryd.prog 33 #[.agg #[.int .i64 p0.1, .int .i64 p0.2.1, .int .i64 p0.2.2.1, .int .i64 p0.2.2.2], .int .i64 p1, .int .i64 p2] w0 fun e w' => e = .returned (.agg #[.int .i64 r.1, .int .i64 r.2.1, .int .i64 r.2.2.1, .int .i64 r.2.2.2]) ∧ Below w0.heap.size w0 w' := by
 refine enter Tryd.func33 rfl Tryd.ntmps33 rfl (fun a hF => ?_)
 have hW := Stw.start Y w0
 unfold packet_With at H
 refine c_seq (reg_list ?_)
 refine l_box (cs := [.int .i64 p0.1, .int .i64 p0.2.1, .int .i64 p0.2.2.1, .int .i64 p0.2.2.2]) hF hW rfl rfl rfl (fun b1 a w hF hW => ?_)
 refine l_alloc (cs := [.int .i64 0, .int .i64 0, .int .i64 0, .int .i64 0]) hF hW rfl Z24 rfl (fun b2 a w hF hW => ?_)
 refine ls_nil (c_then ?_)
 obtain ⟨o1, G1, K1⟩ := bindE H
 refine c_seqJ (fun a w => ∃ x1 : Int, ∃ x2 : Int, ∃ x3 : Int, ∃ x4 : Int, some ((x1, x2, x3, x4)) = some o1 ∧ Fr 18 [] [(3, .pointer (some ⟨b1, 0, none⟩)), (6, .pointer (some ⟨b2, 0, none⟩))] a ∧ Stw ⟨Y, [], w0⟩ [(b2, [.int .i64 0, .int .i64 0, .int .i64 0, .int .i64 0]), (b1, [.int .i64 x1, .int .i64 x2, .int .i64 x3, .int .i64 x4])] [] w) ?_ ?_
 ·
  have H := G1
  clear G1 K1
  obtain ⟨o2, G2, K2⟩ := bindE H
  refine c_seqJ (fun a w => ∃ x5 : Bool, some (x5) = some o2 ∧ Fr 18 [] [(1, .int .i64 p1), (2, .int .i64 p2), (3, .pointer (some ⟨b1, 0, none⟩)), (6, .pointer (some ⟨b2, 0, none⟩)), (13, .bool x5)] a ∧ Stw ⟨Y, [], w0⟩ [(b2, [.int .i64 0, .int .i64 0, .int .i64 0, .int .i64 0]), (b1, [.int .i64 p0.1, .int .i64 p0.2.1, .int .i64 p0.2.2.1, .int .i64 p0.2.2.2])] [] w) ?_ ?_
  ·
   have H := G2
   clear G2 K2
   refine reg_list ?_
   refine ls hF hW rfl ((y_move hF rfl).q) (fun a w hF hW => ?_)
   refine ls hF hW rfl (y_call (v := Value.bool (packet_known p1)) hF H56 rfl (fun w hW => packet_known_c any w p1 _ rfl)) (fun a w hF hW => ?_)
   refine ls hF hW rfl ((y_move hF rfl).q) (fun a w hF hW => ?_)
   rcases Bool.eq_false_or_eq_true (packet_known p1) with hb | hb
   ·
    have H := iteT hb H
    rw [hb] at hF
    clear hb
    iterate 2 refine ls_w hF hW (wanted_y hF rfl rfl rfl rfl) rfl (Nat.le_of_ble_eq_true rfl) ((y_move hF rfl).q) (fun a w hF hW => ?_)
    refine ls_g (wanted_y hF rfl rfl rfl rfl) ?_
    obtain ⟨x6, h1, H⟩ := bindE H
    refine ls hF hW rfl (y_call (v := Value.bool x6) hF H57 rfl (fun w hW => packet_fits_c any w p1 p2 _ h1)) (fun a w hF hW => ?_)
    refine ls hF hW rfl ((y_pick_t hF rfl rfl rfl).q) (fun a w hF hW => ?_)
    refine ls_nil (c_then ?_)
    have hW := hW.frontM (i := 1) rfl rfl
    have hW := hW.frontM (i := 1) rfl rfl
    exact ⟨_, H, hF.re ⟨rfl, rfl, rfl, rfl, rfl, trivial⟩, hW⟩
   ·
    have H := iteF (by rw [hb]; decide) H
    rw [hb] at hF
    clear hb
    iterate 3 refine lsn hF rfl rfl rfl rfl rfl rfl rfl (fun a hF => ?_)
    refine ls hF hW rfl ((y_pick_f hF rfl rfl rfl).q) (fun a w hF hW => ?_)
    refine ls_nil (c_then ?_)
    have hW := hW.frontM (i := 1) rfl rfl
    have hW := hW.frontM (i := 1) rfl rfl
    exact ⟨_, H, hF.re ⟨rfl, rfl, rfl, rfl, rfl, trivial⟩, hW⟩
  rintro a w ⟨x5, hj, hF, hW⟩
  have hj := Option.some.inj hj
  subst hj
  have H := K2
  clear G2 K2
  refine c_cond hF rfl (fun hb => ?_) (fun hb => ?_)
  ·
   have H := iteT hb H
   rw [hb] at hF
   clear hb
   refine reg_list ?_
   iterate 2 refine ls hF hW rfl ((y_move hF rfl).q) (fun a w hF hW => ?_)
   obtain ⟨x7, h2, H⟩ := bindE H
   refine ls hF hW rfl ((y_indexP (0 + (p1).toNat * 1) Ar24 hF rfl rfl rfl h2 rfl).q) (fun a w hF hW => ?_)
   refine l_store_dyn (o := 0) (m := 4) (i := p1) (l := ([p0.1, p0.2.1, p0.2.2.1, p0.2.2.2] : List Int)) (x := x7) (cs := [.int .i64 p0.1, .int .i64 p0.2.1, .int .i64 p0.2.2.1, .int .i64 p0.2.2.2]) (cs' := [.int .i64 (if p1 = 0 then p2 else p0.1), .int .i64 (if p1 = 1 then p2 else p0.2.1), .int .i64 (if p1 = 2 then p2 else p0.2.2.1), .int .i64 (if p1 = 3 then p2 else p0.2.2.2)]) 1 hF hW rfl rfl rfl T3 rfl rfl rfl rfl h2 (by intro k hk hn; rw [hk]; match k, hn with | 0, _ => rfl | 1, _ => rfl | 2, _ => rfl | 3, _ => rfl | (z + 4), h => exact absurd h (by omega)) (fun w hW => ?_)
   have hW : Stw ⟨Y, [], w0⟩ [(b2, [.int .i64 0, .int .i64 0, .int .i64 0, .int .i64 0]), (b1, [.int .i64 (if p1 = 0 then p2 else p0.1), .int .i64 (if p1 = 1 then p2 else p0.2.1), .int .i64 (if p1 = 2 then p2 else p0.2.2.1), .int .i64 (if p1 = 3 then p2 else p0.2.2.2)])] [] w := hW
   refine ls_nil (c_then ?_)
   have hW := hW.frontM (i := 1) rfl rfl
   have hW := hW.frontM (i := 1) rfl rfl
   exact ⟨_, _, _, _, H, hF.re ⟨rfl, rfl, trivial⟩, hW⟩
  ·
   have H := iteF (by rw [hb]; decide) H
   rw [hb] at hF
   clear hb
   refine wr_skip ?_
   refine c_then ?_
   have hW := hW.frontM (i := 1) rfl rfl
   have hW := hW.frontM (i := 1) rfl rfl
   exact ⟨_, _, _, _, H, hF.re ⟨rfl, rfl, trivial⟩, hW⟩
 rintro a w ⟨x1, x2, x3, x4, hj, hF, hW⟩
 have hj := Option.some.inj hj
 subst hj
 have H := K1
 clear G1 K1
 refine c_seq (reg_list ?_)
 refine ls hF hW rfl ((y_load (v := Value.agg #[.int .i64 x1, .int .i64 x2, .int .i64 x3, .int .i64 x4]) 1 hF rfl rfl T24 rfl).q) (fun a w hF hW => ?_)
 refine l_store (vs := [.int .i64 x1, .int .i64 x2, .int .i64 x3, .int .i64 x4]) (M' := [(b2, [.int .i64 x1, .int .i64 x2, .int .i64 x3, .int .i64 x4]), (b1, [.int .i64 x1, .int .i64 x2, .int .i64 x3, .int .i64 x4])]) 0 hF hW rfl rfl rfl T24 rfl rfl rfl rfl rfl (fun w hW => ?_)
 refine ls_nil (c_then ?_)
 refine wr_ret ?_
 have H := Option.some.inj H
 subst H
 refine post1 (.inl rfl) hF hW rfl (rv_cell 0 hF rfl rfl T24 rfl) ?_
 exact ⟨rfl, hW.done⟩

theorem u30_ : type_of% Tryd.underlying30 := Tryd.underlying30
theorem u41_ : type_of% Tryd.underlying41 := Tryd.underlying41
theorem H33 : Has Tryd.prog 33 := ⟨fun args w => run_callFunc_body Tryd.func33 rfl (by decide) args w⟩
theorem B41 : Bt Tryd.prog 41 [.int .i64 0, .int .i64 0, .int .i64 0, .int .i64 0, .int .i64 0] [(0, 1), (1, 4)] := ⟨⟨.agg #[.int .i64 0, .int .i64 0, .int .i64 0, .int .i64 0, .int .i64 0], by kernel_rfl, rfl⟩, ⟨_, u41_, fun w => by kernel_rfl⟩⟩
theorem Z41 : (Tryd.prog.info? 41).bind (·.zero) = some (.agg #[.int .i64 0, .int .i64 0, .int .i64 0, .int .i64 0, .int .i64 0]) := by kernel_rfl
abbrev R24 : Rp (Int × Int × Int × Int) := (Rp.pair (Rp.int .i64) (Rp.pair (Rp.int .i64) (Rp.pair (Rp.int .i64) (Rp.int .i64))))
abbrev R41 : Rp (Int × (Int × Int × Int × Int)) := (Rp.pair (Rp.int .i64) R24)
def E24 (a : Int × Int × Int × Int) : List Value := [.int .i64 a.1, .int .i64 a.2.1, .int .i64 a.2.2.1, .int .i64 a.2.2.2]
theorem F24 : Fl R24 E24 := (Fl.pair Fl.int (Fl.pair Fl.int (Fl.pair Fl.int Fl.int)))
def E41 (a : Int × (Int × Int × Int × Int)) : List Value := [.int .i64 a.1, .int .i64 a.2.1, .int .i64 a.2.2.1, .int .i64 a.2.2.2.1, .int .i64 a.2.2.2.2]
theorem F41 : Fl R41 E41 := (Fl.pair Fl.int F24)
theorem L30 : Et Tryd.prog 30 41 5 40 := Et.of u30_ (by kernel_rfl) (by kernel_rfl) (by kernel_rfl) (by decide)
noncomputable def act_Run_l1 (p0 : List (Int × Int × Int)) (p1 : Int × Int × Int × Int) : ((List (Int × (Int × Int × Int × Int))) × Int × Int × Int × Int × Int) → Option (((List (Int × (Int × Int × Int × Int))) × Int × Int × Int × Int × Int) ⊕ ((List (Int × (Int × Int × Int × Int))) × Int × Int × Int × Int))
  | (x6, x7, x8, x9, x10, x11) => (if x7 < (p0.length : Int) then ((ix p0 x7).bind fun x17 => (if x17.1 = 1 then (packet_With (x8, x9, x10, x11) x17.2.1 x17.2.2).bind fun x18 => some (x6, x18.1, x18.2.1, x18.2.2.1, x18.2.2.2) else (if x17.1 = 2 then (app x6 ([(x17.2.2, (x8, x9, x10, x11))] : List (Int × (Int × Int × Int × Int)))).bind fun x19 => some (x19, x8, x9, x10, x11) else (if x17.1 = 3 then some (x6, p1.1, p1.2.1, p1.2.2.1, p1.2.2.2) else some (x6, x8, x9, x10, x11))))).bind fun (x12, x13, x14, x15, x16) => some (.inl (x12, w64 (x7 + 1), x13, x14, x15, x16)) else some (.inr (x6, x8, x9, x10, x11)))
noncomputable def act_Run (p0 : List (Int × Int × Int)) (p1 : Int × Int × Int × Int) : Option (List (Int × (Int × Int × Int × Int))) := (loopW (act_Run_l1 p0 p1) ([], 0, p1.1, p1.2.1, p1.2.2.1, p1.2.2.2)).bind fun (x1, x2, x3, x4, x5) => some x1
theorem act_Run_c (Y : Nat → Prop) (w0 : World) (v1 : Value) (p0 : List (Int × Int × Int)) (p1 : Int × Int × Int × Int) (r : (List (Int × (Int × Int × Int × Int)))) (H : act_Run p0 p1 = some r) (h_v1 : Sl w0 (NX []) R27 v1 p0) :
    Calls Tryd.prog 11 #[v1, .agg #[.int .i64 p1.1, .int .i64 p1.2.1, .int .i64 p1.2.2.1, .int .i64 p1.2.2.2]] w0 fun e w' => ∃ x : Value, e = .returned (x) ∧ Stw ⟨Y, [], w0⟩ [] [row (x) 41 R41 r] w' := by
 refine enter Tryd.func11 rfl Tryd.ntmps11 rfl (fun a hF => ?_)
 have hW := Stw.start Y w0
 unfold act_Run at H
 refine c_seq (reg_list ?_)
 refine l_box (cs := [.int .i64 p1.1, .int .i64 p1.2.1, .int .i64 p1.2.2.1, .int .i64 p1.2.2.2]) hF hW rfl rfl rfl (fun b1 a w hF hW => ?_)
 refine ls hF hW rfl ((y_assign hF rfl).q) (fun a w hF hW => ?_)
 refine ls_nil (c_then ?_)
 refine c_seq (reg_list ?_)
 refine ls hF hW rfl ((y_assign hF rfl).q) (fun a w hF hW => ?_)
 refine ls_nil (c_then ?_)
 refine c_seq (reg_list ?_)
 refine ls hF hW rfl ((y_load (v := Value.agg #[.int .i64 p1.1, .int .i64 p1.2.1, .int .i64 p1.2.2.1, .int .i64 p1.2.2.2]) 0 hF rfl rfl T24 rfl).q) (fun a w hF hW => ?_)
 refine l_alloc (cs := [.int .i64 0, .int .i64 0, .int .i64 0, .int .i64 0]) hF hW rfl Z24 rfl (fun b2 a w hF hW => ?_)
 refine l_store (vs := [.int .i64 p1.1, .int .i64 p1.2.1, .int .i64 p1.2.2.1, .int .i64 p1.2.2.2]) (M' := [(b2, [.int .i64 p1.1, .int .i64 p1.2.1, .int .i64 p1.2.2.1, .int .i64 p1.2.2.2]), (b1, [.int .i64 p1.1, .int .i64 p1.2.1, .int .i64 p1.2.2.1, .int .i64 p1.2.2.2])]) 0 hF hW rfl rfl rfl T24 rfl rfl rfl rfl rfl (fun w hW => ?_)
 refine ls_nil (c_then ?_)
 obtain ⟨o1, G1, K1⟩ := bindE H
 refine c_seqJ (fun a w => ∃ x1 : List (Int × (Int × Int × Int × Int)), ∃ x2 : Int, ∃ x3 : Int, ∃ x4 : Int, ∃ x5 : Int, ∃ v2 : Value, some ((x1, x2, x3, x4, x5)) = some o1 ∧ Fr 40 [] [(4, .slice none 0 0), (5, v2)] a ∧ Stw ⟨Y, [], w0⟩ [(b2, [.int .i64 x2, .int .i64 x3, .int .i64 x4, .int .i64 x5]), (b1, [.int .i64 p1.1, .int .i64 p1.2.1, .int .i64 p1.2.2.1, .int .i64 p1.2.2.2])] [row v2 41 R41 x1] w) ?_ ?_
 ·
  have H := G1
  clear G1 K1
  refine c_seq (reg_list ?_)
  refine ls hF hW rfl ((y_move hF rfl).q) (fun a w hF hW => ?_)
  refine ls hF hW rfl ((y_len (r := R27) (l := p0) u22_ rfl hF rfl (rdc_ro h_v1)).q) (fun a w hF hW => ?_)
  refine ls hF hW rfl ((y_move hF rfl).q) (fun a w hF hW => ?_)
  refine ls_nil (c_then ?_)
  refine wr_block ?_
  have hW := hW.nilRow 41 R41
  have hW := hW.frontM (i := 1) rfl rfl
  have hW := hW.frontM (i := 1) rfl rfl
  refine c_loopW H (fun s a w => ∃ v3 : Value, Fr 40 [] [(3, .pointer (some ⟨b1, 0, none⟩)), (4, .slice none 0 0), (5, v3), (6, .pointer (some ⟨b2, 0, none⟩)), (10, v1), (11, .int .i64 (p0.length : Int)), (12, .int .i64 s.2.1)] a ∧ Stw ⟨Y, [], w0⟩ [(b2, [.int .i64 s.2.2.1, .int .i64 s.2.2.2.1, .int .i64 s.2.2.2.2.1, .int .i64 s.2.2.2.2.2]), (b1, [.int .i64 p1.1, .int .i64 p1.2.1, .int .i64 p1.2.2.1, .int .i64 p1.2.2.2])] [row v3 41 R41 s.1] w) ⟨(Value.slice none 0 0), hF.re ⟨rfl, rfl, rfl, rfl, rfl, rfl, rfl, trivial⟩, hW⟩ (fun s o a w H L2 hR => ?_)
  obtain ⟨x6, x7, x8, x9, x10, x11⟩ := s
  obtain ⟨v3, hF, hW⟩ := hR
  have hF : Fr 40 [] [(3, .pointer (some ⟨b1, 0, none⟩)), (4, .slice none 0 0), (5, v3), (6, .pointer (some ⟨b2, 0, none⟩)), (10, v1), (11, .int .i64 (p0.length : Int)), (12, .int .i64 x7)] a := hF
  have hW : Stw ⟨Y, [], w0⟩ [(b2, [.int .i64 x8, .int .i64 x9, .int .i64 x10, .int .i64 x11]), (b1, [.int .i64 p1.1, .int .i64 p1.2.1, .int .i64 p1.2.2.1, .int .i64 p1.2.2.2])] [row v3 41 R41 x6] w := hW
  rw [act_Run_l1] at H
  refine c_seq (reg_list ?_)
  refine ls hF hW rfl ((y_lss hF rfl rfl).q) (fun a w hF hW => ?_)
  refine ls_nil (c_then ?_)
  refine c_seq ?_
  refine c_cond hF rfl (fun hb => ?_) (fun hb => ?_)
  ·
   have H := iteT (of_decide_eq_true hb) H
   rw [hb] at hF
   clear hb
   refine wr_skip ?_
   refine c_then ?_
   obtain ⟨o3, G3, K3⟩ := bindE H
   refine c_seqJ (fun a w => ∃ x12 : List (Int × (Int × Int × Int × Int)), ∃ x13 : Int, ∃ x14 : Int, ∃ x15 : Int, ∃ x16 : Int, ∃ v4 : Value, some ((x12, x13, x14, x15, x16)) = some o3 ∧ Fr 40 [] [(3, .pointer (some ⟨b1, 0, none⟩)), (4, .slice none 0 0), (5, v4), (6, .pointer (some ⟨b2, 0, none⟩)), (10, v1), (11, .int .i64 (p0.length : Int)), (12, .int .i64 x7)] a ∧ Stw ⟨Y, [], w0⟩ [(b2, [.int .i64 x13, .int .i64 x14, .int .i64 x15, .int .i64 x16]), (b1, [.int .i64 p1.1, .int .i64 p1.2.1, .int .i64 p1.2.2.1, .int .i64 p1.2.2.2])] [row v4 41 R41 x12] w) ?_ ?_
   ·
    have H := G3
    clear G3 K3
    refine wr_block ?_
    refine c_seq (reg_list ?_)
    obtain ⟨x17, h1, H⟩ := bindE H
    refine ls hF hW rfl ((y_index (r := R27) L22 hF rfl rfl (rdc_ro h_v1) h1).q) (fun a w hF hW => ?_)
    refine ls hF hW rfl ((y_load_el (y := Value.agg #[.int .i64 x17.1, .int .i64 x17.2.1, .int .i64 x17.2.2]) (j := 0) (i := x7) hF rfl rfl (rdc_ro h_v1) h1 F27.to T27 rfl).q) (fun a w hF hW => ?_)
    refine l_alloc (cs := [.int .i64 0, .int .i64 0, .int .i64 0]) hF hW rfl Z27 rfl (fun b3 a w hF hW => ?_)
    refine l_store (vs := [.int .i64 x17.1, .int .i64 x17.2.1, .int .i64 x17.2.2]) (M' := [(b3, [.int .i64 x17.1, .int .i64 x17.2.1, .int .i64 x17.2.2]), (b2, [.int .i64 x8, .int .i64 x9, .int .i64 x10, .int .i64 x11]), (b1, [.int .i64 p1.1, .int .i64 p1.2.1, .int .i64 p1.2.2.1, .int .i64 p1.2.2.2])]) 0 hF hW rfl rfl rfl T27 rfl rfl rfl rfl rfl (fun w hW => ?_)
    refine ls_nil (c_then ?_)
    refine c_seq (reg_list ?_)
    refine ls hF hW rfl ((y_fieldAddr u27_ rfl rfl rfl T3 hF rfl 0 rfl).q) (fun a w hF hW => ?_)
    refine ls hF hW rfl ((y_load (v := Value.int .i64 x17.1) 0 hF rfl rfl T3 rfl).q) (fun a w hF hW => ?_)
    refine ls_nil (c_then ?_)
    refine wr_block ?_
    refine c_seq (reg_list ?_)
    refine ls hF hW rfl ((y_eql hF rfl rfl).q) (fun a w hF hW => ?_)
    refine ls hF hW rfl ((y_assign hF rfl).q) (fun a w hF hW => ?_)
    refine ls_nil (c_then ?_)
    refine c_cond hF rfl (fun hb => ?_) (fun hb => ?_)
    ·
     have H := iteT (of_decide_eq_true hb) H
     rw [hb] at hF
     clear hb
     refine reg_list ?_
     refine ls hF hW rfl ((y_load (v := Value.agg #[.int .i64 x8, .int .i64 x9, .int .i64 x10, .int .i64 x11]) 1 hF rfl rfl T24 rfl).q) (fun a w hF hW => ?_)
     refine ls hF hW rfl ((y_fieldAddr u27_ rfl rfl rfl T3 hF rfl 1 rfl).q) (fun a w hF hW => ?_)
     refine ls hF hW rfl ((y_load (v := Value.int .i64 x17.2.1) 0 hF rfl rfl T3 rfl).q) (fun a w hF hW => ?_)
     refine ls hF hW rfl ((y_fieldAddr u27_ rfl rfl rfl T3 hF rfl 2 rfl).q) (fun a w hF hW => ?_)
     refine ls hF hW rfl ((y_load (v := Value.int .i64 x17.2.2) 0 hF rfl rfl T3 rfl).q) (fun a w hF hW => ?_)
     obtain ⟨x18, h2, H⟩ := bindE H
     refine ls hF hW rfl (y_call (v := Value.agg #[.int .i64 x18.1, .int .i64 x18.2.1, .int .i64 x18.2.2.1, .int .i64 x18.2.2.2]) hF H33 rfl (fun w hW => packet_With_c any w (x8, x9, x10, x11) x17.2.1 x17.2.2 _ h2)) (fun a w hF hW => ?_)
     refine l_store (vs := [.int .i64 x18.1, .int .i64 x18.2.1, .int .i64 x18.2.2.1, .int .i64 x18.2.2.2]) (M' := [(b3, [.int .i64 x17.1, .int .i64 x17.2.1, .int .i64 x17.2.2]), (b2, [.int .i64 x18.1, .int .i64 x18.2.1, .int .i64 x18.2.2.1, .int .i64 x18.2.2.2]), (b1, [.int .i64 p1.1, .int .i64 p1.2.1, .int .i64 p1.2.2.1, .int .i64 p1.2.2.2])]) 1 hF hW rfl rfl rfl T24 rfl rfl rfl rfl rfl (fun w hW => ?_)
     refine ls_nil ?_
     iterate 2 refine b_normal ?_
     refine c_then ?_
     have hW := hW.frontM (i := 2) rfl rfl
     have hW := hW.frontM (i := 2) rfl rfl
     have hW := hW.sub (M' := [(b2, [.int .i64 x18.1, .int .i64 x18.2.1, .int .i64 x18.2.2.1, .int .i64 x18.2.2.2]), (b1, [.int .i64 p1.1, .int .i64 p1.2.1, .int .i64 p1.2.2.1, .int .i64 p1.2.2.2])]) (Z' := [row v3 41 R41 x6]) (List.Sublist.cons_cons _ (List.Sublist.cons_cons _ (List.nil_sublist _))) (List.Sublist.refl _)
     exact ⟨_, _, _, _, _, (v3), H, hF.re ⟨rfl, rfl, rfl, rfl, rfl, rfl, rfl, trivial⟩, hW⟩
    ·
     have H := iteF (of_decide_eq_false hb) H
     rw [hb] at hF
     clear hb
     refine c_seq (reg_list ?_)
     refine ls hF hW rfl ((y_eql hF rfl rfl).q) (fun a w hF hW => ?_)
     refine ls hF hW rfl ((y_assign hF rfl).q) (fun a w hF hW => ?_)
     refine ls_nil (c_then ?_)
     refine c_cond hF rfl (fun hb => ?_) (fun hb => ?_)
     ·
      have H := iteT (of_decide_eq_true hb) H
      rw [hb] at hF
      clear hb
      refine reg_list ?_
      refine ls hF hW rfl ((y_move hF rfl).q) (fun a w hF hW => ?_)
      refine ls hF hW rfl ((y_fieldAddr u27_ rfl rfl rfl T3 hF rfl 2 rfl).q) (fun a w hF hW => ?_)
      refine ls hF hW rfl ((y_load (v := Value.int .i64 x17.2.2) 0 hF rfl rfl T3 rfl).q) (fun a w hF hW => ?_)
      refine ls hF hW rfl ((y_load (v := Value.agg #[.int .i64 x8, .int .i64 x9, .int .i64 x10, .int .i64 x11]) 1 hF rfl rfl T24 rfl).q) (fun a w hF hW => ?_)
      refine ls hF hW rfl ((y_build (v := Value.agg #[.int .i64 x17.2.2, .int .i64 x8, .int .i64 x9, .int .i64 x10, .int .i64 x11]) B41 hF rfl rfl rfl).q) (fun a w hF hW => ?_)
      refine l_lit (z := Value.agg #[.int .i64 0, .int .i64 0, .int .i64 0, .int .i64 0, .int .i64 0]) (cs := [.int .i64 x17.2.2, .int .i64 x8, .int .i64 x9, .int .i64 x10, .int .i64 x11]) R41 ([(x17.2.2, (x8, x9, x10, x11))] : List (Int × (Int × Int × Int × Int))) hF hW rfl L30 Z41 rfl rfl rfl rfl rfl rfl (F41.repL _ _ ([(x17.2.2, (x8, x9, x10, x11))] : List (Int × (Int × Int × Int × Int)))) (fun v5 a w hF hW => ?_)
      obtain ⟨x19, h3, H⟩ := bindE H
      refine l_append (r := R41) (i := 1) hF hW rfl L30 rfl rfl rfl rfl (src_row hW 0 rfl) h3 rfl (fun v6 a w hF hW => ?_)
      have hW : Stw ⟨Y, [], w0⟩ [(b3, [.int .i64 x17.1, .int .i64 x17.2.1, .int .i64 x17.2.2]), (b2, [.int .i64 x8, .int .i64 x9, .int .i64 x10, .int .i64 x11]), (b1, [.int .i64 p1.1, .int .i64 p1.2.1, .int .i64 p1.2.2.1, .int .i64 p1.2.2.2])] [row v6 41 R41 x19, row v5 41 R41 ([(x17.2.2, (x8, x9, x10, x11))] : List (Int × (Int × Int × Int × Int)))] w := hW
      refine ls hF hW rfl ((y_assign hF rfl).q) (fun a w hF hW => ?_)
      refine ls_nil ?_
      iterate 2 refine b_normal ?_
      refine c_then ?_
      have hW := hW.frontM (i := 2) rfl rfl
      have hW := hW.frontM (i := 2) rfl rfl
      have hW := hW.sub (M' := [(b2, [.int .i64 x8, .int .i64 x9, .int .i64 x10, .int .i64 x11]), (b1, [.int .i64 p1.1, .int .i64 p1.2.1, .int .i64 p1.2.2.1, .int .i64 p1.2.2.2])]) (Z' := [row v6 41 R41 x19]) (List.Sublist.cons_cons _ (List.Sublist.cons_cons _ (List.nil_sublist _))) (List.Sublist.cons_cons _ (List.nil_sublist _))
      exact ⟨_, _, _, _, _, (v6), H, hF.re ⟨rfl, rfl, rfl, rfl, rfl, rfl, rfl, trivial⟩, hW⟩
     ·
      have H := iteF (of_decide_eq_false hb) H
      rw [hb] at hF
      clear hb
      refine c_seq (reg_list ?_)
      refine ls hF hW rfl ((y_eql hF rfl rfl).q) (fun a w hF hW => ?_)
      refine ls hF hW rfl ((y_assign hF rfl).q) (fun a w hF hW => ?_)
      refine ls_nil (c_then ?_)
      refine c_cond hF rfl (fun hb => ?_) (fun hb => ?_)
      ·
       have H := iteT (of_decide_eq_true hb) H
       rw [hb] at hF
       clear hb
       refine reg_list ?_
       refine ls hF hW rfl ((y_load (v := Value.agg #[.int .i64 p1.1, .int .i64 p1.2.1, .int .i64 p1.2.2.1, .int .i64 p1.2.2.2]) 2 hF rfl rfl T24 rfl).q) (fun a w hF hW => ?_)
       refine l_store (vs := [.int .i64 p1.1, .int .i64 p1.2.1, .int .i64 p1.2.2.1, .int .i64 p1.2.2.2]) (M' := [(b3, [.int .i64 x17.1, .int .i64 x17.2.1, .int .i64 x17.2.2]), (b2, [.int .i64 p1.1, .int .i64 p1.2.1, .int .i64 p1.2.2.1, .int .i64 p1.2.2.2]), (b1, [.int .i64 p1.1, .int .i64 p1.2.1, .int .i64 p1.2.2.1, .int .i64 p1.2.2.2])]) 1 hF hW rfl rfl rfl T24 rfl rfl rfl rfl rfl (fun w hW => ?_)
       refine ls_nil ?_
       iterate 2 refine b_normal ?_
       refine c_then ?_
       have hW := hW.frontM (i := 2) rfl rfl
       have hW := hW.frontM (i := 2) rfl rfl
       have hW := hW.sub (M' := [(b2, [.int .i64 p1.1, .int .i64 p1.2.1, .int .i64 p1.2.2.1, .int .i64 p1.2.2.2]), (b1, [.int .i64 p1.1, .int .i64 p1.2.1, .int .i64 p1.2.2.1, .int .i64 p1.2.2.2])]) (Z' := [row v3 41 R41 x6]) (List.Sublist.cons_cons _ (List.Sublist.cons_cons _ (List.nil_sublist _))) (List.Sublist.refl _)
       exact ⟨_, _, _, _, _, (v3), H, hF.re ⟨rfl, rfl, rfl, rfl, rfl, rfl, rfl, trivial⟩, hW⟩
      ·
       have H := iteF (of_decide_eq_false hb) H
       rw [hb] at hF
       clear hb
       refine wr_skip ?_
       iterate 2 refine b_normal ?_
       refine c_then ?_
       have hW := hW.frontM (i := 2) rfl rfl
       have hW := hW.frontM (i := 2) rfl rfl
       have hW := hW.sub (M' := [(b2, [.int .i64 x8, .int .i64 x9, .int .i64 x10, .int .i64 x11]), (b1, [.int .i64 p1.1, .int .i64 p1.2.1, .int .i64 p1.2.2.1, .int .i64 p1.2.2.2])]) (Z' := [row v3 41 R41 x6]) (List.Sublist.cons_cons _ (List.Sublist.cons_cons _ (List.nil_sublist _))) (List.Sublist.refl _)
       exact ⟨_, _, _, _, _, (v3), H, hF.re ⟨rfl, rfl, rfl, rfl, rfl, rfl, rfl, trivial⟩, hW⟩
   rintro a w ⟨x12, x13, x14, x15, x16, v4, hj, hF, hW⟩
   have hj := Option.some.inj hj
   subst hj
   have H := K3
   clear G3 K3
   refine reg_list ?_
   refine ls hF hW rfl ((y_add hF rfl rfl rfl).q) (fun a w hF hW => ?_)
   refine ls hF hW rfl ((y_move hF rfl).q) (fun a w hF hW => ?_)
   refine ls_nil (c_then ?_)
   have hW := hW.frontM (i := 1) rfl rfl
   have hW := hW.frontM (i := 1) rfl rfl
   exact ⟨_, H, (v4), hF.re ⟨rfl, rfl, rfl, rfl, rfl, rfl, rfl, trivial⟩, hW⟩
  ·
   have H := iteF (of_decide_eq_false hb) H
   rw [hb] at hF
   clear hb
   refine wr_exit ?_
   iterate 2 refine e_then ?_
   refine e_block ?_
   refine c_then ?_
   have hW := hW.frontM (i := 1) rfl rfl
   have hW := hW.frontM (i := 1) rfl rfl
   have H := L2 _ H
   exact ⟨_, _, _, _, _, (v3), H, hF.re ⟨rfl, rfl, trivial⟩, hW⟩
 rintro a w ⟨x1, x2, x3, x4, x5, v2, hj, hF, hW⟩
 have hj := Option.some.inj hj
 subst hj
 have H := K1
 clear G1 K1
 refine c_seq (reg_list ?_)
 refine ls hF hW rfl ((y_move hF rfl).q) (fun a w hF hW => ?_)
 refine ls hF hW rfl ((y_assign hF rfl).q) (fun a w hF hW => ?_)
 refine ls_nil (c_then ?_)
 refine wr_ret ?_
 have H := Option.some.inj H
 subst H
 refine post1 (.inl rfl) hF hW rfl (rv_tmp hF rfl) ?_
 have hW := hW.sub (M' := []) (Z' := [row v2 41 R41 x1]) (List.nil_sublist _) (List.Sublist.refl _)
 exact ⟨(v2), rfl, hW⟩

theorem u3_ : type_of% Tryd.underlying3 := Tryd.underlying3
theorem u56_ : type_of% Tryd.underlying56 := Tryd.underlying56
theorem u59_ : type_of% Tryd.underlying59 := Tryd.underlying59
theorem H11 : Has Tryd.prog 11 := ⟨fun args w => run_callFunc_body Tryd.func11 rfl (by decide) args w⟩
theorem T41 : Ty Tryd.prog 41 true 5 := ⟨by kernel_rfl, by kernel_rfl⟩
theorem QA24 (d : Nat) (x0 x1 x2 x3 y0 y1 y2 y3 : Int) (w : World) : (Op.equalIn (d + 2) 24 (.agg #[.int .i64 x0, .int .i64 x1, .int .i64 x2, .int .i64 x3]) (.agg #[.int .i64 y0, .int .i64 y1, .int .i64 y2, .int .i64 y3])).run Tryd.prog w = .ok (decide (x0 = y0 ∧ x1 = y1 ∧ x2 = y2 ∧ x3 = y3)) w :=
  (eq_arr (d := d) (k := .i64) Ar24 u3_ T3 [x0, x1, x2, x3] [y0, y1, y2, y3] rfl rfl w).trans (by congr 1; exact decide_eq_decide.2 (by simp))
theorem QD41 (dd : Nat) (x0 : Int) (x1 : Int) (x2 : Int) (x3 : Int) (x4 : Int) (y0 : Int) (y1 : Int) (y2 : Int) (y3 : Int) (y4 : Int) (w : World) : (Op.equalIn (dd + 3) 41 (.agg #[.int .i64 x0, .int .i64 x1, .int .i64 x2, .int .i64 x3, .int .i64 x4]) (.agg #[.int .i64 y0, .int .i64 y1, .int .i64 y2, .int .i64 y3, .int .i64 y4])).run Tryd.prog w = .ok (decide (x0 = y0 ∧ x1 = y1 ∧ x2 = y2 ∧ x3 = y3 ∧ x4 = y4)) w :=
  eq_struct (d := dd + 2) (rs := [decide (x0 = y0), decide (x1 = y1 ∧ x2 = y2 ∧ x3 = y3 ∧ x4 = y4)]) u41_ (by kernel_rfl) ⟨rfl, fld_int (d := dd + 1) rfl rfl u3_ T3 rfl rfl, rfl, fld_agg (d := dd + 2) (sz := 4) (xs' := [.int .i64 x1, .int .i64 x2, .int .i64 x3, .int .i64 x4]) (ys' := [.int .i64 y1, .int .i64 y2, .int .i64 y3, .int .i64 y4]) rfl rfl T24 rfl rfl (fun w => QA24 (dd + 0) x1 x2 x3 x4 y1 y2 y3 y4 w), trivial⟩ (by rw [Bool.eq_iff_iff]; simp [and_assoc]) w
theorem G41 : Tryd.prog.eqGuardType Tryd.prog.depth 41 = false := by kernel_rfl
theorem Q41 (x0 : Int) (x1 : Int) (x2 : Int) (x3 : Int) (x4 : Int) (y0 : Int) (y1 : Int) (y2 : Int) (y3 : Int) (y4 : Int) (w : World) : (Op.equalIn 10000 41 (.agg #[.int .i64 x0, .int .i64 x1, .int .i64 x2, .int .i64 x3, .int .i64 x4]) (.agg #[.int .i64 y0, .int .i64 y1, .int .i64 y2, .int .i64 y3, .int .i64 y4])).run Tryd.prog w = .ok (decide (x0 = y0 ∧ x1 = y1 ∧ x2 = y2 ∧ x3 = y3 ∧ x4 = y4)) w := QD41 9997 x0 x1 x2 x3 x4 y0 y1 y2 y3 y4 w
theorem Z22 : (Tryd.prog.info? 22).bind (·.zero) = some (.slice none 0 0) := by kernel_rfl
theorem B59 : Bt Tryd.prog 59 [.bool false, .bool false, .bool false, .bool false, .bool false, .map none] [(0, 1), (1, 4), (5, 1)] := ⟨⟨.agg #[.bool false, .bool false, .bool false, .bool false, .bool false, .map none], by kernel_rfl, rfl⟩, ⟨_, u59_, fun w => by kernel_rfl⟩⟩
theorem Z59 : (Tryd.prog.info? 59).bind (·.zero) = some (.agg #[.bool false, .bool false, .bool false, .bool false, .bool false, .map none]) := by kernel_rfl
theorem T59 : Ty Tryd.prog 59 true 6 := ⟨by kernel_rfl, by kernel_rfl⟩
theorem BW35 (Y : Nat → Prop) (w0 : World) (v : Value) (h1 : v.oneCell' = true) : Calls Tryd.prog 35 [v].toArray w0 fun e w' => ∃ b, e = .returned (.func (.func 58) #[] #[.pointer (some ⟨b, 0, none⟩)]) ∧ Stw ⟨Y, [], w0⟩ [(b, [v])] [] w' := by
 refine enter Tryd.func35 rfl Tryd.ntmps35 rfl (fun a hF => ?_)
 have hW := Stw.start Y w0
 refine c_seq (reg_list ?_)
 refine l_box (cs := [v]) hF hW rfl rfl (cells_one h1) (fun b1 a w hF hW => ?_)
 refine ls hF hW rfl ((y_assign hF rfl).q) (fun a w hF hW => ?_)
 refine ls_nil (c_then ?_)
 refine c_seq (reg_list ?_)
 refine ls hF hW rfl ((y_makeFunc (us := []) (vs := [.pointer (some ⟨b1, 0, none⟩)]) hF rfl rfl).q) (fun a w hF hW => ?_)
 refine ls hF hW rfl ((y_assign hF rfl).q) (fun a w hF hW => ?_)
 refine ls_nil (c_then ?_)
 refine wr_ret ?_
 refine post1 (.inl rfl) hF hW rfl (rv_tmp hF rfl) ?_
 exact ⟨b1, rfl, hW⟩
theorem H35 : Has Tryd.prog 35 := ⟨fun args w => run_callFunc_body Tryd.func35 rfl (by decide) args w⟩
theorem T22 : Ty Tryd.prog 22 false 1 := ⟨by kernel_rfl, by kernel_rfl⟩
theorem W58 (b : Nat) (v : Value) (l : List (Int × Int × Int)) (hn : l.length ≤ 1000000000) :
    Iter Tryd.prog 58 [.pointer (some ⟨b, 0, none⟩)] (Rdy b v R27 l) (bwd l) (fun p => [.int .i64 p.1, Value.agg #[.int .i64 p.2.1, .int .i64 p.2.2.1, .int .i64 p.2.2.2]]) := by
 intro y K Kx w0 hB hR hY h0
 refine enter (args := [.func (.yield y) #[] #[], .pointer (some ⟨b, 0, none⟩)]) Tryd.func58 rfl Tryd.ntmps58 rfl (fun a hF => ?_)
 refine c_seq (reg_list ?_)
 have hW := Stw.start any w0
 have hr := hR _ _ h0
 refine ls hF hW rfl ((y_loadO (cs := [v]) (v := v) hr.1 (by simp) hF rfl T22 rfl).q) (fun a w hF hW => ?_)
 refine ls hF hW rfl ((y_len (r := R27) (l := l) u22_ rfl hF rfl (rdc_ro hr.2.nx)).q) (fun a w hF hW => ?_)
 refine ls hF hW rfl ((y_sub (r := (l.length : Int) - 1) hF rfl rfl (back_w hn)).q) (fun a w hF hW => ?_)
 refine ls hF hW rfl ((y_assign hF rfl).q) (fun a w hF hW => ?_)
 refine ls_nil (c_then ?_)
 have hK := hB _ _ _ h0 hW.frm.below
 have hF : Fr 19 [] [(0, .func (.yield y) #[] #[]), (1, .pointer (some ⟨b, 0, none⟩)), (3, .int .i64 ((l.length : Int) - 1))] a := hF.re ⟨rfl, rfl, rfl, trivial⟩
 clear hW hr h0
 have hl : l.take l.length = l := List.take_length
 rw [← hl] at hK
 refine wr_block ?_
 refine wr_loop_ghost (fun m a w => m ≤ l.length ∧ Fr 19 [] [(0, .func (.yield y) #[] #[]), (1, .pointer (some ⟨b, 0, none⟩)), (3, .int .i64 ((m : Int) - 1))] a ∧ K (bwd (l.take m)) w) l.length ⟨Nat.le_refl _, hF, hK⟩ ?_
 clear hF hK w
 rintro m a w ⟨hm, hF, hK⟩
 have hW := Stw.start any w
 have hr := hR _ _ hK
 refine c_seq ?_
 refine c_seq (reg_list ?_)
 refine ls hF hW rfl ((y_move hF rfl).q) (fun a w1 hF hW => ?_)
 refine ls hF hW rfl ((y_geq hF rfl rfl).q) (fun a w1 hF hW => ?_)
 refine ls_nil (c_then ?_)
 cases m with
 | zero =>
  refine c_cond_f hF rfl ?_
  refine wr_exit ?_
  iterate 2 refine e_then ?_
  refine e_block ?_
  exact post0 (.inr rfl) (hF.re (F' := []) trivial) rfl ⟨⟨_, rfl⟩, .inl (hB _ _ _ hK hW.frm.below)⟩
 | succ k =>
  refine c_cond_t hF (by show some (Value.bool (decide ((0 : Int) ≤ (k + 1 : Nat) - 1))) = some (Value.bool true); rw [decide_eq_true (by omega)]) ?_
  have hk : k < l.length := hm
  have hx : ix l (k : Int) = some l[k] := by unfold ix; rw [if_pos (by omega)]; simp
  have hx2 : l[k]? = some l[k] := by simp
  have e1 : ((k + 1 : Nat) : Int) - 1 = k := by omega
  rw [e1] at hF
  rw [bwd_take hx2] at hK
  refine wr_skip ?_
  refine c_then ?_
  refine c_seq ?_
  refine wr_block ?_
  refine c_seq ?_
  refine reg_yield 6 (fun ⟨_, _, h⟩ => by obtain ⟨⟨_, h⟩, _⟩ := h; cases h) ?_
  iterate 2 refine ls hF hW rfl ((y_move hF rfl).q) (fun a w1 hF hW => ?_)
  refine ls hF hW rfl ((y_loadO (cs := [v]) (v := v) hr.1 (by simp) hF rfl T22 rfl).q) (fun a w1 hF hW => ?_)
  refine ls hF hW rfl ((y_move hF rfl).q) (fun a w1 hF hW => ?_)
  refine ls hF hW rfl ((y_index (r := R27) L22 hF rfl rfl (rdc_ro hr.2.nx) hx).q) (fun a w1 hF hW => ?_)
  refine ls hF hW rfl ((y_load_el (y := Value.agg #[.int .i64 ((l[k]).1), .int .i64 ((l[k]).2.1), .int .i64 ((l[k]).2.2)]) (j := 0) (i := (k : Int)) hF rfl rfl (rdc_ro hr.2.nx) hx F27.to T27 rfl).q) (fun a w1 hF hW => ?_)
  refine ls_nil ?_
  have hK := hB _ _ _ hK hW.frm.below
  refine l_yield (vs := [.int .i64 k, Value.agg #[.int .i64 ((l[k]).1), .int .i64 ((l[k]).2.1), .int .i64 ((l[k]).2.2)]]) hF rfl rfl rfl (hY _ _ _ hK) ?_
  rintro e w2 (⟨rfl, hK2⟩ | ⟨rfl, hx2⟩)
  · refine ⟨_, rfl, fun a hF => ?_⟩
    refine lw_not hF rfl rfl fun a hF => ?_
    refine lw_end ?_
    refine c_then ?_
    refine c_cond_f hF rfl ?_
    refine wr_skip ?_
    refine b_normal ?_
    refine c_then ?_
    refine reg_list ?_
    have hW := Stw.start any w2
    refine ls hF hW rfl ((y_move hF rfl).q) (fun a w3 hF hW => ?_)
    refine ls hF hW rfl ((y_sub (r := (k : Int) - 1) hF rfl rfl (back_w (by omega))).q) (fun a w3 hF hW => ?_)
    refine ls hF hW rfl ((y_assign hF rfl).q) (fun a w3 hF hW => ?_)
    refine ls_nil (c_then ?_)
    exact ⟨k, Nat.lt_succ_self k, Nat.le_of_lt hk, hF.re ⟨rfl, rfl, rfl, trivial⟩, hB _ _ _ hK2 hW.frm.below⟩
  · refine ⟨_, rfl, fun a hF => ?_⟩
    refine lw_not hF rfl rfl fun a hF => ?_
    refine lw_end ?_
    refine c_then ?_
    refine c_cond_t hF rfl ?_
    refine wr_ret ?_
    refine r_block ?_
    iterate 2 refine r_then ?_
    refine r_block ?_
    refine post0 (.inl rfl) (hF.re (F' := []) trivial) rfl ⟨⟨_, rfl⟩, .inr hx2⟩
theorem T4 : Ty Tryd.prog 4 false 1 := ⟨by kernel_rfl, by kernel_rfl⟩
theorem T56 : Ty Tryd.prog 56 true 4 := ⟨by kernel_rfl, by kernel_rfl⟩
theorem Ar56 : Ar Tryd.prog 56 4 4 1 := ⟨u56_, by kernel_rfl⟩
theorem T57 : Ty Tryd.prog 57 false 1 := ⟨by kernel_rfl, by kernel_rfl⟩
noncomputable def act_shadow_covers (p0 : Bool × (Bool × Bool × Bool × Bool) × Unit) (p1 : Int) : Option (Bool × (Bool × (Bool × Bool × Bool × Bool) × Unit)) := (if (decide (0 ≤ p1) && decide (p1 < 4)) = true then (ix ([p0.2.1.1, p0.2.1.2.1, p0.2.1.2.2.1, p0.2.1.2.2.2] : List Bool) p1).bind fun x1 => (ix ([p0.2.1.1, p0.2.1.2.1, p0.2.1.2.2.1, p0.2.1.2.2.2] : List Bool) p1).bind fun x2 => some (x1, (p0.1, ((if p1 = 0 then true else p0.2.1.1), (if p1 = 1 then true else p0.2.1.2.1), (if p1 = 2 then true else p0.2.1.2.2.1), (if p1 = 3 then true else p0.2.1.2.2.2)), ())) else none)
theorem act_shadow_covers_c (Y : Nat → Prop) (X : List Nat) (w0 : World) (q_p0 : Nat) (p0 : Bool × (Bool × Bool × Bool × Bool) × Unit) (p1 : Int) (r : Bool × (Bool × (Bool × Bool × Bool × Bool) × Unit)) (H : act_shadow_covers p0 p1 = some r) (hL : Stw ⟨Y, X, w0⟩ [(q_p0, [.bool p0.1, .bool p0.2.1.1, .bool p0.2.1.2.1, .bool p0.2.1.2.2.1, .bool p0.2.1.2.2.2, .map none])] [] w0) :
    Calls Tryd.prog 59 #[.pointer (some ⟨q_p0, 0, none⟩), .int .i64 p1] w0 fun e w' => ∃ x : Unit, e = .returned (.bool r.1) ∧ Stw ⟨Y, X, w0⟩ [(q_p0, [.bool r.2.1, .bool r.2.2.1.1, .bool r.2.2.1.2.1, .bool r.2.2.1.2.2.1, .bool r.2.2.1.2.2.2, .map none])] [] w' := by
 refine enter Tryd.func59 rfl Tryd.ntmps59 rfl (fun a hF => ?_)
 have hW := hL
 unfold act_shadow_covers at H
 refine c_seq (reg_list ?_)
 refine ls hF hW rfl ((y_assign hF rfl).q) (fun a w hF hW => ?_)
 refine ls_nil (c_then ?_)
 refine c_seq ?_
 refine c_seqJ (fun a w => Fr 51 [] [(0, .pointer (some ⟨q_p0, 0, none⟩)), (1, .int .i64 p1), (4, .bool false), (13, .bool (decide (0 ≤ p1) && decide (p1 < 4)))] a ∧ Stw ⟨Y, X, w0⟩ [(q_p0, [.bool p0.1, .bool p0.2.1.1, .bool p0.2.1.2.1, .bool p0.2.1.2.2.1, .bool p0.2.1.2.2.2, .map none])] [] w) ?_ ?_
 ·
  refine reg_list ?_
  refine ls hF hW rfl ((y_move hF rfl).q) (fun a w hF hW => ?_)
  refine ls hF hW rfl ((y_geq hF rfl rfl).q) (fun a w hF hW => ?_)
  refine ls hF hW rfl ((y_move hF rfl).q) (fun a w hF hW => ?_)
  rcases Bool.eq_false_or_eq_true (decide (0 ≤ p1)) with hb0 | hb0
  ·
   rw [hb0] at hF
   refine ls_w hF hW (wanted_y hF rfl rfl rfl rfl) rfl (Nat.le_of_ble_eq_true rfl) ((y_move hF rfl).q) (fun a w hF hW => ?_)
   refine ls_w hF hW (wanted_y hF rfl rfl rfl rfl) rfl (Nat.le_of_ble_eq_true rfl) ((y_lss hF rfl rfl).q) (fun a w hF hW => ?_)
   refine ls hF hW rfl ((y_pick_t hF rfl rfl rfl).q) (fun a w hF hW => ?_)
   refine ls_nil (c_then ?_)
   exact ⟨hF.re ⟨rfl, rfl, rfl, (by show some (Value.bool (decide (p1 < 4))) = some (Value.bool (decide (0 ≤ p1) && decide (p1 < 4))); try rw [hb0]; all_goals simp only [Bool.not_true, Bool.not_false, Bool.true_and, Bool.false_and, Bool.true_or, Bool.false_or, Bool.and_true, Bool.or_false, cond_true, cond_false]), trivial⟩, hW⟩
  ·
   rw [hb0] at hF
   iterate 2 refine lsn hF rfl rfl rfl rfl rfl rfl rfl (fun a hF => ?_)
   refine ls hF hW rfl ((y_pick_f hF rfl rfl rfl).q) (fun a w hF hW => ?_)
   refine ls_nil (c_then ?_)
   exact ⟨hF.re ⟨rfl, rfl, rfl, (by show some (Value.bool false) = some (Value.bool (decide (0 ≤ p1) && decide (p1 < 4))); try rw [hb0]; all_goals simp only [Bool.not_true, Bool.not_false, Bool.true_and, Bool.false_and, Bool.true_or, Bool.false_or, Bool.and_true, Bool.or_false, cond_true, cond_false]), trivial⟩, hW⟩
 rintro a w ⟨hF, hW⟩
 refine c_cond hF rfl (fun hb => ?_) (fun hb => ?_)
 ·
  have H := iteT hb H
  rw [hb] at hF
  clear hb
  refine c_seq (reg_list ?_)
  iterate 2 refine ls hF hW rfl ((y_move hF rfl).q) (fun a w hF hW => ?_)
  refine ls hF hW rfl ((y_nilCheck hF rfl).q) (fun a w hF hW => ?_)
  refine ls hF hW rfl ((y_fieldAddr u59_ rfl rfl rfl T56 hF rfl 1 rfl).q) (fun a w hF hW => ?_)
  obtain ⟨x1, h1, H⟩ := bindE H
  refine ls hF hW rfl ((y_indexP (1 + (p1).toNat * 1) Ar56 hF rfl rfl rfl h1 rfl).q) (fun a w hF hW => ?_)
  refine ls hF hW rfl ((y_load (v := Value.bool x1) 0 hF rfl rfl T4 (rdv_dyn (base := 1) (m := 4) (l := [p0.2.1.1, p0.2.1.2.1, p0.2.1.2.2.1, p0.2.1.2.2.2]) (enc := Value.bool) rfl h1)).q) (fun a w hF hW => ?_)
  refine ls hF hW rfl ((y_assign hF rfl).q) (fun a w hF hW => ?_)
  refine ls_nil (c_then ?_)
  refine c_seq (reg_list ?_)
  iterate 2 refine ls hF hW rfl ((y_move hF rfl).q) (fun a w hF hW => ?_)
  refine ls hF hW rfl ((y_nilCheck hF rfl).q) (fun a w hF hW => ?_)
  refine ls hF hW rfl ((y_fieldAddr u59_ rfl rfl rfl T56 hF rfl 1 rfl).q) (fun a w hF hW => ?_)
  obtain ⟨x2, h2, H⟩ := bindE H
  refine ls hF hW rfl ((y_indexP (1 + (p1).toNat * 1) Ar56 hF rfl rfl rfl h2 rfl).q) (fun a w hF hW => ?_)
  refine l_store_dyn (o := 1) (m := 4) (i := p1) (l := ([p0.2.1.1, p0.2.1.2.1, p0.2.1.2.2.1, p0.2.1.2.2.2] : List Bool)) (x := x2) (cs := [.bool p0.1, .bool p0.2.1.1, .bool p0.2.1.2.1, .bool p0.2.1.2.2.1, .bool p0.2.1.2.2.2, .map none]) (cs' := [.bool p0.1, .bool (if p1 = 0 then true else p0.2.1.1), .bool (if p1 = 1 then true else p0.2.1.2.1), .bool (if p1 = 2 then true else p0.2.1.2.2.1), .bool (if p1 = 3 then true else p0.2.1.2.2.2), .map none]) 0 hF hW rfl rfl rfl T4 rfl rfl rfl rfl h2 (by intro k hk hn; rw [hk]; match k, hn with | 0, _ => rfl | 1, _ => rfl | 2, _ => rfl | 3, _ => rfl | (z + 4), h => exact absurd h (by omega)) (fun w hW => ?_)
  have hW : Stw ⟨Y, X, w0⟩ [(q_p0, [.bool p0.1, .bool (if p1 = 0 then true else p0.2.1.1), .bool (if p1 = 1 then true else p0.2.1.2.1), .bool (if p1 = 2 then true else p0.2.1.2.2.1), .bool (if p1 = 3 then true else p0.2.1.2.2.2), .map none])] [] w := hW
  refine ls_nil (c_then ?_)
  refine c_seq (reg_list ?_)
  refine ls hF hW rfl ((y_move hF rfl).q) (fun a w hF hW => ?_)
  refine ls hF hW rfl ((y_assign hF rfl).q) (fun a w hF hW => ?_)
  refine ls_nil (c_then ?_)
  refine wr_ret ?_
  refine r_then ?_
  have H := Option.some.inj H
  subst H
  refine post1 (.inl rfl) hF hW rfl (rv_tmp hF rfl) ?_
  exact ⟨(), rfl, hW⟩
 ·
  have H := iteF (by rw [hb]; decide) H
  rw [hb] at hF
  clear hb
  exact nomatch H

theorem H59 : Has Tryd.prog 59 := ⟨fun args w => run_callFunc_body Tryd.func59 rfl (by decide) args w⟩
noncomputable def act_shadow_hides (p0 : Bool × (Bool × Bool × Bool × Bool) × Unit) (p1 : Int × Int × Int) : Option (Bool × (Bool × (Bool × Bool × Bool × Bool) × Unit)) := orR (if p1.1 = 2 then some (.inl (false, false, false, false, false)) else (if p1.1 = 3 then some (.inl (true, false, false, false, false)) else (if p1.1 = 1 then (if p0.1 = true then some (true, true, p0.2.1.1, p0.2.1.2.1, p0.2.1.2.2.1, p0.2.1.2.2.2) else (act_shadow_covers (false, p0.2.1, ()) p1.2.1).bind fun x12 => some (x12.1, x12.2.1, x12.2.2.1.1, x12.2.2.1.2.1, x12.2.2.1.2.2.1, x12.2.2.1.2.2.2)).bind fun (x6, x7, x8, x9, x10, x11) => some (.inr (x6, (x7, (x8, x9, x10, x11), ()))) else some (.inl (p0.1, p0.2.1.1, p0.2.1.2.1, p0.2.1.2.2.1, p0.2.1.2.2.2))))) fun (x1, x2, x3, x4, x5) => some (false, (x1, (x2, x3, x4, x5), ()))
theorem act_shadow_hides_c (Y : Nat → Prop) (X : List Nat) (w0 : World) (q_p0 : Nat) (p0 : Bool × (Bool × Bool × Bool × Bool) × Unit) (p1 : Int × Int × Int) (r : Bool × (Bool × (Bool × Bool × Bool × Bool) × Unit)) (H : act_shadow_hides p0 p1 = some r) (hL : Stw ⟨Y, X, w0⟩ [(q_p0, [.bool p0.1, .bool p0.2.1.1, .bool p0.2.1.2.1, .bool p0.2.1.2.2.1, .bool p0.2.1.2.2.2, .map none])] [] w0) :
    Calls Tryd.prog 36 #[.pointer (some ⟨q_p0, 0, none⟩), .agg #[.int .i64 p1.1, .int .i64 p1.2.1, .int .i64 p1.2.2]] w0 fun e w' => ∃ x : Unit, e = .returned (.bool r.1) ∧ Stw ⟨Y, X, w0⟩ [(q_p0, [.bool r.2.1, .bool r.2.2.1.1, .bool r.2.2.1.2.1, .bool r.2.2.1.2.2.1, .bool r.2.2.1.2.2.2, .map none])] [] w' := by
 refine enter Tryd.func36 rfl Tryd.ntmps36 rfl (fun a hF => ?_)
 have hW := hL
 unfold act_shadow_hides at H
 refine c_seq (reg_list ?_)
 refine l_box (cs := [.int .i64 p1.1, .int .i64 p1.2.1, .int .i64 p1.2.2]) hF hW rfl rfl rfl (fun b1 a w hF hW => ?_)
 refine ls hF hW rfl ((y_assign hF rfl).q) (fun a w hF hW => ?_)
 refine ls_nil (c_then ?_)
 obtain ⟨o1, G1, K1, L1⟩ := orE H
 refine c_seqJ (fun a w => ∃ x1 : Bool, ∃ x2 : Bool, ∃ x3 : Bool, ∃ x4 : Bool, ∃ x5 : Bool, some (Sum.inl (x1, x2, x3, x4, x5)) = some o1 ∧ Fr 29 [] [(4, .bool false)] a ∧ Stw ⟨Y, X, w0⟩ [(b1, [.int .i64 p1.1, .int .i64 p1.2.1, .int .i64 p1.2.2]), (q_p0, [.bool x1, .bool x2, .bool x3, .bool x4, .bool x5, .map none])] [] w) ?_ ?_
 ·
  have H := G1
  clear G1 K1
  refine c_seq (reg_list ?_)
  refine ls hF hW rfl ((y_fieldAddr u27_ rfl rfl rfl T3 hF rfl 0 rfl).q) (fun a w hF hW => ?_)
  refine ls hF hW rfl ((y_load (v := Value.int .i64 p1.1) 0 hF rfl rfl T3 rfl).q) (fun a w hF hW => ?_)
  refine ls_nil (c_then ?_)
  refine wr_block ?_
  refine c_seq (reg_list ?_)
  refine ls hF hW rfl ((y_eql hF rfl rfl).q) (fun a w hF hW => ?_)
  refine ls hF hW rfl ((y_assign hF rfl).q) (fun a w hF hW => ?_)
  refine ls_nil (c_then ?_)
  refine c_cond hF rfl (fun hb => ?_) (fun hb => ?_)
  ·
   have H := iteT (of_decide_eq_true hb) H
   rw [hb] at hF
   clear hb
   refine reg_list ?_
   refine ls hF hW rfl ((y_move hF rfl).q) (fun a w hF hW => ?_)
   refine ls hF hW rfl ((y_build (v := Value.agg #[.bool false, .bool false, .bool false, .bool false, .bool false, .map none]) B59 hF rfl rfl rfl).q) (fun a w hF hW => ?_)
   refine ls hF hW rfl ((y_nilCheck hF rfl).q) (fun a w hF hW => ?_)
   refine l_store (vs := [.bool false, .bool false, .bool false, .bool false, .bool false, .map none]) (M' := [(b1, [.int .i64 p1.1, .int .i64 p1.2.1, .int .i64 p1.2.2]), (q_p0, [.bool false, .bool false, .bool false, .bool false, .bool false, .map none])]) 1 hF hW rfl rfl rfl T59 rfl rfl rfl rfl rfl (fun w hW => ?_)
   refine ls_nil ?_
   refine b_normal ?_
   refine c_then ?_
   have hW := hW.frontM (i := 1) rfl rfl
   have hW := hW.frontM (i := 1) rfl rfl
   exact ⟨_, _, _, _, _, H, hF.re ⟨rfl, trivial⟩, hW⟩
  ·
   have H := iteF (of_decide_eq_false hb) H
   rw [hb] at hF
   clear hb
   refine c_seq (reg_list ?_)
   refine ls hF hW rfl ((y_eql hF rfl rfl).q) (fun a w hF hW => ?_)
   refine ls hF hW rfl ((y_assign hF rfl).q) (fun a w hF hW => ?_)
   refine ls_nil (c_then ?_)
   refine c_cond hF rfl (fun hb => ?_) (fun hb => ?_)
   ·
    have H := iteT (of_decide_eq_true hb) H
    rw [hb] at hF
    clear hb
    refine reg_list ?_
    refine ls hF hW rfl ((y_move hF rfl).q) (fun a w hF hW => ?_)
    refine ls hF hW rfl ((y_build (v := Value.agg #[.bool true, .bool false, .bool false, .bool false, .bool false, .map none]) B59 hF rfl rfl rfl).q) (fun a w hF hW => ?_)
    refine ls hF hW rfl ((y_nilCheck hF rfl).q) (fun a w hF hW => ?_)
    refine l_store (vs := [.bool true, .bool false, .bool false, .bool false, .bool false, .map none]) (M' := [(b1, [.int .i64 p1.1, .int .i64 p1.2.1, .int .i64 p1.2.2]), (q_p0, [.bool true, .bool false, .bool false, .bool false, .bool false, .map none])]) 1 hF hW rfl rfl rfl T59 rfl rfl rfl rfl rfl (fun w hW => ?_)
    refine ls_nil ?_
    refine b_normal ?_
    refine c_then ?_
    have hW := hW.frontM (i := 1) rfl rfl
    have hW := hW.frontM (i := 1) rfl rfl
    exact ⟨_, _, _, _, _, H, hF.re ⟨rfl, trivial⟩, hW⟩
   ·
    have H := iteF (of_decide_eq_false hb) H
    rw [hb] at hF
    clear hb
    refine c_seq (reg_list ?_)
    refine ls hF hW rfl ((y_eql hF rfl rfl).q) (fun a w hF hW => ?_)
    refine ls hF hW rfl ((y_assign hF rfl).q) (fun a w hF hW => ?_)
    refine ls_nil (c_then ?_)
    refine c_cond hF rfl (fun hb => ?_) (fun hb => ?_)
    ·
     have H := iteT (of_decide_eq_true hb) H
     rw [hb] at hF
     clear hb
     obtain ⟨o2, G2, K2⟩ := bindE H
     refine c_seqJ (fun a w => ∃ x6 : Bool, ∃ x7 : Bool, ∃ x8 : Bool, ∃ x9 : Bool, ∃ x10 : Bool, ∃ x11 : Bool, some ((x6, x7, x8, x9, x10, x11)) = some o2 ∧ Fr 29 [] [(4, .bool x6)] a ∧ Stw ⟨Y, X, w0⟩ [(b1, [.int .i64 p1.1, .int .i64 p1.2.1, .int .i64 p1.2.2]), (q_p0, [.bool x7, .bool x8, .bool x9, .bool x10, .bool x11, .map none])] [] w) ?_ ?_
     ·
      have H := G2
      clear G2 K2
      refine reg_list ?_
      refine ls hF hW rfl ((y_move hF rfl).q) (fun a w hF hW => ?_)
      refine ls hF hW rfl ((y_nilCheck hF rfl).q) (fun a w hF hW => ?_)
      refine ls hF hW rfl ((y_fieldAddr u59_ rfl rfl rfl T4 hF rfl 0 rfl).q) (fun a w hF hW => ?_)
      refine ls hF hW rfl ((y_load (v := Value.bool p0.1) 1 hF rfl rfl T4 rfl).q) (fun a w hF hW => ?_)
      refine ls hF hW rfl ((y_move hF rfl).q) (fun a w hF hW => ?_)
      rcases Bool.eq_false_or_eq_true p0.1 with hb | hb
      ·
       have H := iteT hb H
       rw [hb] at hF
       rw [hb] at hW
       clear hb
       iterate 4 refine lsn hF rfl rfl rfl rfl rfl rfl rfl (fun a hF => ?_)
       refine ls hF hW rfl ((y_pick_t hF rfl rfl rfl).q) (fun a w hF hW => ?_)
       refine ls hF hW rfl ((y_assign hF rfl).q) (fun a w hF hW => ?_)
       refine ls_nil (c_then ?_)
       have hW := hW.frontM (i := 1) rfl rfl
       have hW := hW.frontM (i := 1) rfl rfl
       exact ⟨_, _, _, _, _, _, H, hF.re ⟨rfl, trivial⟩, hW⟩
      ·
       have H := iteF (by rw [hb]; decide) H
       rw [hb] at hF
       rw [hb] at hW
       clear hb
       refine ls_w hF hW (wanted_y hF rfl rfl rfl rfl) rfl (Nat.le_of_ble_eq_true rfl) ((y_move hF rfl).q) (fun a w hF hW => ?_)
       refine ls_w hF hW (wanted_y hF rfl rfl rfl rfl) rfl (Nat.le_of_ble_eq_true rfl) ((y_fieldAddr u27_ rfl rfl rfl T3 hF rfl 1 rfl).q) (fun a w hF hW => ?_)
       refine ls_w hF hW (wanted_y hF rfl rfl rfl rfl) rfl (Nat.le_of_ble_eq_true rfl) ((y_load (v := Value.int .i64 p1.2.1) 0 hF rfl rfl T3 rfl).q) (fun a w hF hW => ?_)
       refine ls_g (wanted_y hF rfl rfl rfl rfl) ?_
       obtain ⟨x12, h1, H⟩ := bindE H
       have hW := hW.frontM (i := 1) rfl rfl
       refine l_callG (Ml := [(q_p0, [.bool false, .bool p0.2.1.1, .bool p0.2.1.2.1, .bool p0.2.1.2.2.1, .bool p0.2.1.2.2.2, .map none])]) (Zl := []) (M := [(b1, [.int .i64 p1.1, .int .i64 p1.2.1, .int .i64 p1.2.2])]) (Z := []) (β := Unit) (rv := fun x => .bool x12.1) (MM := fun x => [(q_p0, [.bool x12.2.1, .bool x12.2.2.1.1, .bool x12.2.2.1.2.1, .bool x12.2.2.1.2.2.1, .bool x12.2.2.1.2.2.2, .map none])]) (ZZ := fun x => []) hF hW H59 rfl rfl (fun hL => act_shadow_covers_c _ _ w q_p0 (false, p0.2.1, ()) p1.2.1 _ h1 hL) (fun x a w hF hW => ?_)
       have hW : Stw ⟨Y, X, w0⟩ [(q_p0, [.bool x12.2.1, .bool x12.2.2.1.1, .bool x12.2.2.1.2.1, .bool x12.2.2.1.2.2.1, .bool x12.2.2.1.2.2.2, .map none]), (b1, [.int .i64 p1.1, .int .i64 p1.2.1, .int .i64 p1.2.2])] [] w := hW
       refine ls hF hW rfl ((y_pick_f hF rfl rfl rfl).q) (fun a w hF hW => ?_)
       refine ls hF hW rfl ((y_assign hF rfl).q) (fun a w hF hW => ?_)
       refine ls_nil (c_then ?_)
       have hW := hW.frontM (i := 1) rfl rfl
       exact ⟨_, _, _, _, _, _, H, hF.re ⟨rfl, trivial⟩, hW⟩
     rintro a w ⟨x6, x7, x8, x9, x10, x11, hj, hF, hW⟩
     have hj := Option.some.inj hj
     subst hj
     have H := K2
     clear G2 K2
     refine wr_ret ?_
     refine r_block ?_
     refine r_then ?_
     have H := L1 _ H
     have H := Option.some.inj H
     subst H
     refine post1 (.inl rfl) hF hW rfl (rv_tmp hF rfl) ?_
     have hW := hW.frontM (i := 1) rfl rfl
     have hW := hW.sub (M' := [(q_p0, [.bool x7, .bool x8, .bool x9, .bool x10, .bool x11, .map none])]) (Z' := []) (List.Sublist.cons_cons _ (List.nil_sublist _)) (List.Sublist.refl _)
     exact ⟨(), rfl, hW⟩
    ·
     have H := iteF (of_decide_eq_false hb) H
     rw [hb] at hF
     clear hb
     refine wr_skip ?_
     refine b_normal ?_
     refine c_then ?_
     have hW := hW.frontM (i := 1) rfl rfl
     have hW := hW.frontM (i := 1) rfl rfl
     exact ⟨_, _, _, _, _, H, hF.re ⟨rfl, trivial⟩, hW⟩
 rintro a w ⟨x1, x2, x3, x4, x5, hj, hF, hW⟩
 have H := K1 _ hj
 clear hj G1 K1 L1
 refine c_seq (reg_list ?_)
 refine ls hF hW rfl ((y_assign hF rfl).q) (fun a w hF hW => ?_)
 refine ls_nil (c_then ?_)
 refine wr_ret ?_
 have H := Option.some.inj H
 subst H
 refine post1 (.inl rfl) hF hW rfl (rv_tmp hF rfl) ?_
 have hW := hW.frontM (i := 1) rfl rfl
 have hW := hW.sub (M' := [(q_p0, [.bool x1, .bool x2, .bool x3, .bool x4, .bool x5, .map none])]) (Z' := []) (List.Sublist.cons_cons _ (List.nil_sublist _)) (List.Sublist.refl _)
 exact ⟨(), rfl, hW⟩

theorem H36 : Has Tryd.prog 36 := ⟨fun args w => run_callFunc_body Tryd.func36 rfl (by decide) args w⟩
theorem H58 : Has Tryd.prog 58 := ⟨fun args w => run_callFunc_body Tryd.func58 rfl (by decide) args w⟩
theorem MO : Tryd.prog.follows .mixedOrders = true := by kernel_rfl
noncomputable def slices_Reverse_api_Act_api_Act_l1  : ((List (Int × Int × Int)) × Int × Int) → Option (((List (Int × Int × Int)) × Int × Int) ⊕ (List (Int × Int × Int)))
  | (x1, x2, x3) => (if x2 < x3 then (ix x1 x3).bind fun x4 => (ix x1 x2).bind fun x5 => (ix x1 x2).bind fun x6 => (ix (setAt x1 x2 x4) x3).bind fun x7 => some (.inl ((setAt (setAt x1 x2 x4) x3 x5), w64 (x2 + 1), w64 (x3 - 1))) else some (.inr x1))
noncomputable def slices_Reverse_api_Act_api_Act (p0 : List (Int × Int × Int)) : Option (List (Int × Int × Int)) := loopW (slices_Reverse_api_Act_api_Act_l1) (p0, 0, w64 ((p0.length : Int) - 1))
theorem slices_Reverse_api_Act_api_Act_c (Y : Nat → Prop) (X : List Nat) (w0 : World) (v1 : Value) (p0 : List (Int × Int × Int)) (r : (List (Int × Int × Int))) (H : slices_Reverse_api_Act_api_Act p0 = some r) (hL : Stw ⟨Y, X, w0⟩ [] [row v1 27 R27 p0] w0) :
    Calls Tryd.prog 37 #[v1] w0 fun e w' => ∃ x : Unit, e = .returned (.tuple #[]) ∧ Stw ⟨Y, X, w0⟩ [] [row v1 27 R27 r] w' := by
 refine enter Tryd.func37 rfl Tryd.ntmps37 rfl (fun a hF => ?_)
 have hW := hL
 unfold slices_Reverse_api_Act_api_Act at H
 refine c_seq (reg_list ?_)
 refine ls hF hW rfl ((y_move hF rfl).q) (fun a w hF hW => ?_)
 refine ls hF hW rfl ((y_len (r := R27) (l := p0) u22_ rfl hF rfl (rdc_row 0 rfl)).q) (fun a w hF hW => ?_)
 refine ls hF hW rfl ((y_sub hF rfl rfl rfl).q) (fun a w hF hW => ?_)
 iterate 2 refine ls hF hW rfl ((y_assign hF rfl).q) (fun a w hF hW => ?_)
 refine ls_nil (c_then ?_)
 refine wr_block ?_
 refine c_loopW H (fun s a w => Fr 28 [] [(0, v1), (2, .int .i64 s.2.1), (3, .int .i64 s.2.2)] a ∧ Stw ⟨Y, X, w0⟩ [] [row v1 27 R27 s.1] w) ⟨hF.re ⟨rfl, rfl, rfl, trivial⟩, hW⟩ (fun s o a w H L1 hR => ?_)
 obtain ⟨x1, x2, x3⟩ := s
 obtain ⟨hF, hW⟩ := hR
 have hF : Fr 28 [] [(0, v1), (2, .int .i64 x2), (3, .int .i64 x3)] a := hF
 have hW : Stw ⟨Y, X, w0⟩ [] [row v1 27 R27 x1] w := hW
 rw [slices_Reverse_api_Act_api_Act_l1] at H
 refine c_seq ?_
 refine c_seq (reg_list ?_)
 iterate 2 refine ls hF hW rfl ((y_move hF rfl).q) (fun a w hF hW => ?_)
 refine ls hF hW rfl ((y_lss hF rfl rfl).q) (fun a w hF hW => ?_)
 refine ls_nil (c_then ?_)
 refine c_cond hF rfl (fun hb => ?_) (fun hb => ?_)
 ·
  have H := iteT (of_decide_eq_true hb) H
  rw [hb] at hF
  clear hb
  refine wr_skip ?_
  refine c_then ?_
  refine c_seq ?_
  refine wr_block ?_
  refine reg_ord 13 [2, 3] [0, 1, 4, 5, 6, 7, 8, 9, 10, 11, 12] (fun ch a d v w h => by cases d <;> exact h) hW MO (by kernel_rfl) ?_
  iterate 2 refine hm hF rfl rfl rfl (fun a hF => ?_)
  refine hm_end ?_
  iterate 4 refine hs hF rfl rfl rfl ((y_move hF rfl).q) (fun a hF => ?_)
  obtain ⟨x4, h1, H⟩ := bindE H
  refine hs hF rfl rfl rfl ((y_index (r := R27) L22 hF rfl rfl (rdc_row 0 rfl) h1).q) (fun a hF => ?_)
  refine hs hF rfl rfl rfl ((y_load_el (y := Value.agg #[.int .i64 x4.1, .int .i64 x4.2.1, .int .i64 x4.2.2]) (j := 0) (i := x3) hF rfl rfl (rdc_row 0 rfl) h1 F27.to T27 rfl).q) (fun a hF => ?_)
  iterate 2 refine hs hF rfl rfl rfl ((y_move hF rfl).q) (fun a hF => ?_)
  obtain ⟨x5, h2, H⟩ := bindE H
  refine hs hF rfl rfl rfl ((y_index (r := R27) L22 hF rfl rfl (rdc_row 0 rfl) h2).q) (fun a hF => ?_)
  refine hs hF rfl rfl rfl ((y_load_el (y := Value.agg #[.int .i64 x5.1, .int .i64 x5.2.1, .int .i64 x5.2.2]) (j := 0) (i := x2) hF rfl rfl (rdc_row 0 rfl) h2 F27.to T27 rfl).q) (fun a hF => ?_)
  obtain ⟨x6, h3, H⟩ := bindE H
  refine hs hF rfl rfl rfl ((y_index (r := R27) L22 hF rfl rfl (rdc_row 0 rfl) h3).q) (fun a hF => ?_)
  refine h_end (fun w hW => ?_)
  have hW : Stw ⟨Y, X, w0⟩ [] [row v1 27 R27 x1] w := hW
  refine l_store_el (i := x2) (j := 0) (vs := [.int .i64 x4.1, .int .i64 x4.2.1, .int .i64 x4.2.2]) (x' := x4) hF hW rfl rfl rfl (k := 0) rfl rfl h3 T27 rfl rfl rfl rfl (fun A cs _ => F27.sto (by rfl) _ _ _) (fun w hW => ?_)
  obtain ⟨x7, h4, H⟩ := bindE H
  refine ls hF hW rfl ((y_index (r := R27) L22 hF rfl rfl (rdc_row 0 rfl) h4).q) (fun a w hF hW => ?_)
  refine l_store_el (i := x3) (j := 0) (vs := [.int .i64 x5.1, .int .i64 x5.2.1, .int .i64 x5.2.2]) (x' := x5) hF hW rfl rfl rfl (k := 0) rfl rfl h4 T27 rfl rfl rfl rfl (fun A cs _ => F27.sto (by rfl) _ _ _) (fun w hW => ?_)
  refine ls_nil ?_
  refine b_normal ?_
  refine c_then ?_
  refine reg_list ?_
  refine ls hF hW rfl ((y_move hF rfl).q) (fun a w hF hW => ?_)
  refine ls hF hW rfl ((y_add hF rfl rfl rfl).q) (fun a w hF hW => ?_)
  refine ls hF hW rfl ((y_move hF rfl).q) (fun a w hF hW => ?_)
  refine ls hF hW rfl ((y_sub hF rfl rfl rfl).q) (fun a w hF hW => ?_)
  iterate 2 refine ls hF hW rfl ((y_assign hF rfl).q) (fun a w hF hW => ?_)
  refine ls_nil (c_then ?_)
  exact ⟨_, H, hF.re ⟨rfl, rfl, rfl, trivial⟩, hW⟩
 ·
  have H := iteF (of_decide_eq_false hb) H
  rw [hb] at hF
  clear hb
  refine wr_exit ?_
  iterate 2 refine e_then ?_
  refine e_block ?_
  have H := L1 _ H
  have H := Option.some.inj H
  subst H
  refine post0 (.inr rfl) hF rfl ?_
  exact ⟨(), rfl, hW⟩

theorem H37 : Has Tryd.prog 37 := ⟨fun args w => run_callFunc_body Tryd.func37 rfl (by decide) args w⟩
noncomputable def act_Fold_l1  (x2 : Int × Int × Int × Int) : (Bool × Bool × Bool × Bool × Bool × (List (Int × Int × Int))) → Option ((Bool × Bool × Bool × Bool × Bool × (List (Int × Int × Int))) ⊕ (List (Int × Int × Int)))
  | (x3, x4, x5, x6, x7, x8) => (act_shadow_hides (x3, (x4, x5, x6, x7), ()) x2.2).bind fun x9 => (if (!x9.1) = true then (app x8 ([x2.2] : List (Int × Int × Int))).bind fun x10 => some (.inl (x9.2.1, x9.2.2.1.1, x9.2.2.1.2.1, x9.2.2.1.2.2.1, x9.2.2.1.2.2.2, x10)) else some (.inl (x9.2.1, x9.2.2.1.1, x9.2.2.1.2.1, x9.2.2.1.2.2.1, x9.2.2.1.2.2.2, x8)))
noncomputable def act_Fold (p0 : List (Int × Int × Int)) : Option (List (Int × Int × Int)) := (back p0).bind fun x1 => orR (foldW (act_Fold_l1) x1 (true, false, false, false, false, [])) fun (x3, x4, x5, x6, x7, x8) => (slices_Reverse_api_Act_api_Act x8).bind fun x11 => some x11
theorem act_Fold_c (Y : Nat → Prop) (w0 : World) (v1 : Value) (p0 : List (Int × Int × Int)) (r : (List (Int × Int × Int))) (H : act_Fold p0 = some r) (h_v1 : Sl w0 (NX []) R27 v1 p0) :
    Calls Tryd.prog 17 #[v1] w0 fun e w' => ∃ x : Value, e = .returned (x) ∧ Stw ⟨Y, [], w0⟩ [] [row (x) 27 R27 r] w' := by
 refine enterM Tryd.func17 rfl Tryd.ntmps17 rfl (fun a hF => ?_)
 have hW := Stw.start Y w0
 unfold act_Fold at H
 refine c_seq (reg_list ?_)
 refine ls hF hW rfl ((y_assign hF rfl).q) (fun a w hF hW => ?_)
 refine ls_nil (c_then ?_)
 refine c_seq (reg_list ?_)
 refine l_alloc (cs := [.slice none 0 0]) hF hW rfl Z22 rfl (fun b1 a w hF hW => ?_)
 refine ls_nil (c_then ?_)
 refine c_seq (reg_list ?_)
 refine ls hF hW rfl ((y_build (v := Value.agg #[.bool true, .bool false, .bool false, .bool false, .bool false, .map none]) B59 hF rfl rfl rfl).q) (fun a w hF hW => ?_)
 refine l_alloc (cs := [.bool false, .bool false, .bool false, .bool false, .bool false, .map none]) hF hW rfl Z59 rfl (fun b2 a w hF hW => ?_)
 refine l_store (vs := [.bool true, .bool false, .bool false, .bool false, .bool false, .map none]) (M' := [(b2, [.bool true, .bool false, .bool false, .bool false, .bool false, .map none]), (b1, [.slice none 0 0])]) 0 hF hW rfl rfl rfl T59 rfl rfl rfl rfl rfl (fun w hW => ?_)
 refine ls_nil (c_then ?_)
 refine c_seq ?_
 refine c_seq (reg_list ?_)
 refine ls hF hW rfl ((y_move hF rfl).q) (fun a w hF hW => ?_)
 refine l_callG (β := Nat) (Ml := []) (M := [(b2, [.bool true, .bool false, .bool false, .bool false, .bool false, .map none]), (b1, [.slice none 0 0])]) (Zl := []) (Z := []) (rv := fun b3 => .func (.func 58) #[] #[.pointer (some ⟨b3, 0, none⟩)]) (MM := fun b3 => [(b3, [v1])]) (ZZ := fun _ => []) hF hW H35 rfl rfl (fun _ => BW35 _ w v1 ((rdc_ro h_v1) w hW).one) (fun b3 a w hF hW => ?_)
 have hW : Stw ⟨Y, [], w0⟩ [(b3, [v1]), (b2, [.bool true, .bool false, .bool false, .bool false, .bool false, .map none]), (b1, [.slice none 0 0])] [] w := hW
 refine ls_nil (c_then ?_)
 refine wr_block ?_
 obtain ⟨x1, h1, H⟩ := bindE H
 obtain ⟨hn, rfl⟩ := back_some h1
 have hF : Fr 22 [] [(0, v1), (2, .slice none 0 0), (3, .pointer (some ⟨b1, 0, none⟩)), (4, .pointer (some ⟨b2, 0, none⟩)), (8, v1), (9, .func (.func 58) #[] #[.pointer (some ⟨b3, 0, none⟩)])] a := hF.re ⟨rfl, rfl, rfl, rfl, rfl, rfl, trivial⟩
 have hW := hW.nilRow 27 R27
 have hW := hW.frontM (i := 2) rfl rfl
 have hW := hW.frontM (i := 2) rfl rfl
 have hW := hW.frontM (i := 2) rfl rfl
 refine c_range (Z := [row (Value.slice none 0 0) 27 R27 ([])]) (fun s M Z => ∃ v2 : Value, M = [(b3, [v1]), (b2, [.bool s.1, .bool s.2.1, .bool s.2.2.1, .bool s.2.2.2.1, .bool s.2.2.2.2.1, .map none]), (b1, [v2])] ∧ Z = [row v2 27 R27 s.2.2.2.2.2]) H hF hW ⟨(Value.slice none 0 0), rfl, rfl⟩ rfl H58 (W58 b3 v1 p0 hn) (fun _ => rfl) rfl (fun s M Z hK w Z' hW => ?_) (fun l dD1 r1a r1b x2 s o M Z a a₂ w H L1 hK hF hF2 hW => ?_) (fun dD1 s M Z a w H hK hF hW => ?_)
 ·
  obtain ⟨x3, x4, x5, x6, x7, x8⟩ := s
  obtain ⟨v2, rfl, rfl⟩ := hK
  exact Rdy.of (i := 0) hW rfl (rdc_ro h_v1)
 ·
  obtain ⟨x3, x4, x5, x6, x7, x8⟩ := s
  obtain ⟨v2, rfl, rfl⟩ := hK
  have hF : Fr 22 [] [(0, v1), (2, .slice none 0 0), (3, .pointer (some ⟨b1, 0, none⟩)), (4, .pointer (some ⟨b2, 0, none⟩)), (8, v1), (9, .func (.func 58) #[] #[.pointer (some ⟨b3, 0, none⟩)]), (10, .int .i64 x2.1), (11, .agg #[.int .i64 x2.2.1, .int .i64 x2.2.2.1, .int .i64 x2.2.2.2])] a := hF.re ⟨rfl, rfl, rfl, rfl, rfl, rfl, rfl, rfl, trivial⟩
  have hW : Stw ⟨Y, [], w0⟩ [(b3, [v1]), (b2, [.bool x3, .bool x4, .bool x5, .bool x6, .bool x7, .map none]), (b1, [v2])] [row v2 27 R27 x8, r1a, dfr dD1] w := hW
  rw [act_Fold_l1] at H
  refine reg_list ?_
  refine l_alloc (cs := [.int .i64 0, .int .i64 0, .int .i64 0]) hF hW rfl Z27 rfl (fun b4 a w hF hW => ?_)
  refine l_store (vs := [.int .i64 x2.2.1, .int .i64 x2.2.2.1, .int .i64 x2.2.2.2]) (M' := [(b4, [.int .i64 x2.2.1, .int .i64 x2.2.2.1, .int .i64 x2.2.2.2]), (b3, [v1]), (b2, [.bool x3, .bool x4, .bool x5, .bool x6, .bool x7, .map none]), (b1, [v2])]) 0 hF hW rfl rfl rfl T27 rfl rfl rfl rfl rfl (fun w hW => ?_)
  refine ls_nil (c_then ?_)
  refine ⟨[(b4, [.int .i64 x2.2.1, .int .i64 x2.2.2.1, .int .i64 x2.2.2.2]), (b3, [v1]), (b2, [.bool x3, .bool x4, .bool x5, .bool x6, .bool x7, .map none]), (b1, [v2])], [row v2 27 R27 x8], hW, fun w hW => ?_⟩
  have hW : Stw ⟨Y, [], w0⟩ [(b4, [.int .i64 x2.2.1, .int .i64 x2.2.2.1, .int .i64 x2.2.2.2]), (b3, [v1]), (b2, [.bool x3, .bool x4, .bool x5, .bool x6, .bool x7, .map none]), (b1, [v2])] [row v2 27 R27 x8, r1b, dfr dD1] w := hW
  refine wr_block ?_
  refine c_seq (reg_list ?_)
  refine ls hF hW rfl ((y_load (v := Value.agg #[.int .i64 x2.2.1, .int .i64 x2.2.2.1, .int .i64 x2.2.2.2]) 0 hF rfl rfl T27 rfl).q) (fun a w hF hW => ?_)
  obtain ⟨x9, h2, H⟩ := bindE H
  have hW := hW.frontM (i := 2) rfl rfl
  refine l_callG (Ml := [(b2, [.bool x3, .bool x4, .bool x5, .bool x6, .bool x7, .map none])]) (Zl := []) (M := [(b4, [.int .i64 x2.2.1, .int .i64 x2.2.2.1, .int .i64 x2.2.2.2]), (b3, [v1]), (b1, [v2])]) (Z := [row v2 27 R27 x8, r1b, dfr dD1]) (β := Unit) (rv := fun x => .bool x9.1) (MM := fun x => [(b2, [.bool x9.2.1, .bool x9.2.2.1.1, .bool x9.2.2.1.2.1, .bool x9.2.2.1.2.2.1, .bool x9.2.2.1.2.2.2, .map none])]) (ZZ := fun x => []) hF hW H36 rfl rfl (fun hL => act_shadow_hides_c _ _ w b2 (x3, (x4, x5, x6, x7), ()) x2.2 _ h2 hL) (fun x a w hF hW => ?_)
  have hW : Stw ⟨Y, [], w0⟩ [(b2, [.bool x9.2.1, .bool x9.2.2.1.1, .bool x9.2.2.1.2.1, .bool x9.2.2.1.2.2.1, .bool x9.2.2.1.2.2.2, .map none]), (b4, [.int .i64 x2.2.1, .int .i64 x2.2.2.1, .int .i64 x2.2.2.2]), (b3, [v1]), (b1, [v2])] [row v2 27 R27 x8, r1b, dfr dD1] w := hW
  refine ls hF hW rfl ((y_not hF rfl).q) (fun a w hF hW => ?_)
  refine ls_nil (c_then ?_)
  refine c_cond hF rfl (fun hb => ?_) (fun hb => ?_)
  ·
   have H := iteT hb H
   rw [hb] at hF
   clear hb
   refine reg_list ?_
   refine ls hF hW rfl ((y_load (v := v2) 3 hF rfl rfl T22 rfl).q) (fun a w hF hW => ?_)
   refine ls hF hW rfl ((y_load (v := Value.agg #[.int .i64 x2.2.1, .int .i64 x2.2.2.1, .int .i64 x2.2.2.2]) 1 hF rfl rfl T27 rfl).q) (fun a w hF hW => ?_)
   refine l_lit (z := Value.agg #[.int .i64 0, .int .i64 0, .int .i64 0]) (cs := [.int .i64 x2.2.1, .int .i64 x2.2.2.1, .int .i64 x2.2.2.2]) R27 ([x2.2] : List (Int × Int × Int)) hF hW rfl L22 Z27 rfl rfl rfl rfl rfl rfl (F27.repL _ _ ([x2.2] : List (Int × Int × Int))) (fun v3 a w hF hW => ?_)
   obtain ⟨x10, h3, H⟩ := bindE H
   refine l_append (r := R27) (i := 1) hF hW rfl L22 rfl rfl rfl rfl (src_row hW 0 rfl) h3 rfl (fun v4 a w hF hW => ?_)
   have hW : Stw ⟨Y, [], w0⟩ [(b2, [.bool x9.2.1, .bool x9.2.2.1.1, .bool x9.2.2.1.2.1, .bool x9.2.2.1.2.2.1, .bool x9.2.2.1.2.2.2, .map none]), (b4, [.int .i64 x2.2.1, .int .i64 x2.2.2.1, .int .i64 x2.2.2.2]), (b3, [v1]), (b1, [v2])] [row v4 27 R27 x10, row v3 27 R27 ([x2.2] : List (Int × Int × Int)), r1b, dfr dD1] w := hW
   refine l_store1 (M' := [(b2, [.bool x9.2.1, .bool x9.2.2.1.1, .bool x9.2.2.1.2.1, .bool x9.2.2.1.2.2.1, .bool x9.2.2.1.2.2.2, .map none]), (b4, [.int .i64 x2.2.1, .int .i64 x2.2.2.1, .int .i64 x2.2.2.2]), (b3, [v1]), (b1, [v4])]) 3 hF hW rfl rfl rfl T22 (hW.one (k := 0) rfl) rfl rfl (fun w hW => ?_)
   refine ls_nil ?_
   refine b_normal ?_
   have hW := hW.frontZ (i := 3) rfl rfl
   have hW := hW.frontZ (i := 3) rfl rfl
   have hW := hW.frontZ (i := 2) rfl rfl
   have hW := hW.frontM (i := 3) rfl rfl
   have hW := hW.frontM (i := 1) rfl rfl
   have hW := hW.frontM (i := 3) rfl rfl
   have hW := hW.sub (M' := [(b3, [v1]), (b2, [.bool x9.2.1, .bool x9.2.2.1.1, .bool x9.2.2.1.2.1, .bool x9.2.2.1.2.2.1, .bool x9.2.2.1.2.2.2, .map none]), (b1, [v4])]) (Z' := [row v4 27 R27 x10, r1b, dfr dD1]) (List.Sublist.cons_cons _ (List.Sublist.cons_cons _ (List.Sublist.cons_cons _ (List.nil_sublist _)))) (List.Sublist.cons_cons _ (List.Sublist.cons_cons _ (List.Sublist.cons_cons _ (List.nil_sublist _))))
   exact rq_n ⟨_, _, _, H, ⟨(v4), rfl, rfl⟩, hW⟩
  ·
   have H := iteF (by rw [hb]; decide) H
   rw [hb] at hF
   clear hb
   refine wr_skip ?_
   refine b_normal ?_
   have hW := hW.frontZ (i := 2) rfl rfl
   have hW := hW.frontZ (i := 2) rfl rfl
   have hW := hW.frontZ (i := 2) rfl rfl
   have hW := hW.frontM (i := 3) rfl rfl
   have hW := hW.frontM (i := 1) rfl rfl
   have hW := hW.frontM (i := 3) rfl rfl
   have hW := hW.sub (M' := [(b3, [v1]), (b2, [.bool x9.2.1, .bool x9.2.2.1.1, .bool x9.2.2.1.2.1, .bool x9.2.2.1.2.2.1, .bool x9.2.2.1.2.2.2, .map none]), (b1, [v2])]) (Z' := [row v2 27 R27 x8, r1b, dfr dD1]) (List.Sublist.cons_cons _ (List.Sublist.cons_cons _ (List.Sublist.cons_cons _ (List.nil_sublist _)))) (List.Sublist.refl _)
   exact rq_n ⟨_, _, _, H, ⟨(v2), rfl, rfl⟩, hW⟩
 ·
  obtain ⟨x3, x4, x5, x6, x7, x8⟩ := s
  obtain ⟨v2, rfl, rfl⟩ := hK
  have hF : Fr 22 [mkd dD1] [(0, v1), (2, .slice none 0 0), (3, .pointer (some ⟨b1, 0, none⟩)), (4, .pointer (some ⟨b2, 0, none⟩)), (8, v1), (9, .func (.func 58) #[] #[.pointer (some ⟨b3, 0, none⟩)])] a := hF
  have hW : Stw ⟨Y, [], w0⟩ [(b3, [v1]), (b2, [.bool x3, .bool x4, .bool x5, .bool x6, .bool x7, .map none]), (b1, [v2])] [row v2 27 R27 x8, dfr dD1] w := hW
  refine b_normal ?_
  refine c_then ?_
  refine c_seq (reg_list ?_)
  refine ls hF hW rfl ((y_load (v := v2) 2 hF rfl rfl T22 rfl).q) (fun a w hF hW => ?_)
  obtain ⟨x11, h4, H⟩ := bindE H
  refine l_callG (Ml := []) (Zl := [row v2 27 R27 x8]) (M := [(b3, [v1]), (b2, [.bool x3, .bool x4, .bool x5, .bool x6, .bool x7, .map none]), (b1, [v2])]) (Z := [dfr dD1]) (β := Unit) (rv := fun x => .tuple #[]) (MM := fun x => []) (ZZ := fun x => [row v2 27 R27 x11]) hF hW H37 rfl rfl (fun hL => slices_Reverse_api_Act_api_Act_c _ _ w (v2) x8 _ h4 hL) (fun x a w hF hW => ?_)
  have hW : Stw ⟨Y, [], w0⟩ [(b3, [v1]), (b2, [.bool x3, .bool x4, .bool x5, .bool x6, .bool x7, .map none]), (b1, [v2])] [row v2 27 R27 x11, dfr dD1] w := hW
  refine ls_nil (c_then ?_)
  refine c_seq (reg_list ?_)
  refine ls hF hW rfl ((y_load (v := v2) 2 hF rfl rfl T22 rfl).q) (fun a w hF hW => ?_)
  refine ls hF hW rfl ((y_assign hF rfl).q) (fun a w hF hW => ?_)
  refine ls_nil (c_then ?_)
  refine wr_ret ?_
  have H := Option.some.inj H
  subst H
  refine postMd (Z := [row v2 27 R27 x11]) (.inl rfl) hF hW (fun w hW => ?_)
  have hW : Stw ⟨Y, [], w0⟩ [(b3, [v1]), (b2, [.bool x3, .bool x4, .bool x5, .bool x6, .bool x7, .map none]), (b1, [v2])] [row v2 27 R27 x11] w := hW
  refine leavesI1 hW rfl (rv_tmp hF rfl) ?_
  have hW := hW.sub (M' := []) (Z' := [row v2 27 R27 x11]) (List.nil_sublist _) (List.Sublist.refl _)
  exact ⟨(v2), rfl, hW⟩

theorem H17 : Has Tryd.prog 17 := ⟨fun args w => run_callFunc_body Tryd.func17 rfl (by decide) args w⟩
def act_fieldName (p0 : Int) : List UInt8 := (if p0 = 0 then ([115, 114, 99] : List UInt8) else (if p0 = 1 then ([100, 115, 116] : List UInt8) else (if p0 = 2 then ([107, 105, 110, 100] : List UInt8) else (if p0 = 3 then ([116, 97, 103] : List UInt8) else ([63] : List UInt8)))))
theorem act_fieldName_c (Y : Nat → Prop) (w0 : World)  (p0 : Int) (r : List UInt8) (H : act_fieldName p0 = r)  :
    Calls Tryd.prog 62 #[.int .i64 p0] w0 fun e w' => e = .returned (.string (bs r)) ∧ Below w0.heap.size w0 w' := by
 refine enter Tryd.func62 rfl Tryd.ntmps62 rfl (fun a hF => ?_)
 have hW := Stw.start Y w0
 unfold act_fieldName at H
 refine c_seq (reg_list ?_)
 refine ls hF hW rfl ((y_assign (v := Value.string (bs ([] : List UInt8))) hF rfl).q) (fun a w hF hW => ?_)
 refine ls_nil (c_then ?_)
 refine c_seq ?_
 refine c_seq (reg_list ?_)
 refine ls hF hW rfl ((y_move hF rfl).q) (fun a w hF hW => ?_)
 refine ls_nil (c_then ?_)
 refine wr_block ?_
 refine c_seq (reg_list ?_)
 refine ls hF hW rfl ((y_eql hF rfl rfl).q) (fun a w hF hW => ?_)
 refine ls hF hW rfl ((y_assign hF rfl).q) (fun a w hF hW => ?_)
 refine ls_nil (c_then ?_)
 refine c_cond hF rfl (fun hb => ?_) (fun hb => ?_)
 ·
  have H := iteT (of_decide_eq_true hb) H
  rw [hb] at hF
  clear hb
  refine c_seq (reg_list ?_)
  refine ls hF hW rfl ((y_assign (v := Value.string (bs ([115, 114, 99] : List UInt8))) hF rfl).q) (fun a w hF hW => ?_)
  refine ls_nil (c_then ?_)
  refine wr_ret ?_
  refine r_block ?_
  refine r_then ?_
  subst H
  refine post1 (.inl rfl) hF hW rfl (rv_tmp hF rfl) ?_
  exact ⟨rfl, hW.done⟩
 ·
  have H := iteF (of_decide_eq_false hb) H
  rw [hb] at hF
  clear hb
  refine c_seq (reg_list ?_)
  refine ls hF hW rfl ((y_eql hF rfl rfl).q) (fun a w hF hW => ?_)
  refine ls hF hW rfl ((y_assign hF rfl).q) (fun a w hF hW => ?_)
  refine ls_nil (c_then ?_)
  refine c_cond hF rfl (fun hb => ?_) (fun hb => ?_)
  ·
   have H := iteT (of_decide_eq_true hb) H
   rw [hb] at hF
   clear hb
   refine c_seq (reg_list ?_)
   refine ls hF hW rfl ((y_assign (v := Value.string (bs ([100, 115, 116] : List UInt8))) hF rfl).q) (fun a w hF hW => ?_)
   refine ls_nil (c_then ?_)
   refine wr_ret ?_
   refine r_block ?_
   refine r_then ?_
   subst H
   refine post1 (.inl rfl) hF hW rfl (rv_tmp hF rfl) ?_
   exact ⟨rfl, hW.done⟩
  ·
   have H := iteF (of_decide_eq_false hb) H
   rw [hb] at hF
   clear hb
   refine c_seq (reg_list ?_)
   refine ls hF hW rfl ((y_eql hF rfl rfl).q) (fun a w hF hW => ?_)
   refine ls hF hW rfl ((y_assign hF rfl).q) (fun a w hF hW => ?_)
   refine ls_nil (c_then ?_)
   refine c_cond hF rfl (fun hb => ?_) (fun hb => ?_)
   ·
    have H := iteT (of_decide_eq_true hb) H
    rw [hb] at hF
    clear hb
    refine c_seq (reg_list ?_)
    refine ls hF hW rfl ((y_assign (v := Value.string (bs ([107, 105, 110, 100] : List UInt8))) hF rfl).q) (fun a w hF hW => ?_)
    refine ls_nil (c_then ?_)
    refine wr_ret ?_
    refine r_block ?_
    refine r_then ?_
    subst H
    refine post1 (.inl rfl) hF hW rfl (rv_tmp hF rfl) ?_
    exact ⟨rfl, hW.done⟩
   ·
    have H := iteF (of_decide_eq_false hb) H
    rw [hb] at hF
    clear hb
    refine c_seq (reg_list ?_)
    refine ls hF hW rfl ((y_eql hF rfl rfl).q) (fun a w hF hW => ?_)
    refine ls hF hW rfl ((y_assign hF rfl).q) (fun a w hF hW => ?_)
    refine ls_nil (c_then ?_)
    refine c_cond hF rfl (fun hb => ?_) (fun hb => ?_)
    ·
     have H := iteT (of_decide_eq_true hb) H
     rw [hb] at hF
     clear hb
     refine c_seq (reg_list ?_)
     refine ls hF hW rfl ((y_assign (v := Value.string (bs ([116, 97, 103] : List UInt8))) hF rfl).q) (fun a w hF hW => ?_)
     refine ls_nil (c_then ?_)
     refine wr_ret ?_
     refine r_block ?_
     refine r_then ?_
     subst H
     refine post1 (.inl rfl) hF hW rfl (rv_tmp hF rfl) ?_
     exact ⟨rfl, hW.done⟩
    ·
     have H := iteF (of_decide_eq_false hb) H
     rw [hb] at hF
     clear hb
     refine wr_skip ?_
     refine b_normal ?_
     refine c_then ?_
     refine c_seq (reg_list ?_)
     refine ls hF hW rfl ((y_assign (v := Value.string (bs ([63] : List UInt8))) hF rfl).q) (fun a w hF hW => ?_)
     refine ls_nil (c_then ?_)
     refine wr_ret ?_
     subst H
     refine post1 (.inl rfl) hF hW rfl (rv_tmp hF rfl) ?_
     exact ⟨rfl, hW.done⟩

theorem H62 : Has Tryd.prog 62 := ⟨fun args w => run_callFunc_body Tryd.func62 rfl (by decide) args w⟩
theorem H63 : Has Tryd.prog 63 := ⟨fun args w => run_callFunc_body Tryd.func63 rfl (by decide) args w⟩
noncomputable def act_text (p0 : Int × Int × Int) : Option (List UInt8) := (if p0.1 = 1 then (app ([115, 101, 116, 32] : List UInt8) (act_fieldName p0.2.1)).bind fun x1 => (app x1 ([32] : List UInt8)).bind fun x2 => (itoaP p0.2.2).bind fun x3 => (app x2 x3).bind fun x4 => some x4 else (if p0.1 = 2 then (itoaP p0.2.2).bind fun x5 => (app ([111, 117, 116, 32] : List UInt8) x5).bind fun x6 => some x6 else (if p0.1 = 3 then some ([98, 97, 99, 107] : List UInt8) else some ([63] : List UInt8))))
theorem act_text_c (Y : Nat → Prop) (w0 : World)  (p0 : Int × Int × Int) (r : List UInt8) (H : act_text p0 = some r) (hG : Gk [] w0) :
    Calls Tryd.prog 43 #[.agg #[.int .i64 p0.1, .int .i64 p0.2.1, .int .i64 p0.2.2]] w0 fun e w' => e = .returned (.string (bs r)) ∧ Below w0.heap.size w0 w' := by
 refine enter Tryd.func43 rfl Tryd.ntmps43 rfl (fun a hF => ?_)
 have hW := Stw.start Y w0
 unfold act_text at H
 refine c_seq (reg_list ?_)
 refine l_box (cs := [.int .i64 p0.1, .int .i64 p0.2.1, .int .i64 p0.2.2]) hF hW rfl rfl rfl (fun b1 a w hF hW => ?_)
 refine ls hF hW rfl ((y_assign (v := Value.string (bs ([] : List UInt8))) hF rfl).q) (fun a w hF hW => ?_)
 refine ls_nil (c_then ?_)
 refine c_seq ?_
 refine c_seq (reg_list ?_)
 refine ls hF hW rfl ((y_fieldAddr u27_ rfl rfl rfl T3 hF rfl 0 rfl).q) (fun a w hF hW => ?_)
 refine ls hF hW rfl ((y_load (v := Value.int .i64 p0.1) 0 hF rfl rfl T3 rfl).q) (fun a w hF hW => ?_)
 refine ls_nil (c_then ?_)
 refine wr_block ?_
 refine c_seq (reg_list ?_)
 refine ls hF hW rfl ((y_eql hF rfl rfl).q) (fun a w hF hW => ?_)
 refine ls hF hW rfl ((y_assign hF rfl).q) (fun a w hF hW => ?_)
 refine ls_nil (c_then ?_)
 refine c_cond hF rfl (fun hb => ?_) (fun hb => ?_)
 ·
  have H := iteT (of_decide_eq_true hb) H
  rw [hb] at hF
  clear hb
  refine c_seq ?_
  refine reg_quiet hW MO (by kernel_rfl) ?_
  refine qs hF rfl ((y_fieldAddr u27_ rfl rfl rfl T3 hF rfl 1 rfl).q) (fun a hF => ?_)
  refine qs hF rfl ((y_load (v := Value.int .i64 p0.2.1) 0 hF rfl rfl T3 rfl).q) (fun a hF => ?_)
  refine qs hF rfl (y_call (v := Value.string (bs (act_fieldName p0.2.1))) hF H62 rfl (fun w hW => act_fieldName_c any w p0.2.1 _ rfl)) (fun a hF => ?_)
  obtain ⟨x1, h1, H⟩ := bindE H
  refine qs hF rfl ((y_sadd (l := ([115, 101, 116, 32] : List UInt8)) (m := (act_fieldName p0.2.1)) hF rfl rfl h1).q) (fun a hF => ?_)
  obtain ⟨x2, h2, H⟩ := bindE H
  refine qs hF rfl ((y_sadd (l := x1) (m := ([32] : List UInt8)) hF rfl rfl h2).q) (fun a hF => ?_)
  refine qs hF rfl ((y_fieldAddr u27_ rfl rfl rfl T3 hF rfl 2 rfl).q) (fun a hF => ?_)
  refine qs hF rfl ((y_load (v := Value.int .i64 p0.2.2) 0 hF rfl rfl T3 rfl).q) (fun a hF => ?_)
  obtain ⟨x3, h3, H⟩ := bindE H
  refine qs hF rfl (y_call (v := Value.string (bs x3)) hF H63 rfl (fun w hW => itoa_c any w p0.2.2 _ h3 (hG.go0 hW))) (fun a hF => ?_)
  obtain ⟨x4, h4, H⟩ := bindE H
  refine qs hF rfl ((y_sadd (l := x2) (m := x3) hF rfl rfl h4).q) (fun a hF => ?_)
  refine qs hF rfl ((y_assign hF rfl).q) (fun a hF => ?_)
  refine quiet_end (fun w hW => ?_)
  refine c_then ?_
  refine wr_ret ?_
  refine r_block ?_
  refine r_then ?_
  have H := Option.some.inj H
  subst H
  refine post1 (.inl rfl) hF hW rfl (rv_tmp hF rfl) ?_
  exact ⟨rfl, hW.done⟩
 ·
  have H := iteF (of_decide_eq_false hb) H
  rw [hb] at hF
  clear hb
  refine c_seq (reg_list ?_)
  refine ls hF hW rfl ((y_eql hF rfl rfl).q) (fun a w hF hW => ?_)
  refine ls hF hW rfl ((y_assign hF rfl).q) (fun a w hF hW => ?_)
  refine ls_nil (c_then ?_)
  refine c_cond hF rfl (fun hb => ?_) (fun hb => ?_)
  ·
   have H := iteT (of_decide_eq_true hb) H
   rw [hb] at hF
   clear hb
   refine c_seq (reg_list ?_)
   refine ls hF hW rfl ((y_fieldAddr u27_ rfl rfl rfl T3 hF rfl 2 rfl).q) (fun a w hF hW => ?_)
   refine ls hF hW rfl ((y_load (v := Value.int .i64 p0.2.2) 0 hF rfl rfl T3 rfl).q) (fun a w hF hW => ?_)
   obtain ⟨x5, h5, H⟩ := bindE H
   refine ls hF hW rfl (y_call (v := Value.string (bs x5)) hF H63 rfl (fun w hW => itoa_c any w p0.2.2 _ h5 (hG.go0 hW))) (fun a w hF hW => ?_)
   obtain ⟨x6, h6, H⟩ := bindE H
   refine ls hF hW rfl ((y_sadd (l := ([111, 117, 116, 32] : List UInt8)) (m := x5) hF rfl rfl h6).q) (fun a w hF hW => ?_)
   refine ls hF hW rfl ((y_assign hF rfl).q) (fun a w hF hW => ?_)
   refine ls_nil (c_then ?_)
   refine wr_ret ?_
   refine r_block ?_
   refine r_then ?_
   have H := Option.some.inj H
   subst H
   refine post1 (.inl rfl) hF hW rfl (rv_tmp hF rfl) ?_
   exact ⟨rfl, hW.done⟩
  ·
   have H := iteF (of_decide_eq_false hb) H
   rw [hb] at hF
   clear hb
   refine c_seq (reg_list ?_)
   refine ls hF hW rfl ((y_eql hF rfl rfl).q) (fun a w hF hW => ?_)
   refine ls hF hW rfl ((y_assign hF rfl).q) (fun a w hF hW => ?_)
   refine ls_nil (c_then ?_)
   refine c_cond hF rfl (fun hb => ?_) (fun hb => ?_)
   ·
    have H := iteT (of_decide_eq_true hb) H
    rw [hb] at hF
    clear hb
    refine c_seq (reg_list ?_)
    refine ls hF hW rfl ((y_assign (v := Value.string (bs ([98, 97, 99, 107] : List UInt8))) hF rfl).q) (fun a w hF hW => ?_)
    refine ls_nil (c_then ?_)
    refine wr_ret ?_
    refine r_block ?_
    refine r_then ?_
    have H := Option.some.inj H
    subst H
    refine post1 (.inl rfl) hF hW rfl (rv_tmp hF rfl) ?_
    exact ⟨rfl, hW.done⟩
   ·
    have H := iteF (of_decide_eq_false hb) H
    rw [hb] at hF
    clear hb
    refine wr_skip ?_
    refine b_normal ?_
    refine c_then ?_
    refine c_seq (reg_list ?_)
    refine ls hF hW rfl ((y_assign (v := Value.string (bs ([63] : List UInt8))) hF rfl).q) (fun a w hF hW => ?_)
    refine ls_nil (c_then ?_)
    refine wr_ret ?_
    have H := Option.some.inj H
    subst H
    refine post1 (.inl rfl) hF hW rfl (rv_tmp hF rfl) ?_
    exact ⟨rfl, hW.done⟩

theorem u75_ : type_of% Tryd.underlying75 := Tryd.underlying75
theorem H43 : Has Tryd.prog 43 := ⟨fun args w => run_callFunc_body Tryd.func43 rfl (by decide) args w⟩
theorem Z9 : (Tryd.prog.info? 9).bind (·.zero) = some (.string (bs ([] : List UInt8))) := by kernel_rfl
theorem L75 : Et Tryd.prog 75 9 1 16 := Et.of u75_ (by kernel_rfl) (by kernel_rfl) (by kernel_rfl) (by decide)
theorem H44 : Has Tryd.prog 44 := ⟨fun args w => run_callFunc_body Tryd.func44 rfl (by decide) args w⟩
noncomputable def act_Text_l1 (p0 : List (Int × Int × Int)) : (List (List UInt8) × Int) → Option ((List (List UInt8) × Int) ⊕ (List (List UInt8)))
  | (x2, x3) => (if x3 < (p0.length : Int) then (ix p0 x3).bind fun x4 => (act_text x4).bind fun x5 => (app x2 ([x5] : List (List UInt8))).bind fun x6 => some (.inl (x6, w64 (x3 + 1))) else some (.inr x2))
noncomputable def act_Text (p0 : List (Int × Int × Int)) : Option (List UInt8) := (if (p0.length : Int) = 0 then some ([100, 114, 111, 112] : List UInt8) else (loopW (act_Text_l1 p0) ([], 0)).bind fun x1 => (joinP x1 ([44, 32] : List UInt8)).bind fun x7 => some x7)
theorem act_Text_c (Y : Nat → Prop) (w0 : World) (v1 : Value) (p0 : List (Int × Int × Int)) (r : List UInt8) (H : act_Text p0 = some r) (h_v1 : Sl w0 (NX []) R27 v1 p0) (hG : Gk [] w0) :
    Calls Tryd.prog 21 #[v1] w0 fun e w' => e = .returned (.string (bs r)) ∧ Below w0.heap.size w0 w' := by
 refine enter Tryd.func21 rfl Tryd.ntmps21 rfl (fun a hF => ?_)
 have hW := Stw.start Y w0
 unfold act_Text at H
 refine c_seq (reg_list ?_)
 refine ls hF hW rfl ((y_assign (v := Value.string (bs ([] : List UInt8))) hF rfl).q) (fun a w hF hW => ?_)
 refine ls_nil (c_then ?_)
 refine c_seq ?_
 refine c_seq (reg_list ?_)
 refine ls hF hW rfl ((y_move hF rfl).q) (fun a w hF hW => ?_)
 refine ls hF hW rfl ((y_len (r := R27) (l := p0) u22_ rfl hF rfl (rdc_ro h_v1)).q) (fun a w hF hW => ?_)
 refine ls hF hW rfl ((y_eql hF rfl rfl).q) (fun a w hF hW => ?_)
 refine ls_nil (c_then ?_)
 refine c_cond hF rfl (fun hb => ?_) (fun hb => ?_)
 ·
  have H := iteT (of_decide_eq_true hb) H
  rw [hb] at hF
  clear hb
  refine c_seq (reg_list ?_)
  refine ls hF hW rfl ((y_assign (v := Value.string (bs ([100, 114, 111, 112] : List UInt8))) hF rfl).q) (fun a w hF hW => ?_)
  refine ls_nil (c_then ?_)
  refine wr_ret ?_
  refine r_then ?_
  have H := Option.some.inj H
  subst H
  refine post1 (.inl rfl) hF hW rfl (rv_tmp hF rfl) ?_
  exact ⟨rfl, hW.done⟩
 ·
  have H := iteF (of_decide_eq_false hb) H
  rw [hb] at hF
  clear hb
  refine wr_skip ?_
  refine c_then ?_
  refine c_seq (reg_list ?_)
  refine ls hF hW rfl ((y_assign hF rfl).q) (fun a w hF hW => ?_)
  refine ls_nil (c_then ?_)
  obtain ⟨o1, G1, K1⟩ := bindE H
  refine c_seqJ (fun a w => ∃ x1 : List (List UInt8), ∃ v2 : Value, some (x1) = some o1 ∧ Fr 23 [] [(2, .string (bs ([] : List UInt8))), (3, v2)] a ∧ Stw ⟨Y, [], w0⟩ [] [row v2 9 Rp.str x1] w) ?_ ?_
  ·
   have H := G1
   clear G1 K1
   refine c_seq (reg_list ?_)
   refine ls hF hW rfl ((y_move hF rfl).q) (fun a w hF hW => ?_)
   refine ls hF hW rfl ((y_len (r := R27) (l := p0) u22_ rfl hF rfl (rdc_ro h_v1)).q) (fun a w hF hW => ?_)
   refine ls hF hW rfl ((y_move hF rfl).q) (fun a w hF hW => ?_)
   refine ls_nil (c_then ?_)
   refine wr_block ?_
   have hW := hW.nilRow 9 Rp.str
   refine c_loopW H (fun s a w => ∃ v3 : Value, Fr 23 [] [(2, .string (bs ([] : List UInt8))), (3, v3), (9, v1), (10, .int .i64 (p0.length : Int)), (11, .int .i64 s.2)] a ∧ Stw ⟨Y, [], w0⟩ [] [row v3 9 Rp.str s.1] w) ⟨(Value.slice none 0 0), hF.re ⟨rfl, rfl, rfl, rfl, rfl, trivial⟩, hW⟩ (fun s o a w H L2 hR => ?_)
   obtain ⟨x2, x3⟩ := s
   obtain ⟨v3, hF, hW⟩ := hR
   have hF : Fr 23 [] [(2, .string (bs ([] : List UInt8))), (3, v3), (9, v1), (10, .int .i64 (p0.length : Int)), (11, .int .i64 x3)] a := hF
   have hW : Stw ⟨Y, [], w0⟩ [] [row v3 9 Rp.str x2] w := hW
   rw [act_Text_l1] at H
   refine c_seq (reg_list ?_)
   refine ls hF hW rfl ((y_lss hF rfl rfl).q) (fun a w hF hW => ?_)
   refine ls_nil (c_then ?_)
   refine c_seq ?_
   refine c_cond hF rfl (fun hb => ?_) (fun hb => ?_)
   ·
    have H := iteT (of_decide_eq_true hb) H
    rw [hb] at hF
    clear hb
    refine wr_skip ?_
    refine c_then ?_
    refine c_seq ?_
    refine wr_block ?_
    refine c_seq (reg_list ?_)
    obtain ⟨x4, h1, H⟩ := bindE H
    refine ls hF hW rfl ((y_index (r := R27) L22 hF rfl rfl (rdc_ro h_v1) h1).q) (fun a w hF hW => ?_)
    refine ls hF hW rfl ((y_load_el (y := Value.agg #[.int .i64 x4.1, .int .i64 x4.2.1, .int .i64 x4.2.2]) (j := 0) (i := x3) hF rfl rfl (rdc_ro h_v1) h1 F27.to T27 rfl).q) (fun a w hF hW => ?_)
    refine l_alloc (cs := [.int .i64 0, .int .i64 0, .int .i64 0]) hF hW rfl Z27 rfl (fun b1 a w hF hW => ?_)
    refine l_store (vs := [.int .i64 x4.1, .int .i64 x4.2.1, .int .i64 x4.2.2]) (M' := [(b1, [.int .i64 x4.1, .int .i64 x4.2.1, .int .i64 x4.2.2])]) 0 hF hW rfl rfl rfl T27 rfl rfl rfl rfl rfl (fun w hW => ?_)
    refine ls_nil (c_then ?_)
    refine reg_list ?_
    refine ls hF hW rfl ((y_move hF rfl).q) (fun a w hF hW => ?_)
    refine ls hF hW rfl ((y_load (v := Value.agg #[.int .i64 x4.1, .int .i64 x4.2.1, .int .i64 x4.2.2]) 0 hF rfl rfl T27 rfl).q) (fun a w hF hW => ?_)
    obtain ⟨x5, h2, H⟩ := bindE H
    refine ls hF hW rfl (y_call (v := Value.string (bs x5)) hF H43 rfl (fun w hW => act_text_c any w x4 _ h2 (hG.go0 hW))) (fun a w hF hW => ?_)
    refine l_lit (z := Value.string (bs ([] : List UInt8))) (cs := [.string (bs x5)]) Rp.str ([x5] : List (List UInt8)) hF hW rfl L75 Z9 rfl rfl rfl rfl rfl rfl (Fl.str.repL _ _ ([x5] : List (List UInt8))) (fun v4 a w hF hW => ?_)
    obtain ⟨x6, h3, H⟩ := bindE H
    refine l_append (r := Rp.str) (i := 1) hF hW rfl L75 rfl rfl rfl rfl (src_row hW 0 rfl) h3 rfl (fun v5 a w hF hW => ?_)
    have hW : Stw ⟨Y, [], w0⟩ [(b1, [.int .i64 x4.1, .int .i64 x4.2.1, .int .i64 x4.2.2])] [row v5 9 Rp.str x6, row v4 9 Rp.str ([x5] : List (List UInt8))] w := hW
    refine ls hF hW rfl ((y_assign hF rfl).q) (fun a w hF hW => ?_)
    refine ls_nil ?_
    refine b_normal ?_
    refine c_then ?_
    refine reg_list ?_
    refine ls hF hW rfl ((y_add hF rfl rfl rfl).q) (fun a w hF hW => ?_)
    refine ls hF hW rfl ((y_move hF rfl).q) (fun a w hF hW => ?_)
    refine ls_nil (c_then ?_)
    have hW := hW.sub (M' := []) (Z' := [row v5 9 Rp.str x6]) (List.nil_sublist _) (List.Sublist.cons_cons _ (List.nil_sublist _))
    exact ⟨_, H, (v5), hF.re ⟨rfl, rfl, rfl, rfl, rfl, trivial⟩, hW⟩
   ·
    have H := iteF (of_decide_eq_false hb) H
    rw [hb] at hF
    clear hb
    refine wr_exit ?_
    iterate 2 refine e_then ?_
    refine e_block ?_
    refine c_then ?_
    have H := L2 _ H
    exact ⟨_, (v3), H, hF.re ⟨rfl, rfl, trivial⟩, hW⟩
  rintro a w ⟨x1, v2, hj, hF, hW⟩
  have hj := Option.some.inj hj
  subst hj
  have H := K1
  clear G1 K1
  refine c_seq (reg_list ?_)
  refine ls hF hW rfl ((y_move hF rfl).q) (fun a w hF hW => ?_)
  obtain ⟨x7, h4, H⟩ := bindE H
  refine ls hF hW rfl (y_call (v := Value.string (bs x7)) hF H44 rfl (fun w hW => join_c any w (v2) x1 ([44, 32] : List UInt8) _ h4 (((rdc_row 0 rfl) : Rdc _ _ _ _ _ _) w hW).nx)) (fun a w hF hW => ?_)
  refine ls hF hW rfl ((y_assign hF rfl).q) (fun a w hF hW => ?_)
  refine ls_nil (c_then ?_)
  refine wr_ret ?_
  have H := Option.some.inj H
  subst H
  refine post1 (.inl rfl) hF hW rfl (rv_tmp hF rfl) ?_
  exact ⟨rfl, hW.done⟩

theorem H21 : Has Tryd.prog 21 := ⟨fun args w => run_callFunc_body Tryd.func21 rfl (by decide) args w⟩
noncomputable def act_right (p0 : Int × Int × Int) (p1 : Int) : Option Bool := (if p0.1 = 1 then (if 0 ≤ p0.2.1 then (if p0.2.1 < 4 then (if 0 ≤ p0.2.2 then (packet_Top p0.2.1).bind fun x2 => some (decide (p0.2.2 ≤ x2)) else some false) else some false) else some false).bind fun x1 => some x1 else (if p0.1 = 2 then some (decide (p0.2.1 = 0) && (decide (0 ≤ p0.2.2) && decide (p0.2.2 < p1))) else (if p0.1 = 3 then some (decide (p0.2.1 = 0) && decide (p0.2.2 = 0)) else some false)))
theorem act_right_c (Y : Nat → Prop) (w0 : World)  (p0 : Int × Int × Int) (p1 : Int) (r : Bool) (H : act_right p0 p1 = some r)  :
    Calls Tryd.prog 31 #[.agg #[.int .i64 p0.1, .int .i64 p0.2.1, .int .i64 p0.2.2], .int .i64 p1] w0 fun e w' => e = .returned (.bool r) ∧ Below w0.heap.size w0 w' := by
 refine enter Tryd.func31 rfl Tryd.ntmps31 rfl (fun a hF => ?_)
 have hW := Stw.start Y w0
 unfold act_right at H
 refine c_seq (reg_list ?_)
 refine l_box (cs := [.int .i64 p0.1, .int .i64 p0.2.1, .int .i64 p0.2.2]) hF hW rfl rfl rfl (fun b1 a w hF hW => ?_)
 refine ls hF hW rfl ((y_assign hF rfl).q) (fun a w hF hW => ?_)
 refine ls_nil (c_then ?_)
 refine c_seq ?_
 refine c_seq (reg_list ?_)
 refine ls hF hW rfl ((y_fieldAddr u27_ rfl rfl rfl T3 hF rfl 0 rfl).q) (fun a w hF hW => ?_)
 refine ls hF hW rfl ((y_load (v := Value.int .i64 p0.1) 0 hF rfl rfl T3 rfl).q) (fun a w hF hW => ?_)
 refine ls_nil (c_then ?_)
 refine wr_block ?_
 refine c_seq (reg_list ?_)
 refine ls hF hW rfl ((y_eql hF rfl rfl).q) (fun a w hF hW => ?_)
 refine ls hF hW rfl ((y_assign hF rfl).q) (fun a w hF hW => ?_)
 refine ls_nil (c_then ?_)
 refine c_cond hF rfl (fun hb => ?_) (fun hb => ?_)
 ·
  have H := iteT (of_decide_eq_true hb) H
  rw [hb] at hF
  clear hb
  obtain ⟨o1, G1, K1⟩ := bindE H
  refine c_seqJ (fun a w => ∃ x1 : Bool, some (x1) = some o1 ∧ Fr 56 [] [(4, .bool x1)] a ∧ Stw ⟨Y, [], w0⟩ [(b1, [.int .i64 p0.1, .int .i64 p0.2.1, .int .i64 p0.2.2])] [] w) ?_ ?_
  ·
   have H := G1
   clear G1 K1
   refine reg_quiet hW MO (by kernel_rfl) ?_
   refine qs hF rfl ((y_fieldAddr u27_ rfl rfl rfl T3 hF rfl 1 rfl).q) (fun a hF => ?_)
   refine qs hF rfl ((y_load (v := Value.int .i64 p0.2.1) 0 hF rfl rfl T3 rfl).q) (fun a hF => ?_)
   refine qs hF rfl ((y_geq hF rfl rfl).q) (fun a hF => ?_)
   refine qs hF rfl ((y_move hF rfl).q) (fun a hF => ?_)
   rcases Bool.eq_false_or_eq_true (decide (0 ≤ p0.2.1)) with hb | hb
   ·
    have H := iteT (of_decide_eq_true hb) H
    rw [hb] at hF
    clear hb
    refine qs_w hF (wanted_y hF rfl rfl rfl rfl) rfl (Nat.le_of_ble_eq_true rfl) ((y_fieldAddr u27_ rfl rfl rfl T3 hF rfl 1 rfl).q) (fun a hF => ?_)
    refine qs_w hF (wanted_y hF rfl rfl rfl rfl) rfl (Nat.le_of_ble_eq_true rfl) ((y_load (v := Value.int .i64 p0.2.1) 0 hF rfl rfl T3 rfl).q) (fun a hF => ?_)
    refine qs_w hF (wanted_y hF rfl rfl rfl rfl) rfl (Nat.le_of_ble_eq_true rfl) ((y_lss hF rfl rfl).q) (fun a hF => ?_)
    refine qs hF rfl ((y_pick_t hF rfl rfl rfl).q) (fun a hF => ?_)
    refine qs hF rfl ((y_move hF rfl).q) (fun a hF => ?_)
    rcases Bool.eq_false_or_eq_true (decide (p0.2.1 < 4)) with hb | hb
    ·
     have H := iteT (of_decide_eq_true hb) H
     rw [hb] at hF
     clear hb
     refine qs_w hF (wanted_y hF rfl rfl rfl rfl) rfl (Nat.le_of_ble_eq_true rfl) ((y_fieldAddr u27_ rfl rfl rfl T3 hF rfl 2 rfl).q) (fun a hF => ?_)
     refine qs_w hF (wanted_y hF rfl rfl rfl rfl) rfl (Nat.le_of_ble_eq_true rfl) ((y_load (v := Value.int .i64 p0.2.2) 0 hF rfl rfl T3 rfl).q) (fun a hF => ?_)
     refine qs_w hF (wanted_y hF rfl rfl rfl rfl) rfl (Nat.le_of_ble_eq_true rfl) ((y_geq hF rfl rfl).q) (fun a hF => ?_)
     refine qs hF rfl ((y_pick_t hF rfl rfl rfl).q) (fun a hF => ?_)
     refine qs hF rfl ((y_move hF rfl).q) (fun a hF => ?_)
     rcases Bool.eq_false_or_eq_true (decide (0 ≤ p0.2.2)) with hb | hb
     ·
      have H := iteT (of_decide_eq_true hb) H
      rw [hb] at hF
      clear hb
      refine qs_w hF (wanted_y hF rfl rfl rfl rfl) rfl (Nat.le_of_ble_eq_true rfl) ((y_fieldAddr u27_ rfl rfl rfl T3 hF rfl 2 rfl).q) (fun a hF => ?_)
      refine qs_w hF (wanted_y hF rfl rfl rfl rfl) rfl (Nat.le_of_ble_eq_true rfl) ((y_load (v := Value.int .i64 p0.2.2) 0 hF rfl rfl T3 rfl).q) (fun a hF => ?_)
      refine qs_w hF (wanted_y hF rfl rfl rfl rfl) rfl (Nat.le_of_ble_eq_true rfl) ((y_fieldAddr u27_ rfl rfl rfl T3 hF rfl 1 rfl).q) (fun a hF => ?_)
      refine qs_w hF (wanted_y hF rfl rfl rfl rfl) rfl (Nat.le_of_ble_eq_true rfl) ((y_load (v := Value.int .i64 p0.2.1) 0 hF rfl rfl T3 rfl).q) (fun a hF => ?_)
      obtain ⟨x2, h1, H⟩ := bindE H
      refine qs_w hF (wanted_y hF rfl rfl rfl rfl) rfl (Nat.le_of_ble_eq_true rfl) (y_call (v := Value.int .i64 x2) hF H54 rfl (fun w hW => packet_Top_c any w p0.2.1 _ h1)) (fun a hF => ?_)
      refine qs_w hF (wanted_y hF rfl rfl rfl rfl) rfl (Nat.le_of_ble_eq_true rfl) ((y_leq hF rfl rfl).q) (fun a hF => ?_)
      refine qs hF rfl ((y_pick_t hF rfl rfl rfl).q) (fun a hF => ?_)
      refine qs hF rfl ((y_assign hF rfl).q) (fun a hF => ?_)
      refine quiet_end (fun w hW => ?_)
      refine c_then ?_
      exact ⟨_, H, hF.re ⟨rfl, trivial⟩, hW⟩
     ·
      have H := iteF (of_decide_eq_false hb) H
      rw [hb] at hF
      clear hb
      iterate 6 refine qs_skip hF (wanted_n hF rfl rfl rfl rfl rfl) rfl rfl (fun a hF => ?_)
      refine qs hF rfl ((y_pick_f hF rfl rfl rfl).q) (fun a hF => ?_)
      refine qs hF rfl ((y_assign hF rfl).q) (fun a hF => ?_)
      refine quiet_end (fun w hW => ?_)
      refine c_then ?_
      exact ⟨_, H, hF.re ⟨rfl, trivial⟩, hW⟩
    ·
     have H := iteF (of_decide_eq_false hb) H
     rw [hb] at hF
     clear hb
     iterate 3 refine qs_skip hF (wanted_n hF rfl rfl rfl rfl rfl) rfl rfl (fun a hF => ?_)
     refine qs hF rfl ((y_pick_f hF rfl rfl rfl).q) (fun a hF => ?_)
     refine qs hF rfl ((y_move hF rfl).q) (fun a hF => ?_)
     iterate 6 refine qs_skip hF (wanted_n hF rfl rfl rfl rfl rfl) rfl rfl (fun a hF => ?_)
     refine qs hF rfl ((y_pick_f hF rfl rfl rfl).q) (fun a hF => ?_)
     refine qs hF rfl ((y_assign hF rfl).q) (fun a hF => ?_)
     refine quiet_end (fun w hW => ?_)
     refine c_then ?_
     exact ⟨_, H, hF.re ⟨rfl, trivial⟩, hW⟩
   ·
    have H := iteF (of_decide_eq_false hb) H
    rw [hb] at hF
    clear hb
    iterate 3 refine qs_skip hF (wanted_n hF rfl rfl rfl rfl rfl) rfl rfl (fun a hF => ?_)
    refine qs hF rfl ((y_pick_f hF rfl rfl rfl).q) (fun a hF => ?_)
    refine qs hF rfl ((y_move hF rfl).q) (fun a hF => ?_)
    iterate 3 refine qs_skip hF (wanted_n hF rfl rfl rfl rfl rfl) rfl rfl (fun a hF => ?_)
    refine qs hF rfl ((y_pick_f hF rfl rfl rfl).q) (fun a hF => ?_)
    refine qs hF rfl ((y_move hF rfl).q) (fun a hF => ?_)
    iterate 6 refine qs_skip hF (wanted_n hF rfl rfl rfl rfl rfl) rfl rfl (fun a hF => ?_)
    refine qs hF rfl ((y_pick_f hF rfl rfl rfl).q) (fun a hF => ?_)
    refine qs hF rfl ((y_assign hF rfl).q) (fun a hF => ?_)
    refine quiet_end (fun w hW => ?_)
    refine c_then ?_
    exact ⟨_, H, hF.re ⟨rfl, trivial⟩, hW⟩
  rintro a w ⟨x1, hj, hF, hW⟩
  have hj := Option.some.inj hj
  subst hj
  have H := K1
  clear G1 K1
  refine wr_ret ?_
  refine r_block ?_
  refine r_then ?_
  have H := Option.some.inj H
  subst H
  refine post1 (.inl rfl) hF hW rfl (rv_tmp hF rfl) ?_
  exact ⟨rfl, hW.done⟩
 ·
  have H := iteF (of_decide_eq_false hb) H
  rw [hb] at hF
  clear hb
  refine c_seq (reg_list ?_)
  refine ls hF hW rfl ((y_eql hF rfl rfl).q) (fun a w hF hW => ?_)
  refine ls hF hW rfl ((y_assign hF rfl).q) (fun a w hF hW => ?_)
  refine ls_nil (c_then ?_)
  refine c_cond hF rfl (fun hb => ?_) (fun hb => ?_)
  ·
   have H := iteT (of_decide_eq_true hb) H
   rw [hb] at hF
   clear hb
   refine c_seqJ (fun a w => Fr 56 [] [(4, .bool (decide (p0.2.1 = 0) && (decide (0 ≤ p0.2.2) && decide (p0.2.2 < p1))))] a ∧ Stw ⟨Y, [], w0⟩ [(b1, [.int .i64 p0.1, .int .i64 p0.2.1, .int .i64 p0.2.2])] [] w) ?_ ?_
   ·
    refine reg_list ?_
    refine ls hF hW rfl ((y_fieldAddr u27_ rfl rfl rfl T3 hF rfl 1 rfl).q) (fun a w hF hW => ?_)
    refine ls hF hW rfl ((y_load (v := Value.int .i64 p0.2.1) 0 hF rfl rfl T3 rfl).q) (fun a w hF hW => ?_)
    refine ls hF hW rfl ((y_eql hF rfl rfl).q) (fun a w hF hW => ?_)
    refine ls hF hW rfl ((y_move hF rfl).q) (fun a w hF hW => ?_)
    rcases Bool.eq_false_or_eq_true (decide (p0.2.1 = 0)) with hb0 | hb0
    ·
     rw [hb0] at hF
     refine ls_w hF hW (wanted_y hF rfl rfl rfl rfl) rfl (Nat.le_of_ble_eq_true rfl) ((y_fieldAddr u27_ rfl rfl rfl T3 hF rfl 2 rfl).q) (fun a w hF hW => ?_)
     refine ls_w hF hW (wanted_y hF rfl rfl rfl rfl) rfl (Nat.le_of_ble_eq_true rfl) ((y_load (v := Value.int .i64 p0.2.2) 0 hF rfl rfl T3 rfl).q) (fun a w hF hW => ?_)
     refine ls_w hF hW (wanted_y hF rfl rfl rfl rfl) rfl (Nat.le_of_ble_eq_true rfl) ((y_geq hF rfl rfl).q) (fun a w hF hW => ?_)
     refine ls hF hW rfl ((y_pick_t hF rfl rfl rfl).q) (fun a w hF hW => ?_)
     refine ls hF hW rfl ((y_move hF rfl).q) (fun a w hF hW => ?_)
     rcases Bool.eq_false_or_eq_true (decide (0 ≤ p0.2.2)) with hb1 | hb1
     ·
      rw [hb1] at hF
      refine ls_w hF hW (wanted_y hF rfl rfl rfl rfl) rfl (Nat.le_of_ble_eq_true rfl) ((y_fieldAddr u27_ rfl rfl rfl T3 hF rfl 2 rfl).q) (fun a w hF hW => ?_)
      refine ls_w hF hW (wanted_y hF rfl rfl rfl rfl) rfl (Nat.le_of_ble_eq_true rfl) ((y_load (v := Value.int .i64 p0.2.2) 0 hF rfl rfl T3 rfl).q) (fun a w hF hW => ?_)
      refine ls_w hF hW (wanted_y hF rfl rfl rfl rfl) rfl (Nat.le_of_ble_eq_true rfl) ((y_move hF rfl).q) (fun a w hF hW => ?_)
      refine ls_w hF hW (wanted_y hF rfl rfl rfl rfl) rfl (Nat.le_of_ble_eq_true rfl) ((y_lss hF rfl rfl).q) (fun a w hF hW => ?_)
      refine ls hF hW rfl ((y_pick_t hF rfl rfl rfl).q) (fun a w hF hW => ?_)
      refine ls hF hW rfl ((y_assign hF rfl).q) (fun a w hF hW => ?_)
      refine ls_nil (c_then ?_)
      exact ⟨hF.re ⟨(by show some (Value.bool (decide (p0.2.2 < p1))) = some (Value.bool (decide (p0.2.1 = 0) && (decide (0 ≤ p0.2.2) && decide (p0.2.2 < p1)))); try rw [hb0]; try rw [hb1]; all_goals simp only [Bool.not_true, Bool.not_false, Bool.true_and, Bool.false_and, Bool.true_or, Bool.false_or, Bool.and_true, Bool.or_false, cond_true, cond_false]), trivial⟩, hW⟩
     ·
      rw [hb1] at hF
      iterate 4 refine lsn hF rfl rfl rfl rfl rfl rfl rfl (fun a hF => ?_)
      refine ls hF hW rfl ((y_pick_f hF rfl rfl rfl).q) (fun a w hF hW => ?_)
      refine ls hF hW rfl ((y_assign hF rfl).q) (fun a w hF hW => ?_)
      refine ls_nil (c_then ?_)
      exact ⟨hF.re ⟨(by show some (Value.bool false) = some (Value.bool (decide (p0.2.1 = 0) && (decide (0 ≤ p0.2.2) && decide (p0.2.2 < p1)))); try rw [hb0]; try rw [hb1]; all_goals simp only [Bool.not_true, Bool.not_false, Bool.true_and, Bool.false_and, Bool.true_or, Bool.false_or, Bool.and_true, Bool.or_false, cond_true, cond_false]), trivial⟩, hW⟩
    ·
     rw [hb0] at hF
     iterate 3 refine lsn hF rfl rfl rfl rfl rfl rfl rfl (fun a hF => ?_)
     refine ls hF hW rfl ((y_pick_f hF rfl rfl rfl).q) (fun a w hF hW => ?_)
     refine ls hF hW rfl ((y_move hF rfl).q) (fun a w hF hW => ?_)
     iterate 4 refine lsn hF rfl rfl rfl rfl rfl rfl rfl (fun a hF => ?_)
     refine ls hF hW rfl ((y_pick_f hF rfl rfl rfl).q) (fun a w hF hW => ?_)
     refine ls hF hW rfl ((y_assign hF rfl).q) (fun a w hF hW => ?_)
     refine ls_nil (c_then ?_)
     exact ⟨hF.re ⟨(by show some (Value.bool false) = some (Value.bool (decide (p0.2.1 = 0) && (decide (0 ≤ p0.2.2) && decide (p0.2.2 < p1)))); try rw [hb0]; all_goals simp only [Bool.not_true, Bool.not_false, Bool.true_and, Bool.false_and, Bool.true_or, Bool.false_or, Bool.and_true, Bool.or_false, cond_true, cond_false]), trivial⟩, hW⟩
   rintro a w ⟨hF, hW⟩
   refine wr_ret ?_
   refine r_block ?_
   refine r_then ?_
   have H := Option.some.inj H
   subst H
   refine post1 (.inl rfl) hF hW rfl (rv_tmp hF rfl) ?_
   exact ⟨rfl, hW.done⟩
  ·
   have H := iteF (of_decide_eq_false hb) H
   rw [hb] at hF
   clear hb
   refine c_seq (reg_list ?_)
   refine ls hF hW rfl ((y_eql hF rfl rfl).q) (fun a w hF hW => ?_)
   refine ls hF hW rfl ((y_assign hF rfl).q) (fun a w hF hW => ?_)
   refine ls_nil (c_then ?_)
   refine c_cond hF rfl (fun hb => ?_) (fun hb => ?_)
   ·
    have H := iteT (of_decide_eq_true hb) H
    rw [hb] at hF
    clear hb
    refine c_seqJ (fun a w => Fr 56 [] [(4, .bool (decide (p0.2.1 = 0) && decide (p0.2.2 = 0)))] a ∧ Stw ⟨Y, [], w0⟩ [(b1, [.int .i64 p0.1, .int .i64 p0.2.1, .int .i64 p0.2.2])] [] w) ?_ ?_
    ·
     refine reg_list ?_
     refine ls hF hW rfl ((y_fieldAddr u27_ rfl rfl rfl T3 hF rfl 1 rfl).q) (fun a w hF hW => ?_)
     refine ls hF hW rfl ((y_load (v := Value.int .i64 p0.2.1) 0 hF rfl rfl T3 rfl).q) (fun a w hF hW => ?_)
     refine ls hF hW rfl ((y_eql hF rfl rfl).q) (fun a w hF hW => ?_)
     refine ls hF hW rfl ((y_move hF rfl).q) (fun a w hF hW => ?_)
     rcases Bool.eq_false_or_eq_true (decide (p0.2.1 = 0)) with hb0 | hb0
     ·
      rw [hb0] at hF
      refine ls_w hF hW (wanted_y hF rfl rfl rfl rfl) rfl (Nat.le_of_ble_eq_true rfl) ((y_fieldAddr u27_ rfl rfl rfl T3 hF rfl 2 rfl).q) (fun a w hF hW => ?_)
      refine ls_w hF hW (wanted_y hF rfl rfl rfl rfl) rfl (Nat.le_of_ble_eq_true rfl) ((y_load (v := Value.int .i64 p0.2.2) 0 hF rfl rfl T3 rfl).q) (fun a w hF hW => ?_)
      refine ls_w hF hW (wanted_y hF rfl rfl rfl rfl) rfl (Nat.le_of_ble_eq_true rfl) ((y_eql hF rfl rfl).q) (fun a w hF hW => ?_)
      refine ls hF hW rfl ((y_pick_t hF rfl rfl rfl).q) (fun a w hF hW => ?_)
      refine ls hF hW rfl ((y_assign hF rfl).q) (fun a w hF hW => ?_)
      refine ls_nil (c_then ?_)
      exact ⟨hF.re ⟨(by show some (Value.bool (decide (p0.2.2 = 0))) = some (Value.bool (decide (p0.2.1 = 0) && decide (p0.2.2 = 0))); try rw [hb0]; all_goals simp only [Bool.not_true, Bool.not_false, Bool.true_and, Bool.false_and, Bool.true_or, Bool.false_or, Bool.and_true, Bool.or_false, cond_true, cond_false]), trivial⟩, hW⟩
     ·
      rw [hb0] at hF
      iterate 3 refine lsn hF rfl rfl rfl rfl rfl rfl rfl (fun a hF => ?_)
      refine ls hF hW rfl ((y_pick_f hF rfl rfl rfl).q) (fun a w hF hW => ?_)
      refine ls hF hW rfl ((y_assign hF rfl).q) (fun a w hF hW => ?_)
      refine ls_nil (c_then ?_)
      exact ⟨hF.re ⟨(by show some (Value.bool false) = some (Value.bool (decide (p0.2.1 = 0) && decide (p0.2.2 = 0))); try rw [hb0]; all_goals simp only [Bool.not_true, Bool.not_false, Bool.true_and, Bool.false_and, Bool.true_or, Bool.false_or, Bool.and_true, Bool.or_false, cond_true, cond_false]), trivial⟩, hW⟩
    rintro a w ⟨hF, hW⟩
    refine wr_ret ?_
    refine r_block ?_
    refine r_then ?_
    have H := Option.some.inj H
    subst H
    refine post1 (.inl rfl) hF hW rfl (rv_tmp hF rfl) ?_
    exact ⟨rfl, hW.done⟩
   ·
    have H := iteF (of_decide_eq_false hb) H
    rw [hb] at hF
    clear hb
    refine wr_skip ?_
    refine b_normal ?_
    refine c_then ?_
    refine c_seq (reg_list ?_)
    refine ls hF hW rfl ((y_assign hF rfl).q) (fun a w hF hW => ?_)
    refine ls_nil (c_then ?_)
    refine wr_ret ?_
    have H := Option.some.inj H
    subst H
    refine post1 (.inl rfl) hF hW rfl (rv_tmp hF rfl) ?_
    exact ⟨rfl, hW.done⟩

theorem H31 : Has Tryd.prog 31 := ⟨fun args w => run_callFunc_body Tryd.func31 rfl (by decide) args w⟩
noncomputable def act_Right_l1 (p0 : List (Int × Int × Int)) (p1 : Int) : Int → Option (Int ⊕ (Unit ⊕ Bool))
  | x1 => (if x1 < (p0.length : Int) then (ix p0 x1).bind fun x2 => (act_right x2 p1).bind fun x3 => (if (!x3) = true then some (.inr (.inr false)) else some (.inl (w64 (x1 + 1)))) else some (.inr (.inl ())))
noncomputable def act_Right (p0 : List (Int × Int × Int)) (p1 : Int) : Option Bool := (if 16 < (p0.length : Int) then some false else orR (loopW (act_Right_l1 p0 p1) 0) fun _ => some true)
theorem act_Right_c (Y : Nat → Prop) (w0 : World) (v1 : Value) (p0 : List (Int × Int × Int)) (p1 : Int) (r : Bool) (H : act_Right p0 p1 = some r) (h_v1 : Sl w0 (NX []) R27 v1 p0) :
    Calls Tryd.prog 8 #[v1, .int .i64 p1] w0 fun e w' => e = .returned (.bool r) ∧ Below w0.heap.size w0 w' := by
 refine enter Tryd.func8 rfl Tryd.ntmps8 rfl (fun a hF => ?_)
 have hW := Stw.start Y w0
 unfold act_Right at H
 refine c_seq (reg_list ?_)
 refine ls hF hW rfl ((y_assign hF rfl).q) (fun a w hF hW => ?_)
 refine ls_nil (c_then ?_)
 refine c_seq ?_
 refine c_seq (reg_list ?_)
 refine ls hF hW rfl ((y_move hF rfl).q) (fun a w hF hW => ?_)
 refine ls hF hW rfl ((y_len (r := R27) (l := p0) u22_ rfl hF rfl (rdc_ro h_v1)).q) (fun a w hF hW => ?_)
 refine ls hF hW rfl ((y_gtr hF rfl rfl).q) (fun a w hF hW => ?_)
 refine ls_nil (c_then ?_)
 refine c_cond hF rfl (fun hb => ?_) (fun hb => ?_)
 ·
  have H := iteT (of_decide_eq_true hb) H
  rw [hb] at hF
  clear hb
  refine c_seq (reg_list ?_)
  refine ls hF hW rfl ((y_assign hF rfl).q) (fun a w hF hW => ?_)
  refine ls_nil (c_then ?_)
  refine wr_ret ?_
  refine r_then ?_
  have H := Option.some.inj H
  subst H
  refine post1 (.inl rfl) hF hW rfl (rv_tmp hF rfl) ?_
  exact ⟨rfl, hW.done⟩
 ·
  have H := iteF (of_decide_eq_false hb) H
  rw [hb] at hF
  clear hb
  refine wr_skip ?_
  refine c_then ?_
  obtain ⟨o1, G1, K1, L1⟩ := orE H
  refine c_seqJ (fun a w => some (Sum.inl ()) = some o1 ∧ Fr 21 [] [(4, .bool false)] a ∧ Stw ⟨Y, [], w0⟩ [] [] w) ?_ ?_
  ·
   have H := G1
   clear G1 K1
   refine c_seq (reg_list ?_)
   refine ls hF hW rfl ((y_move hF rfl).q) (fun a w hF hW => ?_)
   refine ls hF hW rfl ((y_len (r := R27) (l := p0) u22_ rfl hF rfl (rdc_ro h_v1)).q) (fun a w hF hW => ?_)
   refine ls hF hW rfl ((y_move hF rfl).q) (fun a w hF hW => ?_)
   refine ls_nil (c_then ?_)
   refine wr_block ?_
   refine c_loopW H (fun s a w => Fr 21 [] [(1, .int .i64 p1), (4, .bool false), (10, v1), (11, .int .i64 (p0.length : Int)), (12, .int .i64 s)] a ∧ Stw ⟨Y, [], w0⟩ [] [] w) ⟨hF.re ⟨rfl, rfl, rfl, rfl, rfl, trivial⟩, hW⟩ (fun s o a w H L2 hR => ?_)
   obtain ⟨x1, rfl⟩ : ∃ x, x = s := ⟨s, rfl⟩
   obtain ⟨hF, hW⟩ := hR
   have hF : Fr 21 [] [(1, .int .i64 p1), (4, .bool false), (10, v1), (11, .int .i64 (p0.length : Int)), (12, .int .i64 x1)] a := hF
   have hW : Stw ⟨Y, [], w0⟩ [] [] w := hW
   rw [act_Right_l1] at H
   refine c_seq (reg_list ?_)
   refine ls hF hW rfl ((y_lss hF rfl rfl).q) (fun a w hF hW => ?_)
   refine ls_nil (c_then ?_)
   refine c_seq ?_
   refine c_cond hF rfl (fun hb => ?_) (fun hb => ?_)
   ·
    have H := iteT (of_decide_eq_true hb) H
    rw [hb] at hF
    clear hb
    refine wr_skip ?_
    refine c_then ?_
    refine c_seq ?_
    refine wr_block ?_
    refine c_seq (reg_list ?_)
    obtain ⟨x2, h1, H⟩ := bindE H
    refine ls hF hW rfl ((y_index (r := R27) L22 hF rfl rfl (rdc_ro h_v1) h1).q) (fun a w hF hW => ?_)
    refine ls hF hW rfl ((y_load_el (y := Value.agg #[.int .i64 x2.1, .int .i64 x2.2.1, .int .i64 x2.2.2]) (j := 0) (i := x1) hF rfl rfl (rdc_ro h_v1) h1 F27.to T27 rfl).q) (fun a w hF hW => ?_)
    refine l_alloc (cs := [.int .i64 0, .int .i64 0, .int .i64 0]) hF hW rfl Z27 rfl (fun b1 a w hF hW => ?_)
    refine l_store (vs := [.int .i64 x2.1, .int .i64 x2.2.1, .int .i64 x2.2.2]) (M' := [(b1, [.int .i64 x2.1, .int .i64 x2.2.1, .int .i64 x2.2.2])]) 0 hF hW rfl rfl rfl T27 rfl rfl rfl rfl rfl (fun w hW => ?_)
    refine ls_nil (c_then ?_)
    refine c_seq (reg_list ?_)
    refine ls hF hW rfl ((y_load (v := Value.agg #[.int .i64 x2.1, .int .i64 x2.2.1, .int .i64 x2.2.2]) 0 hF rfl rfl T27 rfl).q) (fun a w hF hW => ?_)
    refine ls hF hW rfl ((y_move hF rfl).q) (fun a w hF hW => ?_)
    obtain ⟨x3, h2, H⟩ := bindE H
    refine ls hF hW rfl (y_call (v := Value.bool x3) hF H31 rfl (fun w hW => act_right_c any w x2 p1 _ h2)) (fun a w hF hW => ?_)
    refine ls hF hW rfl ((y_not hF rfl).q) (fun a w hF hW => ?_)
    refine ls_nil (c_then ?_)
    refine c_cond hF rfl (fun hb => ?_) (fun hb => ?_)
    ·
     have H := iteT hb H
     rw [hb] at hF
     clear hb
     refine c_seq (reg_list ?_)
     refine ls hF hW rfl ((y_assign hF rfl).q) (fun a w hF hW => ?_)
     refine ls_nil (c_then ?_)
     refine wr_ret ?_
     refine r_block ?_
     iterate 2 refine r_then ?_
     refine r_block ?_
     refine r_then ?_
     have H := L2 _ H
     have H := L1 _ H
     have H := Option.some.inj H
     subst H
     refine post1 (.inl rfl) hF hW rfl (rv_tmp hF rfl) ?_
     exact ⟨rfl, hW.done⟩
    ·
     have H := iteF (by rw [hb]; decide) H
     rw [hb] at hF
     clear hb
     refine wr_skip ?_
     refine b_normal ?_
     refine c_then ?_
     refine reg_list ?_
     refine ls hF hW rfl ((y_add hF rfl rfl rfl).q) (fun a w hF hW => ?_)
     refine ls hF hW rfl ((y_move hF rfl).q) (fun a w hF hW => ?_)
     refine ls_nil (c_then ?_)
     have hW := hW.sub (M' := []) (Z' := []) (List.nil_sublist _) (List.Sublist.refl _)
     exact ⟨_, H, hF.re ⟨rfl, rfl, rfl, rfl, rfl, trivial⟩, hW⟩
   ·
    have H := iteF (of_decide_eq_false hb) H
    rw [hb] at hF
    clear hb
    refine wr_exit ?_
    iterate 2 refine e_then ?_
    refine e_block ?_
    refine c_then ?_
    have H := L2 _ H
    exact ⟨H, hF.re ⟨rfl, trivial⟩, hW⟩
  rintro a w ⟨hj, hF, hW⟩
  have H := K1 _ hj
  clear hj G1 K1 L1
  refine c_seq (reg_list ?_)
  refine ls hF hW rfl ((y_assign hF rfl).q) (fun a w hF hW => ?_)
  refine ls_nil (c_then ?_)
  refine wr_ret ?_
  have H := Option.some.inj H
  subst H
  refine post1 (.inl rfl) hF hW rfl (rv_tmp hF rfl) ?_
  exact ⟨rfl, hW.done⟩

end Go.Proofs.YtefiglmpdajonaaDoor
