/- The functions of layer 8, lifted. Conditions: none. -/
import Derived.Test.YtmlaadalggngkaaDoorRows
import Derived.Test.YtmlaadalggngkaaDoorOB
import Derived.Test.YtmlaadalggngkaaDoorOG
import Derived.Test.YtmlaadalggngkaaDoorOT
import Derived.Test.YtmlaadalggngkaaDoorOD
namespace Go.Proofs.YtmlaadalggngkaaDoor
open Go Go.RowKit
set_option linter.unusedVariables false
set_option linter.unusedSimpArgs false
set_option maxRecDepth 20000
theorem MO : Tryd.prog.follows .mixedOrders = true := by kernel_rfl
theorem T24 : Ty Tryd.prog 24 true 9 := ⟨by kernel_rfl, by kernel_rfl⟩
theorem T3 : Ty Tryd.prog 3 false 1 := ⟨by kernel_rfl, by kernel_rfl⟩
theorem T22 : Ty Tryd.prog 22 true 4 := ⟨by kernel_rfl, by kernel_rfl⟩
theorem Ar22 : Ar Tryd.prog 22 4 3 1 := ⟨Tryd.underlying22, by kernel_rfl⟩
noncomputable def packet_Bits (p0 : Int) : Option Int := (if p0 = 0 then some true else (if p0 = 1 then some true else some (decide (p0 = 3)))).bind fun x1 => (if x1 = true then some 8 else (if p0 = 2 then some 4 else some 0))
theorem packet_Bits_c (Y : Nat → Prop) (w0 : World)  (p0 : Int) (r : Int) (H : packet_Bits p0 = some r)  :
    Calls Tryd.prog 51 #[.int .i64 p0] w0 fun e w' => e = .returned (.int .i64 r) ∧ Below w0.heap.size w0 w' := by
  refine enter Tryd.func51 rfl Tryd.ntmps51 rfl (fun a hF => ?_)
  have hW := Stw.start Y w0
  unfold packet_Bits at H
  refine c_seq ?_
  refine reg_list ?_
  refine ls hF hW rfl ((y_assign hF rfl).q) (fun a w hF hW => ?_)
  refine ls_nil ?_
  refine c_then ?_
  refine c_seq ?_
  refine c_seq ?_
  refine reg_list ?_
  refine ls hF hW rfl ((y_move hF rfl).q) (fun a w hF hW => ?_)
  refine ls_nil ?_
  refine c_then ?_
  refine wp_block ?_
  obtain ⟨o1, G1, K1⟩ := bindE H
  refine c_seqJ (fun a w => ∃ x1 : Bool, some (x1) = some o1 ∧ Fr 10 [] [(2, .int .i64 0), (3, .int .i64 p0), (4, .bool x1)] a ∧ Stw ⟨Y, [], w0⟩ [] [] w) ?_ ?_
  ·
    have H := G1
    clear G1 K1
    refine c_seq ?_
    refine reg_list ?_
    refine ls hF hW rfl ((y_eql hF rfl rfl).q) (fun a w hF hW => ?_)
    refine ls hF hW rfl ((y_assign hF rfl).q) (fun a w hF hW => ?_)
    refine ls_nil ?_
    refine c_then ?_
    refine c_cond hF rfl (fun hb => ?_) (fun hb => ?_)
    ·
      have H := iteT (of_decide_eq_true hb) H
      rw [hb] at hF
      clear hb
      refine wp_skip ?_
      refine c_then ?_
      exact ⟨_, H, hF.re ⟨rfl, rfl, rfl, trivial⟩, hW⟩
    ·
      have H := iteF (of_decide_eq_false hb) H
      rw [hb] at hF
      clear hb
      refine c_seq ?_
      refine reg_list ?_
      refine ls hF hW rfl ((y_eql hF rfl rfl).q) (fun a w hF hW => ?_)
      refine ls hF hW rfl ((y_assign hF rfl).q) (fun a w hF hW => ?_)
      refine ls_nil ?_
      refine c_then ?_
      refine c_cond hF rfl (fun hb => ?_) (fun hb => ?_)
      ·
        have H := iteT (of_decide_eq_true hb) H
        rw [hb] at hF
        clear hb
        refine wp_skip ?_
        refine c_then ?_
        exact ⟨_, H, hF.re ⟨rfl, rfl, rfl, trivial⟩, hW⟩
      ·
        have H := iteF (of_decide_eq_false hb) H
        rw [hb] at hF
        clear hb
        refine reg_list ?_
        refine ls hF hW rfl ((y_eql hF rfl rfl).q) (fun a w hF hW => ?_)
        refine ls hF hW rfl ((y_assign hF rfl).q) (fun a w hF hW => ?_)
        refine ls_nil ?_
        refine c_then ?_
        exact ⟨_, H, hF.re ⟨rfl, rfl, rfl, trivial⟩, hW⟩
  rintro a w ⟨x1, hj, hF, hW⟩
  have hj := Option.some.inj hj
  subst hj
  have H := K1
  clear G1 K1
  refine c_cond hF rfl (fun hb => ?_) (fun hb => ?_)
  ·
    have H := iteT hb H
    rw [hb] at hF
    clear hb
    refine c_seq ?_
    refine reg_list ?_
    refine ls hF hW rfl ((y_assign hF rfl).q) (fun a w hF hW => ?_)
    refine ls_nil ?_
    refine c_then ?_
    refine wp_ret ?_
    refine r_block ?_
    refine r_then ?_
    have H := Option.some.inj H
    subst H
    refine post1 (.inl rfl) hF hW rfl (rv_tmp hF rfl) ?_
    exact ⟨rfl, hW.done⟩
  ·
    have H := iteF (by rw [hb]; decide) H
    rw [hb] at hF
    clear hb
    refine c_seq ?_
    refine reg_list ?_
    refine ls hF hW rfl ((y_eql hF rfl rfl).q) (fun a w hF hW => ?_)
    refine ls hF hW rfl ((y_assign hF rfl).q) (fun a w hF hW => ?_)
    refine ls_nil ?_
    refine c_then ?_
    refine c_cond hF rfl (fun hb => ?_) (fun hb => ?_)
    ·
      have H := iteT (of_decide_eq_true hb) H
      rw [hb] at hF
      clear hb
      refine c_seq ?_
      refine reg_list ?_
      refine ls hF hW rfl ((y_assign hF rfl).q) (fun a w hF hW => ?_)
      refine ls_nil ?_
      refine c_then ?_
      refine wp_ret ?_
      refine r_block ?_
      refine r_then ?_
      have H := Option.some.inj H
      subst H
      refine post1 (.inl rfl) hF hW rfl (rv_tmp hF rfl) ?_
      exact ⟨rfl, hW.done⟩
    ·
      have H := iteF (of_decide_eq_false hb) H
      rw [hb] at hF
      clear hb
      refine wp_skip ?_
      refine b_normal ?_
      refine c_then ?_
      refine c_seq ?_
      refine reg_list ?_
      refine ls hF hW rfl ((y_assign hF rfl).q) (fun a w hF hW => ?_)
      refine ls_nil ?_
      refine c_then ?_
      refine wp_ret ?_
      have H := Option.some.inj H
      subst H
      refine post1 (.inl rfl) hF hW rfl (rv_tmp hF rfl) ?_
      exact ⟨rfl, hW.done⟩

theorem H51 : Has Tryd.prog 51 := ⟨fun args w => run_callFunc_body Tryd.func51 rfl (by decide) args w⟩
noncomputable def packet_Top (p0 : Int) : Option Int := (packet_Bits p0).bind fun x1 => (shN (shlI .i64 1 x1) x1).bind fun x2 => some (w64 (x2 - 1))
theorem packet_Top_c (Y : Nat → Prop) (w0 : World)  (p0 : Int) (r : Int) (H : packet_Top p0 = some r)  :
    Calls Tryd.prog 34 #[.int .i64 p0] w0 fun e w' => e = .returned (.int .i64 r) ∧ Below w0.heap.size w0 w' := by
  refine enter Tryd.func34 rfl Tryd.ntmps34 rfl (fun a hF => ?_)
  have hW := Stw.start Y w0
  unfold packet_Top at H
  refine c_seq ?_
  refine reg_list ?_
  refine ls hF hW rfl ((y_assign hF rfl).q) (fun a w hF hW => ?_)
  refine ls_nil ?_
  refine c_then ?_
  refine c_seq ?_
  refine reg_list ?_
  refine ls hF hW rfl ((y_move hF rfl).q) (fun a w hF hW => ?_)
  obtain ⟨x1, h1, H⟩ := bindE H
  refine ls hF hW rfl (y_call (v := Value.int .i64 x1) hF H51 rfl (fun w hW => packet_Bits_c any w p0 _ h1)) (fun a w hF hW => ?_)
  obtain ⟨x2, h2, H⟩ := bindE H
  refine ls hF hW rfl ((y_shc (shN_some h2).2 (y_shl hF rfl rfl (shN_some h2).1)).q) (fun a w hF hW => ?_)
  refine ls hF hW rfl ((y_sub hF rfl rfl rfl).q) (fun a w hF hW => ?_)
  refine ls hF hW rfl ((y_assign hF rfl).q) (fun a w hF hW => ?_)
  refine ls_nil ?_
  refine c_then ?_
  refine wp_ret ?_
  have H := Option.some.inj H
  subst H
  refine post1 (.inl rfl) hF hW rfl (rv_tmp hF rfl) ?_
  exact ⟨rfl, hW.done⟩

theorem H34 : Has Tryd.prog 34 := ⟨fun args w => run_callFunc_body Tryd.func34 rfl (by decide) args w⟩
noncomputable def match_Right_l1 (p0 : Int × (Int × Int × Int × Int) × (Int × Int × Int × Int)) : Int → Option (Int ⊕ (Unit ⊕ Bool))
  | x1 => (if x1 < 4 then (ix ([p0.2.2.1, p0.2.2.2.1, p0.2.2.2.2.1, p0.2.2.2.2.2] : List Int) x1).bind fun x2 => (if x2 < 0 then some true else (packet_Top x1).bind fun x4 => (if x4 < x2 then some true else (ix ([p0.2.1.1, p0.2.1.2.1, p0.2.1.2.2.1, p0.2.1.2.2.2] : List Int) x1).bind fun x5 => (if x5 < 0 then some true else (ix ([p0.2.1.1, p0.2.1.2.1, p0.2.1.2.2.1, p0.2.1.2.2.2] : List Int) x1).bind fun x6 => some (decide ((andNotI .i64 x6 x2) ≠ 0))))).bind fun x3 => (if x3 = true then some (.inr (.inr false)) else some (.inl (w64 (x1 + 1)))) else some (.inr (.inl ())))
noncomputable def match_Right (p0 : Int × (Int × Int × Int × Int) × (Int × Int × Int × Int)) : Option Bool := (if (decide (p0.1 ≠ (-1)) && (decide (p0.1 < 0) || decide (8 ≤ p0.1))) = true then some false else orR (loopW (match_Right_l1 p0) 0) fun _ => some true)
theorem match_Right_c (Y : Nat → Prop) (w0 : World)  (p0 : Int × (Int × Int × Int × Int) × (Int × Int × Int × Int)) (r : Bool) (H : match_Right p0 = some r)  :
    Calls Tryd.prog 7 #[.agg #[.int .i64 p0.1, .int .i64 p0.2.1.1, .int .i64 p0.2.1.2.1, .int .i64 p0.2.1.2.2.1, .int .i64 p0.2.1.2.2.2, .int .i64 p0.2.2.1, .int .i64 p0.2.2.2.1, .int .i64 p0.2.2.2.2.1, .int .i64 p0.2.2.2.2.2]] w0 fun e w' => e = .returned (.bool r) ∧ Below w0.heap.size w0 w' := by
  refine enter Tryd.func7 rfl Tryd.ntmps7 rfl (fun a hF => ?_)
  have hW := Stw.start Y w0
  unfold match_Right at H
  refine c_seq ?_
  refine reg_list ?_
  refine l_box (cs := [.int .i64 p0.1, .int .i64 p0.2.1.1, .int .i64 p0.2.1.2.1, .int .i64 p0.2.1.2.2.1, .int .i64 p0.2.1.2.2.2, .int .i64 p0.2.2.1, .int .i64 p0.2.2.2.1, .int .i64 p0.2.2.2.2.1, .int .i64 p0.2.2.2.2.2]) hF hW rfl rfl rfl (fun b1 a w hF hW => ?_)
  refine ls hF hW rfl ((y_assign hF rfl).q) (fun a w hF hW => ?_)
  refine ls_nil ?_
  refine c_then ?_
  refine c_seq ?_
  refine c_seqJ (fun a w => Fr 49 [] [(1, .pointer (some ⟨b1, 0, none⟩)), (2, .bool false), (17, .bool (decide (p0.1 ≠ (-1)) && (decide (p0.1 < 0) || decide (8 ≤ p0.1))))] a ∧ Stw ⟨Y, [], w0⟩ [(b1, [.int .i64 p0.1, .int .i64 p0.2.1.1, .int .i64 p0.2.1.2.1, .int .i64 p0.2.1.2.2.1, .int .i64 p0.2.1.2.2.2, .int .i64 p0.2.2.1, .int .i64 p0.2.2.2.1, .int .i64 p0.2.2.2.2.1, .int .i64 p0.2.2.2.2.2])] [] w) ?_ ?_
  ·
    refine reg_list ?_
    refine ls hF hW rfl ((y_fieldAddr Tryd.underlying24 rfl rfl rfl T3 hF rfl 0 rfl).q) (fun a w hF hW => ?_)
    refine ls hF hW rfl ((y_load (v := Value.int .i64 p0.1) 0 hF rfl rfl T3 rfl).q) (fun a w hF hW => ?_)
    refine ls hF hW rfl ((y_neq hF rfl rfl).q) (fun a w hF hW => ?_)
    refine ls hF hW rfl ((y_move hF rfl).q) (fun a w hF hW => ?_)
    rcases Bool.eq_false_or_eq_true (decide (p0.1 ≠ (-1))) with hb0 | hb0
    ·
      rw [hb0] at hF
      refine ls_w hF hW (wanted_y hF rfl rfl rfl rfl) rfl (Nat.le_of_ble_eq_true rfl) ((y_fieldAddr Tryd.underlying24 rfl rfl rfl T3 hF rfl 0 rfl).q) (fun a w hF hW => ?_)
      refine ls_w hF hW (wanted_y hF rfl rfl rfl rfl) rfl (Nat.le_of_ble_eq_true rfl) ((y_load (v := Value.int .i64 p0.1) 0 hF rfl rfl T3 rfl).q) (fun a w hF hW => ?_)
      refine ls_w hF hW (wanted_y hF rfl rfl rfl rfl) rfl (Nat.le_of_ble_eq_true rfl) ((y_lss hF rfl rfl).q) (fun a w hF hW => ?_)
      refine ls_w hF hW (wanted_y hF rfl rfl rfl rfl) rfl (Nat.le_of_ble_eq_true rfl) ((y_move hF rfl).q) (fun a w hF hW => ?_)
      rcases Bool.eq_false_or_eq_true (decide (p0.1 < 0)) with hb1 | hb1
      ·
        rw [hb1] at hF
        refine ls_skip hF (wanted_n hF rfl rfl rfl rfl rfl) rfl rfl (fun a hF => ?_)
        refine ls_skip hF (wanted_n hF rfl rfl rfl rfl rfl) rfl rfl (fun a hF => ?_)
        refine ls_skip hF (wanted_n hF rfl rfl rfl rfl rfl) rfl rfl (fun a hF => ?_)
        refine ls_w hF hW (wanted_y hF rfl rfl rfl rfl) rfl (Nat.le_of_ble_eq_true rfl) ((y_pick_t hF rfl rfl rfl).q) (fun a w hF hW => ?_)
        refine ls hF hW rfl ((y_pick_t hF rfl rfl rfl).q) (fun a w hF hW => ?_)
        refine ls_nil ?_
        refine c_then ?_
        exact ⟨hF.re ⟨rfl, rfl, (by show some (Value.bool true) = some (Value.bool (decide (p0.1 ≠ (-1)) && (decide (p0.1 < 0) || decide (8 ≤ p0.1)))); try rw [hb0]; try rw [hb1]; all_goals simp only [Bool.not_true, Bool.not_false, Bool.true_and, Bool.false_and, Bool.true_or, Bool.false_or, Bool.and_true, Bool.or_false, cond_true, cond_false]), trivial⟩, hW⟩
      ·
        rw [hb1] at hF
        refine ls_w hF hW (wanted_y hF rfl rfl rfl rfl) rfl (Nat.le_of_ble_eq_true rfl) ((y_fieldAddr Tryd.underlying24 rfl rfl rfl T3 hF rfl 0 rfl).q) (fun a w hF hW => ?_)
        refine ls_w hF hW (wanted_y hF rfl rfl rfl rfl) rfl (Nat.le_of_ble_eq_true rfl) ((y_load (v := Value.int .i64 p0.1) 0 hF rfl rfl T3 rfl).q) (fun a w hF hW => ?_)
        refine ls_w hF hW (wanted_y hF rfl rfl rfl rfl) rfl (Nat.le_of_ble_eq_true rfl) ((y_geq hF rfl rfl).q) (fun a w hF hW => ?_)
        refine ls_w hF hW (wanted_y hF rfl rfl rfl rfl) rfl (Nat.le_of_ble_eq_true rfl) ((y_pick_f hF rfl rfl rfl).q) (fun a w hF hW => ?_)
        refine ls hF hW rfl ((y_pick_t hF rfl rfl rfl).q) (fun a w hF hW => ?_)
        refine ls_nil ?_
        refine c_then ?_
        exact ⟨hF.re ⟨rfl, rfl, (by show some (Value.bool (decide (8 ≤ p0.1))) = some (Value.bool (decide (p0.1 ≠ (-1)) && (decide (p0.1 < 0) || decide (8 ≤ p0.1)))); try rw [hb0]; try rw [hb1]; all_goals simp only [Bool.not_true, Bool.not_false, Bool.true_and, Bool.false_and, Bool.true_or, Bool.false_or, Bool.and_true, Bool.or_false, cond_true, cond_false]), trivial⟩, hW⟩
    ·
      rw [hb0] at hF
      refine ls_skip hF (wanted_n hF rfl rfl rfl rfl rfl) rfl rfl (fun a hF => ?_)
      refine ls_skip hF (wanted_n hF rfl rfl rfl rfl rfl) rfl rfl (fun a hF => ?_)
      refine ls_skip hF (wanted_n hF rfl rfl rfl rfl rfl) rfl rfl (fun a hF => ?_)
      refine ls_skip hF (wanted_n hF rfl rfl rfl rfl rfl) rfl rfl (fun a hF => ?_)
      refine ls_skip hF (wanted_undef hF rfl rfl rfl rfl) rfl rfl (fun a hF => ?_)
      refine ls_skip hF (wanted_undef hF rfl rfl rfl rfl) rfl rfl (fun a hF => ?_)
      refine ls_skip hF (wanted_undef hF rfl rfl rfl rfl) rfl rfl (fun a hF => ?_)
      refine ls_skip hF (wanted_n hF rfl rfl rfl rfl rfl) rfl rfl (fun a hF => ?_)
      refine ls hF hW rfl ((y_pick_f hF rfl rfl rfl).q) (fun a w hF hW => ?_)
      refine ls_nil ?_
      refine c_then ?_
      exact ⟨hF.re ⟨rfl, rfl, (by show some (Value.bool false) = some (Value.bool (decide (p0.1 ≠ (-1)) && (decide (p0.1 < 0) || decide (8 ≤ p0.1)))); try rw [hb0]; all_goals simp only [Bool.not_true, Bool.not_false, Bool.true_and, Bool.false_and, Bool.true_or, Bool.false_or, Bool.and_true, Bool.or_false, cond_true, cond_false]), trivial⟩, hW⟩
  rintro a w ⟨hF, hW⟩
  refine c_cond hF rfl (fun hb => ?_) (fun hb => ?_)
  ·
    have H := iteT hb H
    rw [hb] at hF
    clear hb
    refine c_seq ?_
    refine reg_list ?_
    refine ls hF hW rfl ((y_assign hF rfl).q) (fun a w hF hW => ?_)
    refine ls_nil ?_
    refine c_then ?_
    refine wp_ret ?_
    refine r_then ?_
    have H := Option.some.inj H
    subst H
    refine post1 (.inl rfl) hF hW rfl (rv_tmp hF rfl) ?_
    exact ⟨rfl, hW.done⟩
  ·
    have H := iteF (by rw [hb]; decide) H
    rw [hb] at hF
    clear hb
    refine wp_skip ?_
    refine c_then ?_
    obtain ⟨o1, G1, K1, L1⟩ := orE H
    refine c_seqJ (fun a w => some (Sum.inl ()) = some o1 ∧ Fr 49 [] [(2, .bool false)] a ∧ Stw ⟨Y, [], w0⟩ [(b1, [.int .i64 p0.1, .int .i64 p0.2.1.1, .int .i64 p0.2.1.2.1, .int .i64 p0.2.1.2.2.1, .int .i64 p0.2.1.2.2.2, .int .i64 p0.2.2.1, .int .i64 p0.2.2.2.1, .int .i64 p0.2.2.2.2.1, .int .i64 p0.2.2.2.2.2])] [] w) ?_ ?_
    ·
      have H := G1
      clear G1 K1
      refine c_seq ?_
      refine reg_list ?_
      refine ls hF hW rfl ((y_fieldAddr Tryd.underlying24 rfl rfl rfl T22 hF rfl 5 rfl).q) (fun a w hF hW => ?_)
      refine ls hF hW rfl ((y_load (v := Value.agg #[.int .i64 p0.2.2.1, .int .i64 p0.2.2.2.1, .int .i64 p0.2.2.2.2.1, .int .i64 p0.2.2.2.2.2]) 0 hF rfl rfl T22 rfl).q) (fun a w hF hW => ?_)
      refine ls hF hW rfl ((y_move hF rfl).q) (fun a w hF hW => ?_)
      refine ls_nil ?_
      refine c_then ?_
      refine wp_block ?_
      refine c_loopW H (fun s a w => Fr 49 [] [(1, .pointer (some ⟨b1, 0, none⟩)), (2, .bool false), (19, .agg #[.int .i64 p0.2.2.1, .int .i64 p0.2.2.2.1, .int .i64 p0.2.2.2.2.1, .int .i64 p0.2.2.2.2.2]), (20, .int .i64 s)] a ∧ Stw ⟨Y, [], w0⟩ [(b1, [.int .i64 p0.1, .int .i64 p0.2.1.1, .int .i64 p0.2.1.2.1, .int .i64 p0.2.1.2.2.1, .int .i64 p0.2.1.2.2.2, .int .i64 p0.2.2.1, .int .i64 p0.2.2.2.1, .int .i64 p0.2.2.2.2.1, .int .i64 p0.2.2.2.2.2])] [] w) ⟨hF.re ⟨rfl, rfl, rfl, rfl, trivial⟩, hW⟩ (fun s o a w H L2 hR => ?_)
      obtain ⟨x1, rfl⟩ : ∃ x, x = s := ⟨s, rfl⟩
      obtain ⟨hF, hW⟩ := hR
      have hF : Fr 49 [] [(1, .pointer (some ⟨b1, 0, none⟩)), (2, .bool false), (19, .agg #[.int .i64 p0.2.2.1, .int .i64 p0.2.2.2.1, .int .i64 p0.2.2.2.2.1, .int .i64 p0.2.2.2.2.2]), (20, .int .i64 x1)] a := hF
      have hW : Stw ⟨Y, [], w0⟩ [(b1, [.int .i64 p0.1, .int .i64 p0.2.1.1, .int .i64 p0.2.1.2.1, .int .i64 p0.2.1.2.2.1, .int .i64 p0.2.1.2.2.2, .int .i64 p0.2.2.1, .int .i64 p0.2.2.2.1, .int .i64 p0.2.2.2.2.1, .int .i64 p0.2.2.2.2.2])] [] w := hW
      rw [match_Right_l1] at H
      refine c_seq ?_
      refine reg_list ?_
      refine ls hF hW rfl ((y_lss hF rfl rfl).q) (fun a w hF hW => ?_)
      refine ls_nil ?_
      refine c_then ?_
      refine c_seq ?_
      refine c_cond hF rfl (fun hb => ?_) (fun hb => ?_)
      ·
        have H := iteT (of_decide_eq_true hb) H
        rw [hb] at hF
        clear hb
        refine wp_skip ?_
        refine c_then ?_
        refine c_seq ?_
        refine wp_block ?_
        refine c_seq ?_
        refine reg_list ?_
        refine ls hF hW rfl ((y_move hF rfl).q) (fun a w hF hW => ?_)
        obtain ⟨x2, h1, H⟩ := bindE H
        refine ls hF hW rfl ((y_indexA (enc := Value.int .i64) (cs := [.int .i64 p0.2.2.1, .int .i64 p0.2.2.2.1, .int .i64 p0.2.2.2.2.1, .int .i64 p0.2.2.2.2.2]) Ar22 T3 hF rfl rfl rfl rfl h1).q) (fun a w hF hW => ?_)
        refine ls hF hW rfl ((y_assign hF rfl).q) (fun a w hF hW => ?_)
        refine ls hF hW rfl ((y_assign hF rfl).q) (fun a w hF hW => ?_)
        refine ls_nil ?_
        refine c_then ?_
        obtain ⟨o3, G3, K3⟩ := bindE H
        refine c_seqJ (fun a w => ∃ x3 : Bool, some (x3) = some o3 ∧ Fr 49 [] [(1, .pointer (some ⟨b1, 0, none⟩)), (2, .bool false), (19, .agg #[.int .i64 p0.2.2.1, .int .i64 p0.2.2.2.1, .int .i64 p0.2.2.2.2.1, .int .i64 p0.2.2.2.2.2]), (20, .int .i64 x1), (47, .bool x3)] a ∧ Stw ⟨Y, [], w0⟩ [(b1, [.int .i64 p0.1, .int .i64 p0.2.1.1, .int .i64 p0.2.1.2.1, .int .i64 p0.2.1.2.2.1, .int .i64 p0.2.1.2.2.2, .int .i64 p0.2.2.1, .int .i64 p0.2.2.2.1, .int .i64 p0.2.2.2.2.1, .int .i64 p0.2.2.2.2.2])] [] w) ?_ ?_
        ·
          have H := G3
          clear G3 K3
          refine reg_list ?_
          refine ls hF hW rfl ((y_move hF rfl).q) (fun a w hF hW => ?_)
          refine ls hF hW rfl ((y_lss hF rfl rfl).q) (fun a w hF hW => ?_)
          refine ls hF hW rfl ((y_move hF rfl).q) (fun a w hF hW => ?_)
          rcases Bool.eq_false_or_eq_true (decide (x2 < 0)) with hb | hb
          ·
            have H := iteT (of_decide_eq_true hb) H
            rw [hb] at hF
            clear hb
            refine ls_skip hF (wanted_n hF rfl rfl rfl rfl rfl) rfl rfl (fun a hF => ?_)
            refine ls_skip hF (wanted_n hF rfl rfl rfl rfl rfl) rfl rfl (fun a hF => ?_)
            refine ls_skip hF (wanted_n hF rfl rfl rfl rfl rfl) rfl rfl (fun a hF => ?_)
            refine ls_skip hF (wanted_n hF rfl rfl rfl rfl rfl) rfl rfl (fun a hF => ?_)
            refine ls hF hW rfl ((y_pick_t hF rfl rfl rfl).q) (fun a w hF hW => ?_)
            refine ls hF hW rfl ((y_move hF rfl).q) (fun a w hF hW => ?_)
            refine ls_skip hF (wanted_n hF rfl rfl rfl rfl rfl) rfl rfl (fun a hF => ?_)
            refine ls_skip hF (wanted_n hF rfl rfl rfl rfl rfl) rfl rfl (fun a hF => ?_)
            refine ls_skip hF (wanted_n hF rfl rfl rfl rfl rfl) rfl rfl (fun a hF => ?_)
            refine ls_skip hF (wanted_n hF rfl rfl rfl rfl rfl) rfl rfl (fun a hF => ?_)
            refine ls_skip hF (wanted_n hF rfl rfl rfl rfl rfl) rfl rfl (fun a hF => ?_)
            refine ls hF hW rfl ((y_pick_t hF rfl rfl rfl).q) (fun a w hF hW => ?_)
            refine ls hF hW rfl ((y_move hF rfl).q) (fun a w hF hW => ?_)
            refine ls_skip hF (wanted_n hF rfl rfl rfl rfl rfl) rfl rfl (fun a hF => ?_)
            refine ls_skip hF (wanted_n hF rfl rfl rfl rfl rfl) rfl rfl (fun a hF => ?_)
            refine ls_skip hF (wanted_n hF rfl rfl rfl rfl rfl) rfl rfl (fun a hF => ?_)
            refine ls_skip hF (wanted_n hF rfl rfl rfl rfl rfl) rfl rfl (fun a hF => ?_)
            refine ls_skip hF (wanted_n hF rfl rfl rfl rfl rfl) rfl rfl (fun a hF => ?_)
            refine ls_skip hF (wanted_n hF rfl rfl rfl rfl rfl) rfl rfl (fun a hF => ?_)
            refine ls_skip hF (wanted_n hF rfl rfl rfl rfl rfl) rfl rfl (fun a hF => ?_)
            refine ls hF hW rfl ((y_pick_t hF rfl rfl rfl).q) (fun a w hF hW => ?_)
            refine ls_nil ?_
            refine c_then ?_
            exact ⟨_, H, hF.re ⟨rfl, rfl, rfl, rfl, rfl, trivial⟩, hW⟩
          ·
            have H := iteF (of_decide_eq_false hb) H
            rw [hb] at hF
            clear hb
            refine ls_w hF hW (wanted_y hF rfl rfl rfl rfl) rfl (Nat.le_of_ble_eq_true rfl) ((y_move hF rfl).q) (fun a w hF hW => ?_)
            refine ls_w hF hW (wanted_y hF rfl rfl rfl rfl) rfl (Nat.le_of_ble_eq_true rfl) ((y_move hF rfl).q) (fun a w hF hW => ?_)
            refine ls_g (wanted_y hF rfl rfl rfl rfl) ?_
            obtain ⟨x4, h2, H⟩ := bindE H
            refine ls hF hW rfl (y_call (v := Value.int .i64 x4) hF H34 rfl (fun w hW => packet_Top_c any w x1 _ h2)) (fun a w hF hW => ?_)
            refine ls_w hF hW (wanted_y hF rfl rfl rfl rfl) rfl (Nat.le_of_ble_eq_true rfl) ((y_gtr hF rfl rfl).q) (fun a w hF hW => ?_)
            refine ls hF hW rfl ((y_pick_f hF rfl rfl rfl).q) (fun a w hF hW => ?_)
            refine ls hF hW rfl ((y_move hF rfl).q) (fun a w hF hW => ?_)
            rcases Bool.eq_false_or_eq_true (decide (x4 < x2)) with hb | hb
            ·
              have H := iteT (of_decide_eq_true hb) H
              rw [hb] at hF
              clear hb
              refine ls_skip hF (wanted_n hF rfl rfl rfl rfl rfl) rfl rfl (fun a hF => ?_)
              refine ls_skip hF (wanted_n hF rfl rfl rfl rfl rfl) rfl rfl (fun a hF => ?_)
              refine ls_skip hF (wanted_n hF rfl rfl rfl rfl rfl) rfl rfl (fun a hF => ?_)
              refine ls_skip hF (wanted_n hF rfl rfl rfl rfl rfl) rfl rfl (fun a hF => ?_)
              refine ls_skip hF (wanted_n hF rfl rfl rfl rfl rfl) rfl rfl (fun a hF => ?_)
              refine ls hF hW rfl ((y_pick_t hF rfl rfl rfl).q) (fun a w hF hW => ?_)
              refine ls hF hW rfl ((y_move hF rfl).q) (fun a w hF hW => ?_)
              refine ls_skip hF (wanted_n hF rfl rfl rfl rfl rfl) rfl rfl (fun a hF => ?_)
              refine ls_skip hF (wanted_n hF rfl rfl rfl rfl rfl) rfl rfl (fun a hF => ?_)
              refine ls_skip hF (wanted_n hF rfl rfl rfl rfl rfl) rfl rfl (fun a hF => ?_)
              refine ls_skip hF (wanted_n hF rfl rfl rfl rfl rfl) rfl rfl (fun a hF => ?_)
              refine ls_skip hF (wanted_n hF rfl rfl rfl rfl rfl) rfl rfl (fun a hF => ?_)
              refine ls_skip hF (wanted_n hF rfl rfl rfl rfl rfl) rfl rfl (fun a hF => ?_)
              refine ls_skip hF (wanted_n hF rfl rfl rfl rfl rfl) rfl rfl (fun a hF => ?_)
              refine ls hF hW rfl ((y_pick_t hF rfl rfl rfl).q) (fun a w hF hW => ?_)
              refine ls_nil ?_
              refine c_then ?_
              exact ⟨_, H, hF.re ⟨rfl, rfl, rfl, rfl, rfl, trivial⟩, hW⟩
            ·
              have H := iteF (of_decide_eq_false hb) H
              rw [hb] at hF
              clear hb
              refine ls_w hF hW (wanted_y hF rfl rfl rfl rfl) rfl (Nat.le_of_ble_eq_true rfl) ((y_move hF rfl).q) (fun a w hF hW => ?_)
              refine ls_w hF hW (wanted_y hF rfl rfl rfl rfl) rfl (Nat.le_of_ble_eq_true rfl) ((y_fieldAddr Tryd.underlying24 rfl rfl rfl T22 hF rfl 1 rfl).q) (fun a w hF hW => ?_)
              obtain ⟨x5, h3, H⟩ := bindE H
              refine ls_w hF hW (wanted_y hF rfl rfl rfl rfl) rfl (Nat.le_of_ble_eq_true rfl) ((y_indexP (1 + (x1).toNat * 1) Ar22 hF rfl rfl rfl h3 rfl).q) (fun a w hF hW => ?_)
              refine ls_w hF hW (wanted_y hF rfl rfl rfl rfl) rfl (Nat.le_of_ble_eq_true rfl) ((y_load (v := Value.int .i64 x5) 0 hF rfl rfl T3 (rdv_dyn (base := 1) (m := 4) (l := [p0.2.1.1, p0.2.1.2.1, p0.2.1.2.2.1, p0.2.1.2.2.2]) (enc := Value.int .i64) rfl h3)).q) (fun a w hF hW => ?_)
              refine ls_w hF hW (wanted_y hF rfl rfl rfl rfl) rfl (Nat.le_of_ble_eq_true rfl) ((y_lss hF rfl rfl).q) (fun a w hF hW => ?_)
              refine ls hF hW rfl ((y_pick_f hF rfl rfl rfl).q) (fun a w hF hW => ?_)
              refine ls hF hW rfl ((y_move hF rfl).q) (fun a w hF hW => ?_)
              rcases Bool.eq_false_or_eq_true (decide (x5 < 0)) with hb | hb
              ·
                have H := iteT (of_decide_eq_true hb) H
                rw [hb] at hF
                clear hb
                refine ls_skip hF (wanted_n hF rfl rfl rfl rfl rfl) rfl rfl (fun a hF => ?_)
                refine ls_skip hF (wanted_n hF rfl rfl rfl rfl rfl) rfl rfl (fun a hF => ?_)
                refine ls_skip hF (wanted_n hF rfl rfl rfl rfl rfl) rfl rfl (fun a hF => ?_)
                refine ls_skip hF (wanted_n hF rfl rfl rfl rfl rfl) rfl rfl (fun a hF => ?_)
                refine ls_skip hF (wanted_n hF rfl rfl rfl rfl rfl) rfl rfl (fun a hF => ?_)
                refine ls_skip hF (wanted_n hF rfl rfl rfl rfl rfl) rfl rfl (fun a hF => ?_)
                refine ls_skip hF (wanted_n hF rfl rfl rfl rfl rfl) rfl rfl (fun a hF => ?_)
                refine ls hF hW rfl ((y_pick_t hF rfl rfl rfl).q) (fun a w hF hW => ?_)
                refine ls_nil ?_
                refine c_then ?_
                exact ⟨_, H, hF.re ⟨rfl, rfl, rfl, rfl, rfl, trivial⟩, hW⟩
              ·
                have H := iteF (of_decide_eq_false hb) H
                rw [hb] at hF
                clear hb
                refine ls_w hF hW (wanted_y hF rfl rfl rfl rfl) rfl (Nat.le_of_ble_eq_true rfl) ((y_move hF rfl).q) (fun a w hF hW => ?_)
                refine ls_w hF hW (wanted_y hF rfl rfl rfl rfl) rfl (Nat.le_of_ble_eq_true rfl) ((y_fieldAddr Tryd.underlying24 rfl rfl rfl T22 hF rfl 1 rfl).q) (fun a w hF hW => ?_)
                obtain ⟨x6, h4, H⟩ := bindE H
                refine ls_w hF hW (wanted_y hF rfl rfl rfl rfl) rfl (Nat.le_of_ble_eq_true rfl) ((y_indexP (1 + (x1).toNat * 1) Ar22 hF rfl rfl rfl h4 rfl).q) (fun a w hF hW => ?_)
                refine ls_w hF hW (wanted_y hF rfl rfl rfl rfl) rfl (Nat.le_of_ble_eq_true rfl) ((y_load (v := Value.int .i64 x6) 0 hF rfl rfl T3 (rdv_dyn (base := 1) (m := 4) (l := [p0.2.1.1, p0.2.1.2.1, p0.2.1.2.2.1, p0.2.1.2.2.2]) (enc := Value.int .i64) rfl h4)).q) (fun a w hF hW => ?_)
                refine ls_w hF hW (wanted_y hF rfl rfl rfl rfl) rfl (Nat.le_of_ble_eq_true rfl) ((y_move hF rfl).q) (fun a w hF hW => ?_)
                refine ls_w hF hW (wanted_y hF rfl rfl rfl rfl) rfl (Nat.le_of_ble_eq_true rfl) ((y_andNot hF rfl rfl).q) (fun a w hF hW => ?_)
                refine ls_w hF hW (wanted_y hF rfl rfl rfl rfl) rfl (Nat.le_of_ble_eq_true rfl) ((y_neq hF rfl rfl).q) (fun a w hF hW => ?_)
                refine ls hF hW rfl ((y_pick_f hF rfl rfl rfl).q) (fun a w hF hW => ?_)
                refine ls_nil ?_
                refine c_then ?_
                exact ⟨_, H, hF.re ⟨rfl, rfl, rfl, rfl, rfl, trivial⟩, hW⟩
        rintro a w ⟨x3, hj, hF, hW⟩
        have hj := Option.some.inj hj
        subst hj
        have H := K3
        clear G3 K3
        refine c_cond hF rfl (fun hb => ?_) (fun hb => ?_)
        ·
          have H := iteT hb H
          rw [hb] at hF
          clear hb
          refine c_seq ?_
          refine reg_list ?_
          refine ls hF hW rfl ((y_assign hF rfl).q) (fun a w hF hW => ?_)
          refine ls_nil ?_
          refine c_then ?_
          refine wp_ret ?_
          refine r_block ?_
          refine r_then ?_
          refine r_then ?_
          refine r_block ?_
          refine r_then ?_
          have H := L2 _ H
          have H := L1 _ H
          have H := Option.some.inj H
          subst H
          refine post1 (.inl rfl) hF hW rfl (rv_tmp hF rfl) ?_
          exact ⟨rfl, hW.done⟩
        ·
          have H := iteF (by rw [hb]; decide) H
          rw [hb] at hF
          clear hb
          refine wp_skip ?_
          refine b_normal ?_
          refine c_then ?_
          refine reg_list ?_
          refine ls hF hW rfl ((y_add hF rfl rfl rfl).q) (fun a w hF hW => ?_)
          refine ls hF hW rfl ((y_move hF rfl).q) (fun a w hF hW => ?_)
          refine ls_nil ?_
          refine c_then ?_
          exact ⟨_, H, hF.re ⟨rfl, rfl, rfl, rfl, trivial⟩, hW⟩
      ·
        have H := iteF (of_decide_eq_false hb) H
        rw [hb] at hF
        clear hb
        refine wp_exit ?_
        refine e_then ?_
        refine e_then ?_
        refine e_block ?_
        refine c_then ?_
        have H := L2 _ H
        exact ⟨H, hF.re ⟨rfl, trivial⟩, hW⟩
    rintro a w ⟨hj, hF, hW⟩
    have H := K1 _ hj
    clear hj G1 K1 L1
    refine c_seq ?_
    refine reg_list ?_
    refine ls hF hW rfl ((y_assign hF rfl).q) (fun a w hF hW => ?_)
    refine ls_nil ?_
    refine c_then ?_
    refine wp_ret ?_
    have H := Option.some.inj H
    subst H
    refine post1 (.inl rfl) hF hW rfl (rv_tmp hF rfl) ?_
    exact ⟨rfl, hW.done⟩

theorem H7 : Has Tryd.prog 7 := ⟨fun args w => run_callFunc_body Tryd.func7 rfl (by decide) args w⟩
def r07_Top (p0 : Int) : Int := (if p0 = 2 then 15 else (if (decide (p0 = 0) || (decide (p0 = 1) || decide (p0 = 3))) = true then 255 else 0))
theorem r07_Top_c (Y : Nat → Prop) (w0 : World)  (p0 : Int) (r : Int) (H : r07_Top p0 = r)  :
    Calls Tryd.prog 35 #[.int .i64 p0] w0 fun e w' => e = .returned (.int .i64 r) ∧ Below w0.heap.size w0 w' := by
  refine enter Tryd.func35 rfl Tryd.ntmps35 rfl (fun a hF => ?_)
  have hW := Stw.start Y w0
  unfold r07_Top at H
  refine c_seq ?_
  refine reg_list ?_
  refine ls hF hW rfl ((y_assign hF rfl).q) (fun a w hF hW => ?_)
  refine ls_nil ?_
  refine c_then ?_
  refine c_seq ?_
  refine c_seq ?_
  refine reg_list ?_
  refine ls hF hW rfl ((y_move hF rfl).q) (fun a w hF hW => ?_)
  refine ls hF hW rfl ((y_eql hF rfl rfl).q) (fun a w hF hW => ?_)
  refine ls_nil ?_
  refine c_then ?_
  refine c_cond hF rfl (fun hb => ?_) (fun hb => ?_)
  ·
    have H := iteT (of_decide_eq_true hb) H
    rw [hb] at hF
    clear hb
    refine c_seq ?_
    refine reg_list ?_
    refine ls hF hW rfl ((y_assign hF rfl).q) (fun a w hF hW => ?_)
    refine ls_nil ?_
    refine c_then ?_
    refine wp_ret ?_
    refine r_then ?_
    subst H
    refine post1 (.inl rfl) hF hW rfl (rv_tmp hF rfl) ?_
    exact ⟨rfl, hW.done⟩
  ·
    have H := iteF (of_decide_eq_false hb) H
    rw [hb] at hF
    clear hb
    refine wp_skip ?_
    refine c_then ?_
    refine c_seq ?_
    refine c_seqJ (fun a w => Fr 15 [] [(2, .int .i64 0), (14, .bool (decide (p0 = 0) || (decide (p0 = 1) || decide (p0 = 3))))] a ∧ Stw ⟨Y, [], w0⟩ [] [] w) ?_ ?_
    ·
      refine reg_list ?_
      refine ls hF hW rfl ((y_move hF rfl).q) (fun a w hF hW => ?_)
      refine ls hF hW rfl ((y_eql hF rfl rfl).q) (fun a w hF hW => ?_)
      refine ls hF hW rfl ((y_move hF rfl).q) (fun a w hF hW => ?_)
      rcases Bool.eq_false_or_eq_true (decide (p0 = 0)) with hb0 | hb0
      ·
        rw [hb0] at hF
        refine ls_skip hF (wanted_n hF rfl rfl rfl rfl rfl) rfl rfl (fun a hF => ?_)
        refine ls_skip hF (wanted_n hF rfl rfl rfl rfl rfl) rfl rfl (fun a hF => ?_)
        refine ls hF hW rfl ((y_pick_t hF rfl rfl rfl).q) (fun a w hF hW => ?_)
        refine ls hF hW rfl ((y_move hF rfl).q) (fun a w hF hW => ?_)
        refine ls_skip hF (wanted_n hF rfl rfl rfl rfl rfl) rfl rfl (fun a hF => ?_)
        refine ls_skip hF (wanted_n hF rfl rfl rfl rfl rfl) rfl rfl (fun a hF => ?_)
        refine ls hF hW rfl ((y_pick_t hF rfl rfl rfl).q) (fun a w hF hW => ?_)
        refine ls_nil ?_
        refine c_then ?_
        exact ⟨hF.re ⟨rfl, (by show some (Value.bool true) = some (Value.bool (decide (p0 = 0) || (decide (p0 = 1) || decide (p0 = 3)))); try rw [hb0]; all_goals simp only [Bool.not_true, Bool.not_false, Bool.true_and, Bool.false_and, Bool.true_or, Bool.false_or, Bool.and_true, Bool.or_false, cond_true, cond_false]), trivial⟩, hW⟩
      ·
        rw [hb0] at hF
        refine ls_w hF hW (wanted_y hF rfl rfl rfl rfl) rfl (Nat.le_of_ble_eq_true rfl) ((y_move hF rfl).q) (fun a w hF hW => ?_)
        refine ls_w hF hW (wanted_y hF rfl rfl rfl rfl) rfl (Nat.le_of_ble_eq_true rfl) ((y_eql hF rfl rfl).q) (fun a w hF hW => ?_)
        refine ls hF hW rfl ((y_pick_f hF rfl rfl rfl).q) (fun a w hF hW => ?_)
        refine ls hF hW rfl ((y_move hF rfl).q) (fun a w hF hW => ?_)
        rcases Bool.eq_false_or_eq_true (decide (p0 = 1)) with hb1 | hb1
        ·
          rw [hb1] at hF
          refine ls_skip hF (wanted_n hF rfl rfl rfl rfl rfl) rfl rfl (fun a hF => ?_)
          refine ls_skip hF (wanted_n hF rfl rfl rfl rfl rfl) rfl rfl (fun a hF => ?_)
          refine ls hF hW rfl ((y_pick_t hF rfl rfl rfl).q) (fun a w hF hW => ?_)
          refine ls_nil ?_
          refine c_then ?_
          exact ⟨hF.re ⟨rfl, (by show some (Value.bool true) = some (Value.bool (decide (p0 = 0) || (decide (p0 = 1) || decide (p0 = 3)))); try rw [hb0]; try rw [hb1]; all_goals simp only [Bool.not_true, Bool.not_false, Bool.true_and, Bool.false_and, Bool.true_or, Bool.false_or, Bool.and_true, Bool.or_false, cond_true, cond_false]), trivial⟩, hW⟩
        ·
          rw [hb1] at hF
          refine ls_w hF hW (wanted_y hF rfl rfl rfl rfl) rfl (Nat.le_of_ble_eq_true rfl) ((y_move hF rfl).q) (fun a w hF hW => ?_)
          refine ls_w hF hW (wanted_y hF rfl rfl rfl rfl) rfl (Nat.le_of_ble_eq_true rfl) ((y_eql hF rfl rfl).q) (fun a w hF hW => ?_)
          refine ls hF hW rfl ((y_pick_f hF rfl rfl rfl).q) (fun a w hF hW => ?_)
          refine ls_nil ?_
          refine c_then ?_
          exact ⟨hF.re ⟨rfl, (by show some (Value.bool (decide (p0 = 3))) = some (Value.bool (decide (p0 = 0) || (decide (p0 = 1) || decide (p0 = 3)))); try rw [hb0]; try rw [hb1]; all_goals simp only [Bool.not_true, Bool.not_false, Bool.true_and, Bool.false_and, Bool.true_or, Bool.false_or, Bool.and_true, Bool.or_false, cond_true, cond_false]), trivial⟩, hW⟩
    rintro a w ⟨hF, hW⟩
    refine c_cond hF rfl (fun hb => ?_) (fun hb => ?_)
    ·
      have H := iteT hb H
      rw [hb] at hF
      clear hb
      refine c_seq ?_
      refine reg_list ?_
      refine ls hF hW rfl ((y_assign hF rfl).q) (fun a w hF hW => ?_)
      refine ls_nil ?_
      refine c_then ?_
      refine wp_ret ?_
      refine r_then ?_
      subst H
      refine post1 (.inl rfl) hF hW rfl (rv_tmp hF rfl) ?_
      exact ⟨rfl, hW.done⟩
    ·
      have H := iteF (by rw [hb]; decide) H
      rw [hb] at hF
      clear hb
      refine wp_skip ?_
      refine c_then ?_
      refine c_seq ?_
      refine reg_list ?_
      refine ls hF hW rfl ((y_assign hF rfl).q) (fun a w hF hW => ?_)
      refine ls_nil ?_
      refine c_then ?_
      refine wp_ret ?_
      subst H
      refine post1 (.inl rfl) hF hW rfl (rv_tmp hF rfl) ?_
      exact ⟨rfl, hW.done⟩

theorem H35 : Has Tryd.prog 35 := ⟨fun args w => run_callFunc_body Tryd.func35 rfl (by decide) args w⟩
noncomputable def r08_Bit_l1 (p1 : Int) : (Int × Int) → Option ((Int × Int) ⊕ Int)
  | (x2, x3) => (if x3 < p1 then some (.inl (w64 (Int.tdiv x2 2), w64 (x3 + 1))) else some (.inr x2))
noncomputable def r08_Bit (p0 : Int) (p1 : Int) : Option Int := (loopW (r08_Bit_l1 p1) (p0, 0)).bind fun x1 => some (Int.tmod x1 2)
theorem r08_Bit_c (Y : Nat → Prop) (w0 : World)  (p0 : Int) (p1 : Int) (r : Int) (H : r08_Bit p0 p1 = some r)  :
    Calls Tryd.prog 36 #[.int .i64 p0, .int .i64 p1] w0 fun e w' => e = .returned (.int .i64 r) ∧ Below w0.heap.size w0 w' := by
  refine enter Tryd.func36 rfl Tryd.ntmps36 rfl (fun a hF => ?_)
  have hW := Stw.start Y w0
  unfold r08_Bit at H
  refine c_seq ?_
  refine reg_list ?_
  refine ls hF hW rfl ((y_assign hF rfl).q) (fun a w hF hW => ?_)
  refine ls_nil ?_
  refine c_then ?_
  obtain ⟨o1, G1, K1⟩ := bindE H
  refine c_seqJ (fun a w => ∃ x1 : Int, some (x1) = some o1 ∧ Fr 15 [] [(0, .int .i64 x1), (4, .int .i64 0)] a ∧ Stw ⟨Y, [], w0⟩ [] [] w) ?_ ?_
  ·
    have H := G1
    clear G1 K1
    refine c_seq ?_
    refine reg_list ?_
    refine ls hF hW rfl ((y_assign hF rfl).q) (fun a w hF hW => ?_)
    refine ls_nil ?_
    refine c_then ?_
    refine wp_block ?_
    refine c_loopW H (fun s a w => Fr 15 [] [(0, .int .i64 s.1), (1, .int .i64 p1), (4, .int .i64 0), (5, .int .i64 s.2)] a ∧ Stw ⟨Y, [], w0⟩ [] [] w) ⟨hF.re ⟨rfl, rfl, rfl, rfl, trivial⟩, hW⟩ (fun s o a w H L2 hR => ?_)
    obtain ⟨x2, x3⟩ := s
    obtain ⟨hF, hW⟩ := hR
    have hF : Fr 15 [] [(0, .int .i64 x2), (1, .int .i64 p1), (4, .int .i64 0), (5, .int .i64 x3)] a := hF
    have hW : Stw ⟨Y, [], w0⟩ [] [] w := hW
    rw [r08_Bit_l1] at H
    refine c_seq ?_
    refine c_seq ?_
    refine reg_list ?_
    refine ls hF hW rfl ((y_move hF rfl).q) (fun a w hF hW => ?_)
    refine ls hF hW rfl ((y_move hF rfl).q) (fun a w hF hW => ?_)
    refine ls hF hW rfl ((y_lss hF rfl rfl).q) (fun a w hF hW => ?_)
    refine ls_nil ?_
    refine c_then ?_
    refine c_cond hF rfl (fun hb => ?_) (fun hb => ?_)
    ·
      have H := iteT (of_decide_eq_true hb) H
      rw [hb] at hF
      clear hb
      refine wp_skip ?_
      refine c_then ?_
      refine c_seq ?_
      refine wp_block ?_
      refine reg_list ?_
      refine ls hF hW rfl ((y_move hF rfl).q) (fun a w hF hW => ?_)
      refine ls hF hW rfl ((y_quo hF rfl rfl (by decide) rfl).q) (fun a w hF hW => ?_)
      refine ls hF hW rfl ((y_assign hF rfl).q) (fun a w hF hW => ?_)
      refine ls_nil ?_
      refine b_normal ?_
      refine c_then ?_
      refine reg_list ?_
      refine ls hF hW rfl ((y_move hF rfl).q) (fun a w hF hW => ?_)
      refine ls hF hW rfl ((y_add hF rfl rfl rfl).q) (fun a w hF hW => ?_)
      refine ls hF hW rfl ((y_assign hF rfl).q) (fun a w hF hW => ?_)
      refine ls_nil ?_
      refine c_then ?_
      exact ⟨_, H, hF.re ⟨rfl, rfl, rfl, rfl, trivial⟩, hW⟩
    ·
      have H := iteF (of_decide_eq_false hb) H
      rw [hb] at hF
      clear hb
      refine wp_exit ?_
      refine e_then ?_
      refine e_then ?_
      refine e_block ?_
      refine c_then ?_
      have H := L2 _ H
      exact ⟨_, H, hF.re ⟨rfl, rfl, trivial⟩, hW⟩
  rintro a w ⟨x1, hj, hF, hW⟩
  have hj := Option.some.inj hj
  subst hj
  have H := K1
  clear G1 K1
  refine c_seq ?_
  refine reg_list ?_
  refine ls hF hW rfl ((y_move hF rfl).q) (fun a w hF hW => ?_)
  refine ls hF hW rfl ((y_rem hF rfl rfl (by decide) rfl).q) (fun a w hF hW => ?_)
  refine ls hF hW rfl ((y_assign hF rfl).q) (fun a w hF hW => ?_)
  refine ls_nil ?_
  refine c_then ?_
  refine wp_ret ?_
  have H := Option.some.inj H
  subst H
  refine post1 (.inl rfl) hF hW rfl (rv_tmp hF rfl) ?_
  exact ⟨rfl, hW.done⟩

theorem H36 : Has Tryd.prog 36 := ⟨fun args w => run_callFunc_body Tryd.func36 rfl (by decide) args w⟩
noncomputable def r08_Right_l2 (p0 : Int × (Int × Int × Int × Int) × (Int × Int × Int × Int)) (x1 : Int) : Int → Option (Int ⊕ (Unit ⊕ (Int ⊕ (Unit ⊕ Bool))))
  | x7 => (if x7 < 8 then (ix ([p0.2.1.1, p0.2.1.2.1, p0.2.1.2.2.1, p0.2.1.2.2.2] : List Int) x1).bind fun x8 => (r08_Bit x8 x7).bind fun x9 => (ix ([p0.2.2.1, p0.2.2.2.1, p0.2.2.2.2.1, p0.2.2.2.2.2] : List Int) x1).bind fun x10 => (r08_Bit x10 x7).bind fun x11 => (if x11 < x9 then some (.inr (.inr (.inr (.inr false)))) else some (.inl (w64 (x7 + 1)))) else some (.inr (.inl ())))
noncomputable def r08_Right_l1 (p0 : Int × (Int × Int × Int × Int) × (Int × Int × Int × Int)) : Int → Option (Int ⊕ (Unit ⊕ Bool))
  | x1 => (if x1 < 4 then orR (((ix ([p0.2.2.1, p0.2.2.2.1, p0.2.2.2.2.1, p0.2.2.2.2.2] : List Int) x1).bind fun x3 => (if x3 < 0 then some true else (ix ([p0.2.2.1, p0.2.2.2.1, p0.2.2.2.2.1, p0.2.2.2.2.2] : List Int) x1).bind fun x4 => (if (r07_Top x1) < x4 then some true else (ix ([p0.2.1.1, p0.2.1.2.1, p0.2.1.2.2.1, p0.2.1.2.2.2] : List Int) x1).bind fun x5 => (if x5 < 0 then some true else (ix ([p0.2.1.1, p0.2.1.2.1, p0.2.1.2.2.1, p0.2.1.2.2.2] : List Int) x1).bind fun x6 => some (decide ((r07_Top x1) < x6)))))).bind fun x2 => (if x2 = true then some (.inr (.inr (.inr false))) else loopW (r08_Right_l2 p0 x1) 0)) fun _ => some (.inl (w64 (x1 + 1))) else some (.inr (.inl ())))
noncomputable def r08_Right (p0 : Int × (Int × Int × Int × Int) × (Int × Int × Int × Int)) : Option Bool := (if (decide (p0.1 < (-1)) || decide (7 < p0.1)) = true then some false else orR (loopW (r08_Right_l1 p0) 0) fun _ => some true)
theorem r08_Right_c (Y : Nat → Prop) (w0 : World)  (p0 : Int × (Int × Int × Int × Int) × (Int × Int × Int × Int)) (r : Bool) (H : r08_Right p0 = some r)  :
    Calls Tryd.prog 8 #[.agg #[.int .i64 p0.1, .int .i64 p0.2.1.1, .int .i64 p0.2.1.2.1, .int .i64 p0.2.1.2.2.1, .int .i64 p0.2.1.2.2.2, .int .i64 p0.2.2.1, .int .i64 p0.2.2.2.1, .int .i64 p0.2.2.2.2.1, .int .i64 p0.2.2.2.2.2]] w0 fun e w' => e = .returned (.bool r) ∧ Below w0.heap.size w0 w' := by
  refine enter Tryd.func8 rfl Tryd.ntmps8 rfl (fun a hF => ?_)
  have hW := Stw.start Y w0
  unfold r08_Right at H
  refine c_seq ?_
  refine reg_list ?_
  refine l_box (cs := [.int .i64 p0.1, .int .i64 p0.2.1.1, .int .i64 p0.2.1.2.1, .int .i64 p0.2.1.2.2.1, .int .i64 p0.2.1.2.2.2, .int .i64 p0.2.2.1, .int .i64 p0.2.2.2.1, .int .i64 p0.2.2.2.2.1, .int .i64 p0.2.2.2.2.2]) hF hW rfl rfl rfl (fun b1 a w hF hW => ?_)
  refine ls hF hW rfl ((y_assign hF rfl).q) (fun a w hF hW => ?_)
  refine ls_nil ?_
  refine c_then ?_
  refine c_seq ?_
  refine c_seqJ (fun a w => Fr 64 [] [(1, .pointer (some ⟨b1, 0, none⟩)), (2, .bool false), (12, .bool (decide (p0.1 < (-1)) || decide (7 < p0.1)))] a ∧ Stw ⟨Y, [], w0⟩ [(b1, [.int .i64 p0.1, .int .i64 p0.2.1.1, .int .i64 p0.2.1.2.1, .int .i64 p0.2.1.2.2.1, .int .i64 p0.2.1.2.2.2, .int .i64 p0.2.2.1, .int .i64 p0.2.2.2.1, .int .i64 p0.2.2.2.2.1, .int .i64 p0.2.2.2.2.2])] [] w) ?_ ?_
  ·
    refine reg_list ?_
    refine ls hF hW rfl ((y_fieldAddr Tryd.underlying24 rfl rfl rfl T3 hF rfl 0 rfl).q) (fun a w hF hW => ?_)
    refine ls hF hW rfl ((y_load (v := Value.int .i64 p0.1) 0 hF rfl rfl T3 rfl).q) (fun a w hF hW => ?_)
    refine ls hF hW rfl ((y_lss hF rfl rfl).q) (fun a w hF hW => ?_)
    refine ls hF hW rfl ((y_move hF rfl).q) (fun a w hF hW => ?_)
    rcases Bool.eq_false_or_eq_true (decide (p0.1 < (-1))) with hb0 | hb0
    ·
      rw [hb0] at hF
      refine ls_skip hF (wanted_n hF rfl rfl rfl rfl rfl) rfl rfl (fun a hF => ?_)
      refine ls_skip hF (wanted_n hF rfl rfl rfl rfl rfl) rfl rfl (fun a hF => ?_)
      refine ls_skip hF (wanted_n hF rfl rfl rfl rfl rfl) rfl rfl (fun a hF => ?_)
      refine ls hF hW rfl ((y_pick_t hF rfl rfl rfl).q) (fun a w hF hW => ?_)
      refine ls_nil ?_
      refine c_then ?_
      exact ⟨hF.re ⟨rfl, rfl, (by show some (Value.bool true) = some (Value.bool (decide (p0.1 < (-1)) || decide (7 < p0.1))); try rw [hb0]; all_goals simp only [Bool.not_true, Bool.not_false, Bool.true_and, Bool.false_and, Bool.true_or, Bool.false_or, Bool.and_true, Bool.or_false, cond_true, cond_false]), trivial⟩, hW⟩
    ·
      rw [hb0] at hF
      refine ls_w hF hW (wanted_y hF rfl rfl rfl rfl) rfl (Nat.le_of_ble_eq_true rfl) ((y_fieldAddr Tryd.underlying24 rfl rfl rfl T3 hF rfl 0 rfl).q) (fun a w hF hW => ?_)
      refine ls_w hF hW (wanted_y hF rfl rfl rfl rfl) rfl (Nat.le_of_ble_eq_true rfl) ((y_load (v := Value.int .i64 p0.1) 0 hF rfl rfl T3 rfl).q) (fun a w hF hW => ?_)
      refine ls_w hF hW (wanted_y hF rfl rfl rfl rfl) rfl (Nat.le_of_ble_eq_true rfl) ((y_gtr hF rfl rfl).q) (fun a w hF hW => ?_)
      refine ls hF hW rfl ((y_pick_f hF rfl rfl rfl).q) (fun a w hF hW => ?_)
      refine ls_nil ?_
      refine c_then ?_
      exact ⟨hF.re ⟨rfl, rfl, (by show some (Value.bool (decide (7 < p0.1))) = some (Value.bool (decide (p0.1 < (-1)) || decide (7 < p0.1))); try rw [hb0]; all_goals simp only [Bool.not_true, Bool.not_false, Bool.true_and, Bool.false_and, Bool.true_or, Bool.false_or, Bool.and_true, Bool.or_false, cond_true, cond_false]), trivial⟩, hW⟩
  rintro a w ⟨hF, hW⟩
  refine c_cond hF rfl (fun hb => ?_) (fun hb => ?_)
  ·
    have H := iteT hb H
    rw [hb] at hF
    clear hb
    refine c_seq ?_
    refine reg_list ?_
    refine ls hF hW rfl ((y_assign hF rfl).q) (fun a w hF hW => ?_)
    refine ls_nil ?_
    refine c_then ?_
    refine wp_ret ?_
    refine r_then ?_
    have H := Option.some.inj H
    subst H
    refine post1 (.inl rfl) hF hW rfl (rv_tmp hF rfl) ?_
    exact ⟨rfl, hW.done⟩
  ·
    have H := iteF (by rw [hb]; decide) H
    rw [hb] at hF
    clear hb
    refine wp_skip ?_
    refine c_then ?_
    obtain ⟨o1, G1, K1, L1⟩ := orE H
    refine c_seqJ (fun a w => some (Sum.inl ()) = some o1 ∧ Fr 64 [] [(2, .bool false)] a ∧ Stw ⟨Y, [], w0⟩ [(b1, [.int .i64 p0.1, .int .i64 p0.2.1.1, .int .i64 p0.2.1.2.1, .int .i64 p0.2.1.2.2.1, .int .i64 p0.2.1.2.2.2, .int .i64 p0.2.2.1, .int .i64 p0.2.2.2.1, .int .i64 p0.2.2.2.2.1, .int .i64 p0.2.2.2.2.2])] [] w) ?_ ?_
    ·
      have H := G1
      clear G1 K1
      refine c_seq ?_
      refine reg_list ?_
      refine ls hF hW rfl ((y_assign hF rfl).q) (fun a w hF hW => ?_)
      refine ls_nil ?_
      refine c_then ?_
      refine wp_block ?_
      refine c_loopW H (fun s a w => Fr 64 [] [(1, .pointer (some ⟨b1, 0, none⟩)), (2, .bool false), (3, .int .i64 s)] a ∧ Stw ⟨Y, [], w0⟩ [(b1, [.int .i64 p0.1, .int .i64 p0.2.1.1, .int .i64 p0.2.1.2.1, .int .i64 p0.2.1.2.2.1, .int .i64 p0.2.1.2.2.2, .int .i64 p0.2.2.1, .int .i64 p0.2.2.2.1, .int .i64 p0.2.2.2.2.1, .int .i64 p0.2.2.2.2.2])] [] w) ⟨hF.re ⟨rfl, rfl, rfl, trivial⟩, hW⟩ (fun s o a w H L2 hR => ?_)
      obtain ⟨x1, rfl⟩ : ∃ x, x = s := ⟨s, rfl⟩
      obtain ⟨hF, hW⟩ := hR
      have hF : Fr 64 [] [(1, .pointer (some ⟨b1, 0, none⟩)), (2, .bool false), (3, .int .i64 x1)] a := hF
      have hW : Stw ⟨Y, [], w0⟩ [(b1, [.int .i64 p0.1, .int .i64 p0.2.1.1, .int .i64 p0.2.1.2.1, .int .i64 p0.2.1.2.2.1, .int .i64 p0.2.1.2.2.2, .int .i64 p0.2.2.1, .int .i64 p0.2.2.2.1, .int .i64 p0.2.2.2.2.1, .int .i64 p0.2.2.2.2.2])] [] w := hW
      rw [r08_Right_l1] at H
      refine c_seq ?_
      refine c_seq ?_
      refine reg_list ?_
      refine ls hF hW rfl ((y_move hF rfl).q) (fun a w hF hW => ?_)
      refine ls hF hW rfl ((y_lss hF rfl rfl).q) (fun a w hF hW => ?_)
      refine ls_nil ?_
      refine c_then ?_
      refine c_cond hF rfl (fun hb => ?_) (fun hb => ?_)
      ·
        have H := iteT (of_decide_eq_true hb) H
        rw [hb] at hF
        clear hb
        refine wp_skip ?_
        refine c_then ?_
        obtain ⟨o3, G3, K3, L3⟩ := orE H
        refine c_seqJ (fun a w => some (Sum.inl ()) = some o3 ∧ Fr 64 [] [(1, .pointer (some ⟨b1, 0, none⟩)), (2, .bool false), (3, .int .i64 x1)] a ∧ Stw ⟨Y, [], w0⟩ [(b1, [.int .i64 p0.1, .int .i64 p0.2.1.1, .int .i64 p0.2.1.2.1, .int .i64 p0.2.1.2.2.1, .int .i64 p0.2.1.2.2.2, .int .i64 p0.2.2.1, .int .i64 p0.2.2.2.1, .int .i64 p0.2.2.2.2.1, .int .i64 p0.2.2.2.2.2])] [] w) ?_ ?_
        ·
          have H := G3
          clear G3 K3
          refine wp_block ?_
          refine c_seq ?_
          obtain ⟨o4, G4, K4⟩ := bindE H
          refine c_seqJ (fun a w => ∃ x2 : Bool, some (x2) = some o4 ∧ Fr 64 [] [(1, .pointer (some ⟨b1, 0, none⟩)), (2, .bool false), (3, .int .i64 x1), (46, .bool x2)] a ∧ Stw ⟨Y, [], w0⟩ [(b1, [.int .i64 p0.1, .int .i64 p0.2.1.1, .int .i64 p0.2.1.2.1, .int .i64 p0.2.1.2.2.1, .int .i64 p0.2.1.2.2.2, .int .i64 p0.2.2.1, .int .i64 p0.2.2.2.1, .int .i64 p0.2.2.2.2.1, .int .i64 p0.2.2.2.2.2])] [] w) ?_ ?_
          ·
            have H := G4
            clear G4 K4
            refine reg_quiet hW MO (by kernel_rfl) ?_
            refine qs hF rfl ((y_move hF rfl).q) (fun a hF => ?_)
            refine qs hF rfl ((y_fieldAddr Tryd.underlying24 rfl rfl rfl T22 hF rfl 5 rfl).q) (fun a hF => ?_)
            obtain ⟨x3, h1, H⟩ := bindE H
            refine qs hF rfl ((y_indexP (5 + (x1).toNat * 1) Ar22 hF rfl rfl rfl h1 rfl).q) (fun a hF => ?_)
            refine qs hF rfl ((y_load (v := Value.int .i64 x3) 0 hF rfl rfl T3 (rdv_dyn (base := 5) (m := 4) (l := [p0.2.2.1, p0.2.2.2.1, p0.2.2.2.2.1, p0.2.2.2.2.2]) (enc := Value.int .i64) rfl h1)).q) (fun a hF => ?_)
            refine qs hF rfl ((y_lss hF rfl rfl).q) (fun a hF => ?_)
            refine qs hF rfl ((y_move hF rfl).q) (fun a hF => ?_)
            rcases Bool.eq_false_or_eq_true (decide (x3 < 0)) with hb | hb
            ·
              have H := iteT (of_decide_eq_true hb) H
              rw [hb] at hF
              clear hb
              refine qs_skip hF (wanted_n hF rfl rfl rfl rfl rfl) rfl rfl (fun a hF => ?_)
              refine qs_skip hF (wanted_n hF rfl rfl rfl rfl rfl) rfl rfl (fun a hF => ?_)
              refine qs_skip hF (wanted_n hF rfl rfl rfl rfl rfl) rfl rfl (fun a hF => ?_)
              refine qs_skip hF (wanted_n hF rfl rfl rfl rfl rfl) rfl rfl (fun a hF => ?_)
              refine qs_skip hF (wanted_n hF rfl rfl rfl rfl rfl) rfl rfl (fun a hF => ?_)
              refine qs_skip hF (wanted_n hF rfl rfl rfl rfl rfl) rfl rfl (fun a hF => ?_)
              refine qs_skip hF (wanted_n hF rfl rfl rfl rfl rfl) rfl rfl (fun a hF => ?_)
              refine qs hF rfl ((y_pick_t hF rfl rfl rfl).q) (fun a hF => ?_)
              refine qs hF rfl ((y_move hF rfl).q) (fun a hF => ?_)
              refine qs_skip hF (wanted_n hF rfl rfl rfl rfl rfl) rfl rfl (fun a hF => ?_)
              refine qs_skip hF (wanted_n hF rfl rfl rfl rfl rfl) rfl rfl (fun a hF => ?_)
              refine qs_skip hF (wanted_n hF rfl rfl rfl rfl rfl) rfl rfl (fun a hF => ?_)
              refine qs_skip hF (wanted_n hF rfl rfl rfl rfl rfl) rfl rfl (fun a hF => ?_)
              refine qs_skip hF (wanted_n hF rfl rfl rfl rfl rfl) rfl rfl (fun a hF => ?_)
              refine qs hF rfl ((y_pick_t hF rfl rfl rfl).q) (fun a hF => ?_)
              refine qs hF rfl ((y_move hF rfl).q) (fun a hF => ?_)
              refine qs_skip hF (wanted_n hF rfl rfl rfl rfl rfl) rfl rfl (fun a hF => ?_)
              refine qs_skip hF (wanted_n hF rfl rfl rfl rfl rfl) rfl rfl (fun a hF => ?_)
              refine qs_skip hF (wanted_n hF rfl rfl rfl rfl rfl) rfl rfl (fun a hF => ?_)
              refine qs_skip hF (wanted_n hF rfl rfl rfl rfl rfl) rfl rfl (fun a hF => ?_)
              refine qs_skip hF (wanted_n hF rfl rfl rfl rfl rfl) rfl rfl (fun a hF => ?_)
              refine qs_skip hF (wanted_n hF rfl rfl rfl rfl rfl) rfl rfl (fun a hF => ?_)
              refine qs_skip hF (wanted_n hF rfl rfl rfl rfl rfl) rfl rfl (fun a hF => ?_)
              refine qs hF rfl ((y_pick_t hF rfl rfl rfl).q) (fun a hF => ?_)
              refine quiet_end (fun w hW => ?_)
              refine c_then ?_
              exact ⟨_, H, hF.re ⟨rfl, rfl, rfl, rfl, trivial⟩, hW⟩
            ·
              have H := iteF (of_decide_eq_false hb) H
              rw [hb] at hF
              clear hb
              refine qs_w hF (wanted_y hF rfl rfl rfl rfl) rfl (Nat.le_of_ble_eq_true rfl) ((y_move hF rfl).q) (fun a hF => ?_)
              refine qs_w hF (wanted_y hF rfl rfl rfl rfl) rfl (Nat.le_of_ble_eq_true rfl) ((y_fieldAddr Tryd.underlying24 rfl rfl rfl T22 hF rfl 5 rfl).q) (fun a hF => ?_)
              obtain ⟨x4, h2, H⟩ := bindE H
              refine qs_w hF (wanted_y hF rfl rfl rfl rfl) rfl (Nat.le_of_ble_eq_true rfl) ((y_indexP (5 + (x1).toNat * 1) Ar22 hF rfl rfl rfl h2 rfl).q) (fun a hF => ?_)
              refine qs_w hF (wanted_y hF rfl rfl rfl rfl) rfl (Nat.le_of_ble_eq_true rfl) ((y_load (v := Value.int .i64 x4) 0 hF rfl rfl T3 (rdv_dyn (base := 5) (m := 4) (l := [p0.2.2.1, p0.2.2.2.1, p0.2.2.2.2.1, p0.2.2.2.2.2]) (enc := Value.int .i64) rfl h2)).q) (fun a hF => ?_)
              refine qs_w hF (wanted_y hF rfl rfl rfl rfl) rfl (Nat.le_of_ble_eq_true rfl) ((y_move hF rfl).q) (fun a hF => ?_)
              refine qs_w hF (wanted_y hF rfl rfl rfl rfl) rfl (Nat.le_of_ble_eq_true rfl) (y_call (v := Value.int .i64 (r07_Top x1)) hF H35 rfl (fun w hW => r07_Top_c any w x1 _ rfl)) (fun a hF => ?_)
              refine qs_w hF (wanted_y hF rfl rfl rfl rfl) rfl (Nat.le_of_ble_eq_true rfl) ((y_gtr hF rfl rfl).q) (fun a hF => ?_)
              refine qs hF rfl ((y_pick_f hF rfl rfl rfl).q) (fun a hF => ?_)
              refine qs hF rfl ((y_move hF rfl).q) (fun a hF => ?_)
              rcases Bool.eq_false_or_eq_true (decide ((r07_Top x1) < x4)) with hb | hb
              ·
                have H := iteT (of_decide_eq_true hb) H
                rw [hb] at hF
                clear hb
                refine qs_skip hF (wanted_n hF rfl rfl rfl rfl rfl) rfl rfl (fun a hF => ?_)
                refine qs_skip hF (wanted_n hF rfl rfl rfl rfl rfl) rfl rfl (fun a hF => ?_)
                refine qs_skip hF (wanted_n hF rfl rfl rfl rfl rfl) rfl rfl (fun a hF => ?_)
                refine qs_skip hF (wanted_n hF rfl rfl rfl rfl rfl) rfl rfl (fun a hF => ?_)
                refine qs_skip hF (wanted_n hF rfl rfl rfl rfl rfl) rfl rfl (fun a hF => ?_)
                refine qs hF rfl ((y_pick_t hF rfl rfl rfl).q) (fun a hF => ?_)
                refine qs hF rfl ((y_move hF rfl).q) (fun a hF => ?_)
                refine qs_skip hF (wanted_n hF rfl rfl rfl rfl rfl) rfl rfl (fun a hF => ?_)
                refine qs_skip hF (wanted_n hF rfl rfl rfl rfl rfl) rfl rfl (fun a hF => ?_)
                refine qs_skip hF (wanted_n hF rfl rfl rfl rfl rfl) rfl rfl (fun a hF => ?_)
                refine qs_skip hF (wanted_n hF rfl rfl rfl rfl rfl) rfl rfl (fun a hF => ?_)
                refine qs_skip hF (wanted_n hF rfl rfl rfl rfl rfl) rfl rfl (fun a hF => ?_)
                refine qs_skip hF (wanted_n hF rfl rfl rfl rfl rfl) rfl rfl (fun a hF => ?_)
                refine qs_skip hF (wanted_n hF rfl rfl rfl rfl rfl) rfl rfl (fun a hF => ?_)
                refine qs hF rfl ((y_pick_t hF rfl rfl rfl).q) (fun a hF => ?_)
                refine quiet_end (fun w hW => ?_)
                refine c_then ?_
                exact ⟨_, H, hF.re ⟨rfl, rfl, rfl, rfl, trivial⟩, hW⟩
              ·
                have H := iteF (of_decide_eq_false hb) H
                rw [hb] at hF
                clear hb
                refine qs_w hF (wanted_y hF rfl rfl rfl rfl) rfl (Nat.le_of_ble_eq_true rfl) ((y_move hF rfl).q) (fun a hF => ?_)
                refine qs_w hF (wanted_y hF rfl rfl rfl rfl) rfl (Nat.le_of_ble_eq_true rfl) ((y_fieldAddr Tryd.underlying24 rfl rfl rfl T22 hF rfl 1 rfl).q) (fun a hF => ?_)
                obtain ⟨x5, h3, H⟩ := bindE H
                refine qs_w hF (wanted_y hF rfl rfl rfl rfl) rfl (Nat.le_of_ble_eq_true rfl) ((y_indexP (1 + (x1).toNat * 1) Ar22 hF rfl rfl rfl h3 rfl).q) (fun a hF => ?_)
                refine qs_w hF (wanted_y hF rfl rfl rfl rfl) rfl (Nat.le_of_ble_eq_true rfl) ((y_load (v := Value.int .i64 x5) 0 hF rfl rfl T3 (rdv_dyn (base := 1) (m := 4) (l := [p0.2.1.1, p0.2.1.2.1, p0.2.1.2.2.1, p0.2.1.2.2.2]) (enc := Value.int .i64) rfl h3)).q) (fun a hF => ?_)
                refine qs_w hF (wanted_y hF rfl rfl rfl rfl) rfl (Nat.le_of_ble_eq_true rfl) ((y_lss hF rfl rfl).q) (fun a hF => ?_)
                refine qs hF rfl ((y_pick_f hF rfl rfl rfl).q) (fun a hF => ?_)
                refine qs hF rfl ((y_move hF rfl).q) (fun a hF => ?_)
                rcases Bool.eq_false_or_eq_true (decide (x5 < 0)) with hb | hb
                ·
                  have H := iteT (of_decide_eq_true hb) H
                  rw [hb] at hF
                  clear hb
                  refine qs_skip hF (wanted_n hF rfl rfl rfl rfl rfl) rfl rfl (fun a hF => ?_)
                  refine qs_skip hF (wanted_n hF rfl rfl rfl rfl rfl) rfl rfl (fun a hF => ?_)
                  refine qs_skip hF (wanted_n hF rfl rfl rfl rfl rfl) rfl rfl (fun a hF => ?_)
                  refine qs_skip hF (wanted_n hF rfl rfl rfl rfl rfl) rfl rfl (fun a hF => ?_)
                  refine qs_skip hF (wanted_n hF rfl rfl rfl rfl rfl) rfl rfl (fun a hF => ?_)
                  refine qs_skip hF (wanted_n hF rfl rfl rfl rfl rfl) rfl rfl (fun a hF => ?_)
                  refine qs_skip hF (wanted_n hF rfl rfl rfl rfl rfl) rfl rfl (fun a hF => ?_)
                  refine qs hF rfl ((y_pick_t hF rfl rfl rfl).q) (fun a hF => ?_)
                  refine quiet_end (fun w hW => ?_)
                  refine c_then ?_
                  exact ⟨_, H, hF.re ⟨rfl, rfl, rfl, rfl, trivial⟩, hW⟩
                ·
                  have H := iteF (of_decide_eq_false hb) H
                  rw [hb] at hF
                  clear hb
                  refine qs_w hF (wanted_y hF rfl rfl rfl rfl) rfl (Nat.le_of_ble_eq_true rfl) ((y_move hF rfl).q) (fun a hF => ?_)
                  refine qs_w hF (wanted_y hF rfl rfl rfl rfl) rfl (Nat.le_of_ble_eq_true rfl) ((y_fieldAddr Tryd.underlying24 rfl rfl rfl T22 hF rfl 1 rfl).q) (fun a hF => ?_)
                  obtain ⟨x6, h4, H⟩ := bindE H
                  refine qs_w hF (wanted_y hF rfl rfl rfl rfl) rfl (Nat.le_of_ble_eq_true rfl) ((y_indexP (1 + (x1).toNat * 1) Ar22 hF rfl rfl rfl h4 rfl).q) (fun a hF => ?_)
                  refine qs_w hF (wanted_y hF rfl rfl rfl rfl) rfl (Nat.le_of_ble_eq_true rfl) ((y_load (v := Value.int .i64 x6) 0 hF rfl rfl T3 (rdv_dyn (base := 1) (m := 4) (l := [p0.2.1.1, p0.2.1.2.1, p0.2.1.2.2.1, p0.2.1.2.2.2]) (enc := Value.int .i64) rfl h4)).q) (fun a hF => ?_)
                  refine qs_w hF (wanted_y hF rfl rfl rfl rfl) rfl (Nat.le_of_ble_eq_true rfl) ((y_move hF rfl).q) (fun a hF => ?_)
                  refine qs_w hF (wanted_y hF rfl rfl rfl rfl) rfl (Nat.le_of_ble_eq_true rfl) (y_call (v := Value.int .i64 (r07_Top x1)) hF H35 rfl (fun w hW => r07_Top_c any w x1 _ rfl)) (fun a hF => ?_)
                  refine qs_w hF (wanted_y hF rfl rfl rfl rfl) rfl (Nat.le_of_ble_eq_true rfl) ((y_gtr hF rfl rfl).q) (fun a hF => ?_)
                  refine qs hF rfl ((y_pick_f hF rfl rfl rfl).q) (fun a hF => ?_)
                  refine quiet_end (fun w hW => ?_)
                  refine c_then ?_
                  exact ⟨_, H, hF.re ⟨rfl, rfl, rfl, rfl, trivial⟩, hW⟩
          rintro a w ⟨x2, hj, hF, hW⟩
          have hj := Option.some.inj hj
          subst hj
          have H := K4
          clear G4 K4
          refine c_cond hF rfl (fun hb => ?_) (fun hb => ?_)
          ·
            have H := iteT hb H
            rw [hb] at hF
            clear hb
            refine c_seq ?_
            refine reg_list ?_
            refine ls hF hW rfl ((y_assign hF rfl).q) (fun a w hF hW => ?_)
            refine ls_nil ?_
            refine c_then ?_
            refine wp_ret ?_
            refine r_then ?_
            refine r_block ?_
            refine r_then ?_
            refine r_then ?_
            refine r_block ?_
            refine r_then ?_
            have H := L3 _ H
            have H := L2 _ H
            have H := L1 _ H
            have H := Option.some.inj H
            subst H
            refine post1 (.inl rfl) hF hW rfl (rv_tmp hF rfl) ?_
            exact ⟨rfl, hW.done⟩
          ·
            have H := iteF (by rw [hb]; decide) H
            rw [hb] at hF
            clear hb
            refine wp_skip ?_
            refine c_then ?_
            refine c_seq ?_
            refine reg_list ?_
            refine ls hF hW rfl ((y_assign hF rfl).q) (fun a w hF hW => ?_)
            refine ls_nil ?_
            refine c_then ?_
            refine wp_block ?_
            refine c_loopW H (fun s a w => Fr 64 [] [(1, .pointer (some ⟨b1, 0, none⟩)), (2, .bool false), (3, .int .i64 x1), (4, .int .i64 s)] a ∧ Stw ⟨Y, [], w0⟩ [(b1, [.int .i64 p0.1, .int .i64 p0.2.1.1, .int .i64 p0.2.1.2.1, .int .i64 p0.2.1.2.2.1, .int .i64 p0.2.1.2.2.2, .int .i64 p0.2.2.1, .int .i64 p0.2.2.2.1, .int .i64 p0.2.2.2.2.1, .int .i64 p0.2.2.2.2.2])] [] w) ⟨hF.re ⟨rfl, rfl, rfl, rfl, trivial⟩, hW⟩ (fun s o a w H L5 hR => ?_)
            obtain ⟨x7, rfl⟩ : ∃ x, x = s := ⟨s, rfl⟩
            obtain ⟨hF, hW⟩ := hR
            have hF : Fr 64 [] [(1, .pointer (some ⟨b1, 0, none⟩)), (2, .bool false), (3, .int .i64 x1), (4, .int .i64 x7)] a := hF
            have hW : Stw ⟨Y, [], w0⟩ [(b1, [.int .i64 p0.1, .int .i64 p0.2.1.1, .int .i64 p0.2.1.2.1, .int .i64 p0.2.1.2.2.1, .int .i64 p0.2.1.2.2.2, .int .i64 p0.2.2.1, .int .i64 p0.2.2.2.1, .int .i64 p0.2.2.2.2.1, .int .i64 p0.2.2.2.2.2])] [] w := hW
            rw [r08_Right_l2] at H
            refine c_seq ?_
            refine c_seq ?_
            refine reg_list ?_
            refine ls hF hW rfl ((y_move hF rfl).q) (fun a w hF hW => ?_)
            refine ls hF hW rfl ((y_lss hF rfl rfl).q) (fun a w hF hW => ?_)
            refine ls_nil ?_
            refine c_then ?_
            refine c_cond hF rfl (fun hb => ?_) (fun hb => ?_)
            ·
              have H := iteT (of_decide_eq_true hb) H
              rw [hb] at hF
              clear hb
              refine wp_skip ?_
              refine c_then ?_
              refine c_seq ?_
              refine wp_block ?_
              refine c_seq ?_
              refine reg_quiet hW MO (by kernel_rfl) ?_
              refine qs hF rfl ((y_move hF rfl).q) (fun a hF => ?_)
              refine qs hF rfl ((y_fieldAddr Tryd.underlying24 rfl rfl rfl T22 hF rfl 1 rfl).q) (fun a hF => ?_)
              obtain ⟨x8, h5, H⟩ := bindE H
              refine qs hF rfl ((y_indexP (1 + (x1).toNat * 1) Ar22 hF rfl rfl rfl h5 rfl).q) (fun a hF => ?_)
              refine qs hF rfl ((y_load (v := Value.int .i64 x8) 0 hF rfl rfl T3 (rdv_dyn (base := 1) (m := 4) (l := [p0.2.1.1, p0.2.1.2.1, p0.2.1.2.2.1, p0.2.1.2.2.2]) (enc := Value.int .i64) rfl h5)).q) (fun a hF => ?_)
              refine qs hF rfl ((y_move hF rfl).q) (fun a hF => ?_)
              obtain ⟨x9, h6, H⟩ := bindE H
              refine qs hF rfl (y_call (v := Value.int .i64 x9) hF H36 rfl (fun w hW => r08_Bit_c any w x8 x7 _ h6)) (fun a hF => ?_)
              refine qs hF rfl ((y_move hF rfl).q) (fun a hF => ?_)
              refine qs hF rfl ((y_fieldAddr Tryd.underlying24 rfl rfl rfl T22 hF rfl 5 rfl).q) (fun a hF => ?_)
              obtain ⟨x10, h7, H⟩ := bindE H
              refine qs hF rfl ((y_indexP (5 + (x1).toNat * 1) Ar22 hF rfl rfl rfl h7 rfl).q) (fun a hF => ?_)
              refine qs hF rfl ((y_load (v := Value.int .i64 x10) 0 hF rfl rfl T3 (rdv_dyn (base := 5) (m := 4) (l := [p0.2.2.1, p0.2.2.2.1, p0.2.2.2.2.1, p0.2.2.2.2.2]) (enc := Value.int .i64) rfl h7)).q) (fun a hF => ?_)
              refine qs hF rfl ((y_move hF rfl).q) (fun a hF => ?_)
              obtain ⟨x11, h8, H⟩ := bindE H
              refine qs hF rfl (y_call (v := Value.int .i64 x11) hF H36 rfl (fun w hW => r08_Bit_c any w x10 x7 _ h8)) (fun a hF => ?_)
              refine qs hF rfl ((y_gtr hF rfl rfl).q) (fun a hF => ?_)
              refine quiet_end (fun w hW => ?_)
              refine c_then ?_
              refine c_cond hF rfl (fun hb => ?_) (fun hb => ?_)
              ·
                have H := iteT (of_decide_eq_true hb) H
                rw [hb] at hF
                clear hb
                refine c_seq ?_
                refine reg_list ?_
                refine ls hF hW rfl ((y_assign hF rfl).q) (fun a w hF hW => ?_)
                refine ls_nil ?_
                refine c_then ?_
                refine wp_ret ?_
                refine r_block ?_
                refine r_then ?_
                refine r_then ?_
                refine r_block ?_
                refine r_block ?_
                refine r_then ?_
                refine r_then ?_
                refine r_block ?_
                refine r_then ?_
                have H := L5 _ H
                have H := L3 _ H
                have H := L2 _ H
                have H := L1 _ H
                have H := Option.some.inj H
                subst H
                refine post1 (.inl rfl) hF hW rfl (rv_tmp hF rfl) ?_
                exact ⟨rfl, hW.done⟩
              ·
                have H := iteF (of_decide_eq_false hb) H
                rw [hb] at hF
                clear hb
                refine wp_skip ?_
                refine b_normal ?_
                refine c_then ?_
                refine reg_list ?_
                refine ls hF hW rfl ((y_move hF rfl).q) (fun a w hF hW => ?_)
                refine ls hF hW rfl ((y_add hF rfl rfl rfl).q) (fun a w hF hW => ?_)
                refine ls hF hW rfl ((y_assign hF rfl).q) (fun a w hF hW => ?_)
                refine ls_nil ?_
                refine c_then ?_
                exact ⟨_, H, hF.re ⟨rfl, rfl, rfl, rfl, trivial⟩, hW⟩
            ·
              have H := iteF (of_decide_eq_false hb) H
              rw [hb] at hF
              clear hb
              refine wp_exit ?_
              refine e_then ?_
              refine e_then ?_
              refine e_block ?_
              refine b_normal ?_
              refine c_then ?_
              have H := L5 _ H
              exact ⟨H, hF.re ⟨rfl, rfl, rfl, trivial⟩, hW⟩
        rintro a w ⟨hj, hF, hW⟩
        have H := K3 _ hj
        clear hj G3 K3 L3
        refine reg_list ?_
        refine ls hF hW rfl ((y_move hF rfl).q) (fun a w hF hW => ?_)
        refine ls hF hW rfl ((y_add hF rfl rfl rfl).q) (fun a w hF hW => ?_)
        refine ls hF hW rfl ((y_assign hF rfl).q) (fun a w hF hW => ?_)
        refine ls_nil ?_
        refine c_then ?_
        exact ⟨_, H, hF.re ⟨rfl, rfl, rfl, trivial⟩, hW⟩
      ·
        have H := iteF (of_decide_eq_false hb) H
        rw [hb] at hF
        clear hb
        refine wp_exit ?_
        refine e_then ?_
        refine e_then ?_
        refine e_block ?_
        refine c_then ?_
        have H := L2 _ H
        exact ⟨H, hF.re ⟨rfl, trivial⟩, hW⟩
    rintro a w ⟨hj, hF, hW⟩
    have H := K1 _ hj
    clear hj G1 K1 L1
    refine c_seq ?_
    refine reg_list ?_
    refine ls hF hW rfl ((y_assign hF rfl).q) (fun a w hF hW => ?_)
    refine ls_nil ?_
    refine c_then ?_
    refine wp_ret ?_
    have H := Option.some.inj H
    subst H
    refine post1 (.inl rfl) hF hW rfl (rv_tmp hF rfl) ?_
    exact ⟨rfl, hW.done⟩

theorem H8 : Has Tryd.prog 8 := ⟨fun args w => run_callFunc_body Tryd.func8 rfl (by decide) args w⟩
theorem Z24 : (Tryd.prog.info? 24).bind (·.zero) = some (.agg #[.int .i64 0, .int .i64 0, .int .i64 0, .int .i64 0, .int .i64 0, .int .i64 0, .int .i64 0, .int .i64 0, .int .i64 0]) := by kernel_rfl
theorem B24 : Bt Tryd.prog 24 [.int .i64 0, .int .i64 0, .int .i64 0, .int .i64 0, .int .i64 0, .int .i64 0, .int .i64 0, .int .i64 0, .int .i64 0] [(0, 1), (1, 4), (5, 4)] := ⟨⟨.agg #[.int .i64 0, .int .i64 0, .int .i64 0, .int .i64 0, .int .i64 0, .int .i64 0, .int .i64 0, .int .i64 0, .int .i64 0], by kernel_rfl, rfl⟩, ⟨_, Tryd.underlying24, fun w => by kernel_rfl⟩⟩
def match_Any  : (Int × (Int × Int × Int × Int) × (Int × Int × Int × Int)) := ((-1), (0, 0, 0, 0), (0, 0, 0, 0))
theorem match_Any_c (Y : Nat → Prop) (w0 : World)   (r : (Int × (Int × Int × Int × Int) × (Int × Int × Int × Int))) (H : match_Any  = r)  :
    Calls Tryd.prog 11 #[] w0 fun e w' => e = .returned (.agg #[.int .i64 r.1, .int .i64 r.2.1.1, .int .i64 r.2.1.2.1, .int .i64 r.2.1.2.2.1, .int .i64 r.2.1.2.2.2, .int .i64 r.2.2.1, .int .i64 r.2.2.2.1, .int .i64 r.2.2.2.2.1, .int .i64 r.2.2.2.2.2]) ∧ Below w0.heap.size w0 w' := by
  refine enter Tryd.func11 rfl Tryd.ntmps11 rfl (fun a hF => ?_)
  have hW := Stw.start Y w0
  unfold match_Any at H
  refine c_seq ?_
  refine reg_list ?_
  refine l_alloc (cs := [.int .i64 0, .int .i64 0, .int .i64 0, .int .i64 0, .int .i64 0, .int .i64 0, .int .i64 0, .int .i64 0, .int .i64 0]) hF hW rfl Z24 rfl (fun b1 a w hF hW => ?_)
  refine ls_nil ?_
  refine c_then ?_
  refine c_seq ?_
  refine reg_list ?_
  refine ls hF hW rfl ((y_build (v := Value.agg #[.int .i64 (-1), .int .i64 0, .int .i64 0, .int .i64 0, .int .i64 0, .int .i64 0, .int .i64 0, .int .i64 0, .int .i64 0]) B24 hF rfl rfl rfl).q) (fun a w hF hW => ?_)
  refine l_store (vs := [.int .i64 (-1), .int .i64 0, .int .i64 0, .int .i64 0, .int .i64 0, .int .i64 0, .int .i64 0, .int .i64 0, .int .i64 0]) (M' := [(b1, [.int .i64 (-1), .int .i64 0, .int .i64 0, .int .i64 0, .int .i64 0, .int .i64 0, .int .i64 0, .int .i64 0, .int .i64 0])]) 0 hF hW rfl rfl rfl T24 rfl rfl rfl rfl rfl (fun w hW => ?_)
  refine ls_nil ?_
  refine c_then ?_
  refine wp_ret ?_
  subst H
  refine post1 (.inl rfl) hF hW rfl (rv_cell 0 hF rfl rfl T24 rfl) ?_
  exact ⟨rfl, hW.done⟩

theorem H11 : Has Tryd.prog 11 := ⟨fun args w => run_callFunc_body Tryd.func11 rfl (by decide) args w⟩
noncomputable def match_Of (p0 : Int) (p1 : Int) : Option (Int × (Int × Int × Int × Int) × (Int × Int × Int × Int)) := (if p0 < 0 then some true else (if 4 ≤ p0 then some true else (if p1 < 0 then some true else (packet_Top p0).bind fun x2 => some (decide (x2 < p1))))).bind fun x1 => (if x1 = true then some match_Any else (ix ([match_Any.2.1.1, match_Any.2.1.2.1, match_Any.2.1.2.2.1, match_Any.2.1.2.2.2] : List Int) p0).bind fun x3 => (packet_Top p0).bind fun x4 => (ix ([match_Any.2.2.1, match_Any.2.2.2.1, match_Any.2.2.2.2.1, match_Any.2.2.2.2.2] : List Int) p0).bind fun x5 => some (match_Any.1, ((if p0 = 0 then p1 else match_Any.2.1.1), (if p0 = 1 then p1 else match_Any.2.1.2.1), (if p0 = 2 then p1 else match_Any.2.1.2.2.1), (if p0 = 3 then p1 else match_Any.2.1.2.2.2)), ((if p0 = 0 then x4 else match_Any.2.2.1), (if p0 = 1 then x4 else match_Any.2.2.2.1), (if p0 = 2 then x4 else match_Any.2.2.2.2.1), (if p0 = 3 then x4 else match_Any.2.2.2.2.2))))
theorem match_Of_c (Y : Nat → Prop) (w0 : World)  (p0 : Int) (p1 : Int) (r : (Int × (Int × Int × Int × Int) × (Int × Int × Int × Int))) (H : match_Of p0 p1 = some r)  :
    Calls Tryd.prog 9 #[.int .i64 p0, .int .i64 p1] w0 fun e w' => e = .returned (.agg #[.int .i64 r.1, .int .i64 r.2.1.1, .int .i64 r.2.1.2.1, .int .i64 r.2.1.2.2.1, .int .i64 r.2.1.2.2.2, .int .i64 r.2.2.1, .int .i64 r.2.2.2.1, .int .i64 r.2.2.2.2.1, .int .i64 r.2.2.2.2.2]) ∧ Below w0.heap.size w0 w' := by
  refine enter Tryd.func9 rfl Tryd.ntmps9 rfl (fun a hF => ?_)
  have hW := Stw.start Y w0
  unfold match_Of at H
  refine c_seq ?_
  refine reg_list ?_
  refine l_alloc (cs := [.int .i64 0, .int .i64 0, .int .i64 0, .int .i64 0, .int .i64 0, .int .i64 0, .int .i64 0, .int .i64 0, .int .i64 0]) hF hW rfl Z24 rfl (fun b1 a w hF hW => ?_)
  refine ls_nil ?_
  refine c_then ?_
  refine c_seq ?_
  refine reg_list ?_
  refine ls hF hW rfl (y_call (v := Value.agg #[.int .i64 match_Any.1, .int .i64 match_Any.2.1.1, .int .i64 match_Any.2.1.2.1, .int .i64 match_Any.2.1.2.2.1, .int .i64 match_Any.2.1.2.2.2, .int .i64 match_Any.2.2.1, .int .i64 match_Any.2.2.2.1, .int .i64 match_Any.2.2.2.2.1, .int .i64 match_Any.2.2.2.2.2]) hF H11 rfl (fun w hW => match_Any_c any w _ rfl)) (fun a w hF hW => ?_)
  refine l_alloc (cs := [.int .i64 0, .int .i64 0, .int .i64 0, .int .i64 0, .int .i64 0, .int .i64 0, .int .i64 0, .int .i64 0, .int .i64 0]) hF hW rfl Z24 rfl (fun b2 a w hF hW => ?_)
  refine l_store (vs := [.int .i64 match_Any.1, .int .i64 match_Any.2.1.1, .int .i64 match_Any.2.1.2.1, .int .i64 match_Any.2.1.2.2.1, .int .i64 match_Any.2.1.2.2.2, .int .i64 match_Any.2.2.1, .int .i64 match_Any.2.2.2.1, .int .i64 match_Any.2.2.2.2.1, .int .i64 match_Any.2.2.2.2.2]) (M' := [(b2, [.int .i64 match_Any.1, .int .i64 match_Any.2.1.1, .int .i64 match_Any.2.1.2.1, .int .i64 match_Any.2.1.2.2.1, .int .i64 match_Any.2.1.2.2.2, .int .i64 match_Any.2.2.1, .int .i64 match_Any.2.2.2.1, .int .i64 match_Any.2.2.2.2.1, .int .i64 match_Any.2.2.2.2.2]), (b1, [.int .i64 0, .int .i64 0, .int .i64 0, .int .i64 0, .int .i64 0, .int .i64 0, .int .i64 0, .int .i64 0, .int .i64 0])]) 0 hF hW rfl rfl rfl T24 rfl rfl rfl rfl rfl (fun w hW => ?_)
  refine ls_nil ?_
  refine c_then ?_
  refine c_seq ?_
  obtain ⟨o1, G1, K1⟩ := bindE H
  refine c_seqJ (fun a w => ∃ x1 : Bool, some (x1) = some o1 ∧ Fr 34 [] [(0, .int .i64 p0), (1, .int .i64 p1), (4, .pointer (some ⟨b1, 0, none⟩)), (5, .pointer (some ⟨b2, 0, none⟩)), (22, .bool x1)] a ∧ Stw ⟨Y, [], w0⟩ [(b2, [.int .i64 match_Any.1, .int .i64 match_Any.2.1.1, .int .i64 match_Any.2.1.2.1, .int .i64 match_Any.2.1.2.2.1, .int .i64 match_Any.2.1.2.2.2, .int .i64 match_Any.2.2.1, .int .i64 match_Any.2.2.2.1, .int .i64 match_Any.2.2.2.2.1, .int .i64 match_Any.2.2.2.2.2]), (b1, [.int .i64 0, .int .i64 0, .int .i64 0, .int .i64 0, .int .i64 0, .int .i64 0, .int .i64 0, .int .i64 0, .int .i64 0])] [] w) ?_ ?_
  ·
    have H := G1
    clear G1 K1
    refine reg_list ?_
    refine ls hF hW rfl ((y_move hF rfl).q) (fun a w hF hW => ?_)
    refine ls hF hW rfl ((y_lss hF rfl rfl).q) (fun a w hF hW => ?_)
    refine ls hF hW rfl ((y_move hF rfl).q) (fun a w hF hW => ?_)
    rcases Bool.eq_false_or_eq_true (decide (p0 < 0)) with hb | hb
    ·
      have H := iteT (of_decide_eq_true hb) H
      rw [hb] at hF
      clear hb
      refine ls_skip hF (wanted_n hF rfl rfl rfl rfl rfl) rfl rfl (fun a hF => ?_)
      refine ls_skip hF (wanted_n hF rfl rfl rfl rfl rfl) rfl rfl (fun a hF => ?_)
      refine ls hF hW rfl ((y_pick_t hF rfl rfl rfl).q) (fun a w hF hW => ?_)
      refine ls hF hW rfl ((y_move hF rfl).q) (fun a w hF hW => ?_)
      refine ls_skip hF (wanted_n hF rfl rfl rfl rfl rfl) rfl rfl (fun a hF => ?_)
      refine ls_skip hF (wanted_n hF rfl rfl rfl rfl rfl) rfl rfl (fun a hF => ?_)
      refine ls hF hW rfl ((y_pick_t hF rfl rfl rfl).q) (fun a w hF hW => ?_)
      refine ls hF hW rfl ((y_move hF rfl).q) (fun a w hF hW => ?_)
      refine ls_skip hF (wanted_n hF rfl rfl rfl rfl rfl) rfl rfl (fun a hF => ?_)
      refine ls_skip hF (wanted_n hF rfl rfl rfl rfl rfl) rfl rfl (fun a hF => ?_)
      refine ls_skip hF (wanted_n hF rfl rfl rfl rfl rfl) rfl rfl (fun a hF => ?_)
      refine ls_skip hF (wanted_n hF rfl rfl rfl rfl rfl) rfl rfl (fun a hF => ?_)
      refine ls hF hW rfl ((y_pick_t hF rfl rfl rfl).q) (fun a w hF hW => ?_)
      refine ls_nil ?_
      refine c_then ?_
      have hW := hW.frontM (i := 1) rfl rfl
      have hW := hW.frontM (i := 1) rfl rfl
      exact ⟨_, H, hF.re ⟨rfl, rfl, rfl, rfl, rfl, trivial⟩, hW⟩
    ·
      have H := iteF (of_decide_eq_false hb) H
      rw [hb] at hF
      clear hb
      refine ls_w hF hW (wanted_y hF rfl rfl rfl rfl) rfl (Nat.le_of_ble_eq_true rfl) ((y_move hF rfl).q) (fun a w hF hW => ?_)
      refine ls_w hF hW (wanted_y hF rfl rfl rfl rfl) rfl (Nat.le_of_ble_eq_true rfl) ((y_geq hF rfl rfl).q) (fun a w hF hW => ?_)
      refine ls hF hW rfl ((y_pick_f hF rfl rfl rfl).q) (fun a w hF hW => ?_)
      refine ls hF hW rfl ((y_move hF rfl).q) (fun a w hF hW => ?_)
      rcases Bool.eq_false_or_eq_true (decide (4 ≤ p0)) with hb | hb
      ·
        have H := iteT (of_decide_eq_true hb) H
        rw [hb] at hF
        clear hb
        refine ls_skip hF (wanted_n hF rfl rfl rfl rfl rfl) rfl rfl (fun a hF => ?_)
        refine ls_skip hF (wanted_n hF rfl rfl rfl rfl rfl) rfl rfl (fun a hF => ?_)
        refine ls hF hW rfl ((y_pick_t hF rfl rfl rfl).q) (fun a w hF hW => ?_)
        refine ls hF hW rfl ((y_move hF rfl).q) (fun a w hF hW => ?_)
        refine ls_skip hF (wanted_n hF rfl rfl rfl rfl rfl) rfl rfl (fun a hF => ?_)
        refine ls_skip hF (wanted_n hF rfl rfl rfl rfl rfl) rfl rfl (fun a hF => ?_)
        refine ls_skip hF (wanted_n hF rfl rfl rfl rfl rfl) rfl rfl (fun a hF => ?_)
        refine ls_skip hF (wanted_n hF rfl rfl rfl rfl rfl) rfl rfl (fun a hF => ?_)
        refine ls hF hW rfl ((y_pick_t hF rfl rfl rfl).q) (fun a w hF hW => ?_)
        refine ls_nil ?_
        refine c_then ?_
        have hW := hW.frontM (i := 1) rfl rfl
        have hW := hW.frontM (i := 1) rfl rfl
        exact ⟨_, H, hF.re ⟨rfl, rfl, rfl, rfl, rfl, trivial⟩, hW⟩
      ·
        have H := iteF (of_decide_eq_false hb) H
        rw [hb] at hF
        clear hb
        refine ls_w hF hW (wanted_y hF rfl rfl rfl rfl) rfl (Nat.le_of_ble_eq_true rfl) ((y_move hF rfl).q) (fun a w hF hW => ?_)
        refine ls_w hF hW (wanted_y hF rfl rfl rfl rfl) rfl (Nat.le_of_ble_eq_true rfl) ((y_lss hF rfl rfl).q) (fun a w hF hW => ?_)
        refine ls hF hW rfl ((y_pick_f hF rfl rfl rfl).q) (fun a w hF hW => ?_)
        refine ls hF hW rfl ((y_move hF rfl).q) (fun a w hF hW => ?_)
        rcases Bool.eq_false_or_eq_true (decide (p1 < 0)) with hb | hb
        ·
          have H := iteT (of_decide_eq_true hb) H
          rw [hb] at hF
          clear hb
          refine ls_skip hF (wanted_n hF rfl rfl rfl rfl rfl) rfl rfl (fun a hF => ?_)
          refine ls_skip hF (wanted_n hF rfl rfl rfl rfl rfl) rfl rfl (fun a hF => ?_)
          refine ls_skip hF (wanted_n hF rfl rfl rfl rfl rfl) rfl rfl (fun a hF => ?_)
          refine ls_skip hF (wanted_n hF rfl rfl rfl rfl rfl) rfl rfl (fun a hF => ?_)
          refine ls hF hW rfl ((y_pick_t hF rfl rfl rfl).q) (fun a w hF hW => ?_)
          refine ls_nil ?_
          refine c_then ?_
          have hW := hW.frontM (i := 1) rfl rfl
          have hW := hW.frontM (i := 1) rfl rfl
          exact ⟨_, H, hF.re ⟨rfl, rfl, rfl, rfl, rfl, trivial⟩, hW⟩
        ·
          have H := iteF (of_decide_eq_false hb) H
          rw [hb] at hF
          clear hb
          refine ls_w hF hW (wanted_y hF rfl rfl rfl rfl) rfl (Nat.le_of_ble_eq_true rfl) ((y_move hF rfl).q) (fun a w hF hW => ?_)
          refine ls_w hF hW (wanted_y hF rfl rfl rfl rfl) rfl (Nat.le_of_ble_eq_true rfl) ((y_move hF rfl).q) (fun a w hF hW => ?_)
          refine ls_g (wanted_y hF rfl rfl rfl rfl) ?_
          obtain ⟨x2, h1, H⟩ := bindE H
          refine ls hF hW rfl (y_call (v := Value.int .i64 x2) hF H34 rfl (fun w hW => packet_Top_c any w p0 _ h1)) (fun a w hF hW => ?_)
          refine ls_w hF hW (wanted_y hF rfl rfl rfl rfl) rfl (Nat.le_of_ble_eq_true rfl) ((y_gtr hF rfl rfl).q) (fun a w hF hW => ?_)
          refine ls hF hW rfl ((y_pick_f hF rfl rfl rfl).q) (fun a w hF hW => ?_)
          refine ls_nil ?_
          refine c_then ?_
          have hW := hW.frontM (i := 1) rfl rfl
          have hW := hW.frontM (i := 1) rfl rfl
          exact ⟨_, H, hF.re ⟨rfl, rfl, rfl, rfl, rfl, trivial⟩, hW⟩
  rintro a w ⟨x1, hj, hF, hW⟩
  have hj := Option.some.inj hj
  subst hj
  have H := K1
  clear G1 K1
  refine c_cond hF rfl (fun hb => ?_) (fun hb => ?_)
  ·
    have H := iteT hb H
    rw [hb] at hF
    clear hb
    refine c_seq ?_
    refine reg_list ?_
    refine ls hF hW rfl ((y_load (v := Value.agg #[.int .i64 match_Any.1, .int .i64 match_Any.2.1.1, .int .i64 match_Any.2.1.2.1, .int .i64 match_Any.2.1.2.2.1, .int .i64 match_Any.2.1.2.2.2, .int .i64 match_Any.2.2.1, .int .i64 match_Any.2.2.2.1, .int .i64 match_Any.2.2.2.2.1, .int .i64 match_Any.2.2.2.2.2]) 0 hF rfl rfl T24 rfl).q) (fun a w hF hW => ?_)
    refine l_store (vs := [.int .i64 match_Any.1, .int .i64 match_Any.2.1.1, .int .i64 match_Any.2.1.2.1, .int .i64 match_Any.2.1.2.2.1, .int .i64 match_Any.2.1.2.2.2, .int .i64 match_Any.2.2.1, .int .i64 match_Any.2.2.2.1, .int .i64 match_Any.2.2.2.2.1, .int .i64 match_Any.2.2.2.2.2]) (M' := [(b2, [.int .i64 match_Any.1, .int .i64 match_Any.2.1.1, .int .i64 match_Any.2.1.2.1, .int .i64 match_Any.2.1.2.2.1, .int .i64 match_Any.2.1.2.2.2, .int .i64 match_Any.2.2.1, .int .i64 match_Any.2.2.2.1, .int .i64 match_Any.2.2.2.2.1, .int .i64 match_Any.2.2.2.2.2]), (b1, [.int .i64 match_Any.1, .int .i64 match_Any.2.1.1, .int .i64 match_Any.2.1.2.1, .int .i64 match_Any.2.1.2.2.1, .int .i64 match_Any.2.1.2.2.2, .int .i64 match_Any.2.2.1, .int .i64 match_Any.2.2.2.1, .int .i64 match_Any.2.2.2.2.1, .int .i64 match_Any.2.2.2.2.2])]) 1 hF hW rfl rfl rfl T24 rfl rfl rfl rfl rfl (fun w hW => ?_)
    refine ls_nil ?_
    refine c_then ?_
    refine wp_ret ?_
    refine r_then ?_
    have H := Option.some.inj H
    subst H
    refine post1 (.inl rfl) hF hW rfl (rv_cell 1 hF rfl rfl T24 rfl) ?_
    exact ⟨rfl, hW.done⟩
  ·
    have H := iteF (by rw [hb]; decide) H
    rw [hb] at hF
    clear hb
    refine wp_skip ?_
    refine c_then ?_
    refine c_seq ?_
    refine reg_plan [(true, 0), (true, 1), (true, 2), (true, 3), (true, 5), (true, 6), (true, 8), (false, 4), (false, 7), (true, 9), (false, 10)] (CN ⟨Y, [], w0⟩ [] []) (fun ch a d v w h => by cases d <;> exact h) MO (by kernel_rfl) hW (fun w hW => ⟨_, _, hW, all_nil, all_nil⟩) (fun w hW => ?_)
    refine pl_t (R := []) hF rfl rfl (yC fun M Z hN hZ => y_move hF rfl) rfl rfl (fun a hF => ?_)
    refine pl_t (R := []) hF rfl rfl (yC fun M Z hN hZ => y_move hF rfl) rfl rfl (fun a hF => ?_)
    refine pl_t (R := []) hF rfl rfl (yC fun M Z hN hZ => y_move hF rfl) rfl rfl (fun a hF => ?_)
    refine pl_t (R := []) hF rfl rfl (yC fun M Z hN hZ => y_move hF rfl) rfl rfl (fun a hF => ?_)
    refine pl_t (R := []) hF rfl rfl (yC fun M Z hN hZ => y_fieldAddr Tryd.underlying24 rfl rfl rfl T22 hF rfl 1 rfl) rfl rfl (fun a hF => ?_)
    obtain ⟨x3, h2, H⟩ := bindE H
    refine pl_t (R := []) hF rfl rfl (yC fun M Z hN hZ => y_indexP (1 + (p0).toNat * 1) Ar22 hF rfl rfl rfl h2 rfl) rfl rfl (fun a hF => ?_)
    refine pl_t (R := []) hF rfl rfl (yC fun M Z hN hZ => y_fieldAddr Tryd.underlying24 rfl rfl rfl T22 hF rfl 5 rfl) rfl rfl (fun a hF => ?_)
    refine pl_f rfl ?_
    obtain ⟨x4, h3, H⟩ := bindE H
    refine ls hF hW rfl (y_call (v := Value.int .i64 x4) hF H34 rfl (fun w hW => packet_Top_c any w p0 _ h3)) (fun a w hF hW => ?_)
    refine pl_next (N2 := []) (NZ2 := []) (N3 := []) (NZ3 := []) hW rfl rfl all_nil all_nil ?_
    refine pl_f rfl ?_
    refine l_store_dyn (o := 1) (m := 4) (i := p0) (l := ([match_Any.2.1.1, match_Any.2.1.2.1, match_Any.2.1.2.2.1, match_Any.2.1.2.2.2] : List Int)) (x := x3) (cs := [.int .i64 match_Any.1, .int .i64 match_Any.2.1.1, .int .i64 match_Any.2.1.2.1, .int .i64 match_Any.2.1.2.2.1, .int .i64 match_Any.2.1.2.2.2, .int .i64 match_Any.2.2.1, .int .i64 match_Any.2.2.2.1, .int .i64 match_Any.2.2.2.2.1, .int .i64 match_Any.2.2.2.2.2]) (cs' := [.int .i64 match_Any.1, .int .i64 (if p0 = 0 then p1 else match_Any.2.1.1), .int .i64 (if p0 = 1 then p1 else match_Any.2.1.2.1), .int .i64 (if p0 = 2 then p1 else match_Any.2.1.2.2.1), .int .i64 (if p0 = 3 then p1 else match_Any.2.1.2.2.2), .int .i64 match_Any.2.2.1, .int .i64 match_Any.2.2.2.1, .int .i64 match_Any.2.2.2.2.1, .int .i64 match_Any.2.2.2.2.2]) 0 hF hW rfl rfl rfl T3 rfl rfl rfl rfl h2 (by intro k hk hn; rw [hk]; match k, hn with | 0, _ => rfl | 1, _ => rfl | 2, _ => rfl | 3, _ => rfl | (z + 4), h => exact absurd h (by omega)) (fun w hW => ?_)
    have hW : Stw ⟨Y, [], w0⟩ [(b2, [.int .i64 match_Any.1, .int .i64 (if p0 = 0 then p1 else match_Any.2.1.1), .int .i64 (if p0 = 1 then p1 else match_Any.2.1.2.1), .int .i64 (if p0 = 2 then p1 else match_Any.2.1.2.2.1), .int .i64 (if p0 = 3 then p1 else match_Any.2.1.2.2.2), .int .i64 match_Any.2.2.1, .int .i64 match_Any.2.2.2.1, .int .i64 match_Any.2.2.2.2.1, .int .i64 match_Any.2.2.2.2.2]), (b1, [.int .i64 0, .int .i64 0, .int .i64 0, .int .i64 0, .int .i64 0, .int .i64 0, .int .i64 0, .int .i64 0, .int .i64 0])] [] w := hW
    refine pl_next (N2 := []) (NZ2 := []) (N3 := []) (NZ3 := []) hW rfl rfl all_nil all_nil ?_
    obtain ⟨x5, h4, H⟩ := bindE H
    refine pl_t (R := []) hF rfl rfl (yC fun M Z hN hZ => y_indexP (5 + (p0).toNat * 1) Ar22 hF rfl rfl rfl h4 rfl) rfl rfl (fun a hF => ?_)
    refine pl_f rfl ?_
    refine l_store_dyn (o := 5) (m := 4) (i := p0) (l := ([match_Any.2.2.1, match_Any.2.2.2.1, match_Any.2.2.2.2.1, match_Any.2.2.2.2.2] : List Int)) (x := x5) (cs := [.int .i64 match_Any.1, .int .i64 (if p0 = 0 then p1 else match_Any.2.1.1), .int .i64 (if p0 = 1 then p1 else match_Any.2.1.2.1), .int .i64 (if p0 = 2 then p1 else match_Any.2.1.2.2.1), .int .i64 (if p0 = 3 then p1 else match_Any.2.1.2.2.2), .int .i64 match_Any.2.2.1, .int .i64 match_Any.2.2.2.1, .int .i64 match_Any.2.2.2.2.1, .int .i64 match_Any.2.2.2.2.2]) (cs' := [.int .i64 match_Any.1, .int .i64 (if p0 = 0 then p1 else match_Any.2.1.1), .int .i64 (if p0 = 1 then p1 else match_Any.2.1.2.1), .int .i64 (if p0 = 2 then p1 else match_Any.2.1.2.2.1), .int .i64 (if p0 = 3 then p1 else match_Any.2.1.2.2.2), .int .i64 (if p0 = 0 then x4 else match_Any.2.2.1), .int .i64 (if p0 = 1 then x4 else match_Any.2.2.2.1), .int .i64 (if p0 = 2 then x4 else match_Any.2.2.2.2.1), .int .i64 (if p0 = 3 then x4 else match_Any.2.2.2.2.2)]) 0 hF hW rfl rfl rfl T3 rfl rfl rfl rfl h4 (by intro k hk hn; rw [hk]; match k, hn with | 0, _ => rfl | 1, _ => rfl | 2, _ => rfl | 3, _ => rfl | (z + 4), h => exact absurd h (by omega)) (fun w hW => ?_)
    have hW : Stw ⟨Y, [], w0⟩ [(b2, [.int .i64 match_Any.1, .int .i64 (if p0 = 0 then p1 else match_Any.2.1.1), .int .i64 (if p0 = 1 then p1 else match_Any.2.1.2.1), .int .i64 (if p0 = 2 then p1 else match_Any.2.1.2.2.1), .int .i64 (if p0 = 3 then p1 else match_Any.2.1.2.2.2), .int .i64 (if p0 = 0 then x4 else match_Any.2.2.1), .int .i64 (if p0 = 1 then x4 else match_Any.2.2.2.1), .int .i64 (if p0 = 2 then x4 else match_Any.2.2.2.2.1), .int .i64 (if p0 = 3 then x4 else match_Any.2.2.2.2.2)]), (b1, [.int .i64 0, .int .i64 0, .int .i64 0, .int .i64 0, .int .i64 0, .int .i64 0, .int .i64 0, .int .i64 0, .int .i64 0])] [] w := hW
    refine pl_next (N2 := []) (NZ2 := []) (N3 := []) (NZ3 := []) hW rfl rfl all_nil all_nil ?_
    refine pl_end ?_
    refine c_then ?_
    refine c_seq ?_
    refine reg_list ?_
    refine ls hF hW rfl ((y_load (v := Value.agg #[.int .i64 match_Any.1, .int .i64 (if p0 = 0 then p1 else match_Any.2.1.1), .int .i64 (if p0 = 1 then p1 else match_Any.2.1.2.1), .int .i64 (if p0 = 2 then p1 else match_Any.2.1.2.2.1), .int .i64 (if p0 = 3 then p1 else match_Any.2.1.2.2.2), .int .i64 (if p0 = 0 then x4 else match_Any.2.2.1), .int .i64 (if p0 = 1 then x4 else match_Any.2.2.2.1), .int .i64 (if p0 = 2 then x4 else match_Any.2.2.2.2.1), .int .i64 (if p0 = 3 then x4 else match_Any.2.2.2.2.2)]) 0 hF rfl rfl T24 rfl).q) (fun a w hF hW => ?_)
    refine l_store (vs := [.int .i64 match_Any.1, .int .i64 (if p0 = 0 then p1 else match_Any.2.1.1), .int .i64 (if p0 = 1 then p1 else match_Any.2.1.2.1), .int .i64 (if p0 = 2 then p1 else match_Any.2.1.2.2.1), .int .i64 (if p0 = 3 then p1 else match_Any.2.1.2.2.2), .int .i64 (if p0 = 0 then x4 else match_Any.2.2.1), .int .i64 (if p0 = 1 then x4 else match_Any.2.2.2.1), .int .i64 (if p0 = 2 then x4 else match_Any.2.2.2.2.1), .int .i64 (if p0 = 3 then x4 else match_Any.2.2.2.2.2)]) (M' := [(b2, [.int .i64 match_Any.1, .int .i64 (if p0 = 0 then p1 else match_Any.2.1.1), .int .i64 (if p0 = 1 then p1 else match_Any.2.1.2.1), .int .i64 (if p0 = 2 then p1 else match_Any.2.1.2.2.1), .int .i64 (if p0 = 3 then p1 else match_Any.2.1.2.2.2), .int .i64 (if p0 = 0 then x4 else match_Any.2.2.1), .int .i64 (if p0 = 1 then x4 else match_Any.2.2.2.1), .int .i64 (if p0 = 2 then x4 else match_Any.2.2.2.2.1), .int .i64 (if p0 = 3 then x4 else match_Any.2.2.2.2.2)]), (b1, [.int .i64 match_Any.1, .int .i64 (if p0 = 0 then p1 else match_Any.2.1.1), .int .i64 (if p0 = 1 then p1 else match_Any.2.1.2.1), .int .i64 (if p0 = 2 then p1 else match_Any.2.1.2.2.1), .int .i64 (if p0 = 3 then p1 else match_Any.2.1.2.2.2), .int .i64 (if p0 = 0 then x4 else match_Any.2.2.1), .int .i64 (if p0 = 1 then x4 else match_Any.2.2.2.1), .int .i64 (if p0 = 2 then x4 else match_Any.2.2.2.2.1), .int .i64 (if p0 = 3 then x4 else match_Any.2.2.2.2.2)])]) 1 hF hW rfl rfl rfl T24 rfl rfl rfl rfl rfl (fun w hW => ?_)
    refine ls_nil ?_
    refine c_then ?_
    refine wp_ret ?_
    have H := Option.some.inj H
    subst H
    refine post1 (.inl rfl) hF hW rfl (rv_cell 1 hF rfl rfl T24 rfl) ?_
    exact ⟨rfl, hW.done⟩

theorem H9 : Has Tryd.prog 9 := ⟨fun args w => run_callFunc_body Tryd.func9 rfl (by decide) args w⟩
noncomputable def r08_Of (p0 : Int) (p1 : Int) : Option (Int × (Int × Int × Int × Int) × (Int × Int × Int × Int)) := (if (decide (0 ≤ p0) && (decide (p0 < 4) && (decide (0 ≤ p1) && decide (p1 ≤ (r07_Top p0))))) = true then (ix ([0, 0, 0, 0] : List Int) p0).bind fun x9 => (ix ([0, 0, 0, 0] : List Int) p0).bind fun x10 => some ((if p0 = 0 then p1 else 0), (if p0 = 1 then p1 else 0), (if p0 = 2 then p1 else 0), (if p0 = 3 then p1 else 0), (if p0 = 0 then (r07_Top p0) else 0), (if p0 = 1 then (r07_Top p0) else 0), (if p0 = 2 then (r07_Top p0) else 0), (if p0 = 3 then (r07_Top p0) else 0)) else some (0, 0, 0, 0, 0, 0, 0, 0)).bind fun (x1, x2, x3, x4, x5, x6, x7, x8) => some ((-1), (x1, x2, x3, x4), (x5, x6, x7, x8))
theorem r08_Of_c (Y : Nat → Prop) (w0 : World)  (p0 : Int) (p1 : Int) (r : (Int × (Int × Int × Int × Int) × (Int × Int × Int × Int))) (H : r08_Of p0 p1 = some r)  :
    Calls Tryd.prog 10 #[.int .i64 p0, .int .i64 p1] w0 fun e w' => e = .returned (.agg #[.int .i64 r.1, .int .i64 r.2.1.1, .int .i64 r.2.1.2.1, .int .i64 r.2.1.2.2.1, .int .i64 r.2.1.2.2.2, .int .i64 r.2.2.1, .int .i64 r.2.2.2.1, .int .i64 r.2.2.2.2.1, .int .i64 r.2.2.2.2.2]) ∧ Below w0.heap.size w0 w' := by
  refine enter Tryd.func10 rfl Tryd.ntmps10 rfl (fun a hF => ?_)
  have hW := Stw.start Y w0
  unfold r08_Of at H
  refine c_seq ?_
  refine reg_list ?_
  refine l_alloc (cs := [.int .i64 0, .int .i64 0, .int .i64 0, .int .i64 0, .int .i64 0, .int .i64 0, .int .i64 0, .int .i64 0, .int .i64 0]) hF hW rfl Z24 rfl (fun b1 a w hF hW => ?_)
  refine ls_nil ?_
  refine c_then ?_
  refine c_seq ?_
  refine reg_list ?_
  refine ls hF hW rfl ((y_build (v := Value.agg #[.int .i64 (-1), .int .i64 0, .int .i64 0, .int .i64 0, .int .i64 0, .int .i64 0, .int .i64 0, .int .i64 0, .int .i64 0]) B24 hF rfl rfl rfl).q) (fun a w hF hW => ?_)
  refine l_alloc (cs := [.int .i64 0, .int .i64 0, .int .i64 0, .int .i64 0, .int .i64 0, .int .i64 0, .int .i64 0, .int .i64 0, .int .i64 0]) hF hW rfl Z24 rfl (fun b2 a w hF hW => ?_)
  refine l_store (vs := [.int .i64 (-1), .int .i64 0, .int .i64 0, .int .i64 0, .int .i64 0, .int .i64 0, .int .i64 0, .int .i64 0, .int .i64 0]) (M' := [(b2, [.int .i64 (-1), .int .i64 0, .int .i64 0, .int .i64 0, .int .i64 0, .int .i64 0, .int .i64 0, .int .i64 0, .int .i64 0]), (b1, [.int .i64 0, .int .i64 0, .int .i64 0, .int .i64 0, .int .i64 0, .int .i64 0, .int .i64 0, .int .i64 0, .int .i64 0])]) 0 hF hW rfl rfl rfl T24 rfl rfl rfl rfl rfl (fun w hW => ?_)
  refine ls_nil ?_
  refine c_then ?_
  obtain ⟨o1, G1, K1⟩ := bindE H
  refine c_seqJ (fun a w => ∃ x1 : Int, ∃ x2 : Int, ∃ x3 : Int, ∃ x4 : Int, ∃ x5 : Int, ∃ x6 : Int, ∃ x7 : Int, ∃ x8 : Int, some ((x1, x2, x3, x4, x5, x6, x7, x8)) = some o1 ∧ Fr 33 [] [(4, .pointer (some ⟨b1, 0, none⟩)), (5, .pointer (some ⟨b2, 0, none⟩))] a ∧ Stw ⟨Y, [], w0⟩ [(b2, [.int .i64 (-1), .int .i64 x1, .int .i64 x2, .int .i64 x3, .int .i64 x4, .int .i64 x5, .int .i64 x6, .int .i64 x7, .int .i64 x8]), (b1, [.int .i64 0, .int .i64 0, .int .i64 0, .int .i64 0, .int .i64 0, .int .i64 0, .int .i64 0, .int .i64 0, .int .i64 0])] [] w) ?_ ?_
  ·
    have H := G1
    clear G1 K1
    refine c_seqJ (fun a w => Fr 33 [] [(0, .int .i64 p0), (1, .int .i64 p1), (4, .pointer (some ⟨b1, 0, none⟩)), (5, .pointer (some ⟨b2, 0, none⟩)), (22, .bool (decide (0 ≤ p0) && (decide (p0 < 4) && (decide (0 ≤ p1) && decide (p1 ≤ (r07_Top p0))))))] a ∧ Stw ⟨Y, [], w0⟩ [(b2, [.int .i64 (-1), .int .i64 0, .int .i64 0, .int .i64 0, .int .i64 0, .int .i64 0, .int .i64 0, .int .i64 0, .int .i64 0]), (b1, [.int .i64 0, .int .i64 0, .int .i64 0, .int .i64 0, .int .i64 0, .int .i64 0, .int .i64 0, .int .i64 0, .int .i64 0])] [] w) ?_ ?_
    ·
      refine reg_list ?_
      refine ls hF hW rfl ((y_move hF rfl).q) (fun a w hF hW => ?_)
      refine ls hF hW rfl ((y_geq hF rfl rfl).q) (fun a w hF hW => ?_)
      refine ls hF hW rfl ((y_move hF rfl).q) (fun a w hF hW => ?_)
      rcases Bool.eq_false_or_eq_true (decide (0 ≤ p0)) with hb0 | hb0
      ·
        rw [hb0] at hF
        refine ls_w hF hW (wanted_y hF rfl rfl rfl rfl) rfl (Nat.le_of_ble_eq_true rfl) ((y_move hF rfl).q) (fun a w hF hW => ?_)
        refine ls_w hF hW (wanted_y hF rfl rfl rfl rfl) rfl (Nat.le_of_ble_eq_true rfl) ((y_lss hF rfl rfl).q) (fun a w hF hW => ?_)
        refine ls hF hW rfl ((y_pick_t hF rfl rfl rfl).q) (fun a w hF hW => ?_)
        refine ls hF hW rfl ((y_move hF rfl).q) (fun a w hF hW => ?_)
        rcases Bool.eq_false_or_eq_true (decide (p0 < 4)) with hb1 | hb1
        ·
          rw [hb1] at hF
          refine ls_w hF hW (wanted_y hF rfl rfl rfl rfl) rfl (Nat.le_of_ble_eq_true rfl) ((y_move hF rfl).q) (fun a w hF hW => ?_)
          refine ls_w hF hW (wanted_y hF rfl rfl rfl rfl) rfl (Nat.le_of_ble_eq_true rfl) ((y_geq hF rfl rfl).q) (fun a w hF hW => ?_)
          refine ls hF hW rfl ((y_pick_t hF rfl rfl rfl).q) (fun a w hF hW => ?_)
          refine ls hF hW rfl ((y_move hF rfl).q) (fun a w hF hW => ?_)
          rcases Bool.eq_false_or_eq_true (decide (0 ≤ p1)) with hb2 | hb2
          ·
            rw [hb2] at hF
            refine ls_w hF hW (wanted_y hF rfl rfl rfl rfl) rfl (Nat.le_of_ble_eq_true rfl) ((y_move hF rfl).q) (fun a w hF hW => ?_)
            refine ls_w hF hW (wanted_y hF rfl rfl rfl rfl) rfl (Nat.le_of_ble_eq_true rfl) ((y_move hF rfl).q) (fun a w hF hW => ?_)
            refine ls_g (wanted_y hF rfl rfl rfl rfl) ?_
            refine ls hF hW rfl (y_call (v := Value.int .i64 (r07_Top p0)) hF H35 rfl (fun w hW => r07_Top_c any w p0 _ rfl)) (fun a w hF hW => ?_)
            refine ls_w hF hW (wanted_y hF rfl rfl rfl rfl) rfl (Nat.le_of_ble_eq_true rfl) ((y_leq hF rfl rfl).q) (fun a w hF hW => ?_)
            refine ls hF hW rfl ((y_pick_t hF rfl rfl rfl).q) (fun a w hF hW => ?_)
            refine ls_nil ?_
            refine c_then ?_
            exact ⟨hF.re ⟨rfl, rfl, rfl, rfl, (by show some (Value.bool (decide (p1 ≤ (r07_Top p0)))) = some (Value.bool (decide (0 ≤ p0) && (decide (p0 < 4) && (decide (0 ≤ p1) && decide (p1 ≤ (r07_Top p0)))))); try rw [hb0]; try rw [hb1]; try rw [hb2]; all_goals simp only [Bool.not_true, Bool.not_false, Bool.true_and, Bool.false_and, Bool.true_or, Bool.false_or, Bool.and_true, Bool.or_false, cond_true, cond_false]), trivial⟩, hW⟩
          ·
            rw [hb2] at hF
            refine ls_skip hF (wanted_n hF rfl rfl rfl rfl rfl) rfl rfl (fun a hF => ?_)
            refine ls_skip hF (wanted_n hF rfl rfl rfl rfl rfl) rfl rfl (fun a hF => ?_)
            refine ls_skip hF (wanted_n hF rfl rfl rfl rfl rfl) rfl rfl (fun a hF => ?_)
            refine ls_skip hF (wanted_n hF rfl rfl rfl rfl rfl) rfl rfl (fun a hF => ?_)
            refine ls hF hW rfl ((y_pick_f hF rfl rfl rfl).q) (fun a w hF hW => ?_)
            refine ls_nil ?_
            refine c_then ?_
            exact ⟨hF.re ⟨rfl, rfl, rfl, rfl, (by show some (Value.bool false) = some (Value.bool (decide (0 ≤ p0) && (decide (p0 < 4) && (decide (0 ≤ p1) && decide (p1 ≤ (r07_Top p0)))))); try rw [hb0]; try rw [hb1]; try rw [hb2]; all_goals simp only [Bool.not_true, Bool.not_false, Bool.true_and, Bool.false_and, Bool.true_or, Bool.false_or, Bool.and_true, Bool.or_false, cond_true, cond_false]), trivial⟩, hW⟩
        ·
          rw [hb1] at hF
          refine ls_skip hF (wanted_n hF rfl rfl rfl rfl rfl) rfl rfl (fun a hF => ?_)
          refine ls_skip hF (wanted_n hF rfl rfl rfl rfl rfl) rfl rfl (fun a hF => ?_)
          refine ls hF hW rfl ((y_pick_f hF rfl rfl rfl).q) (fun a w hF hW => ?_)
          refine ls hF hW rfl ((y_move hF rfl).q) (fun a w hF hW => ?_)
          refine ls_skip hF (wanted_n hF rfl rfl rfl rfl rfl) rfl rfl (fun a hF => ?_)
          refine ls_skip hF (wanted_n hF rfl rfl rfl rfl rfl) rfl rfl (fun a hF => ?_)
          refine ls_skip hF (wanted_n hF rfl rfl rfl rfl rfl) rfl rfl (fun a hF => ?_)
          refine ls_skip hF (wanted_n hF rfl rfl rfl rfl rfl) rfl rfl (fun a hF => ?_)
          refine ls hF hW rfl ((y_pick_f hF rfl rfl rfl).q) (fun a w hF hW => ?_)
          refine ls_nil ?_
          refine c_then ?_
          exact ⟨hF.re ⟨rfl, rfl, rfl, rfl, (by show some (Value.bool false) = some (Value.bool (decide (0 ≤ p0) && (decide (p0 < 4) && (decide (0 ≤ p1) && decide (p1 ≤ (r07_Top p0)))))); try rw [hb0]; try rw [hb1]; all_goals simp only [Bool.not_true, Bool.not_false, Bool.true_and, Bool.false_and, Bool.true_or, Bool.false_or, Bool.and_true, Bool.or_false, cond_true, cond_false]), trivial⟩, hW⟩
      ·
        rw [hb0] at hF
        refine ls_skip hF (wanted_n hF rfl rfl rfl rfl rfl) rfl rfl (fun a hF => ?_)
        refine ls_skip hF (wanted_n hF rfl rfl rfl rfl rfl) rfl rfl (fun a hF => ?_)
        refine ls hF hW rfl ((y_pick_f hF rfl rfl rfl).q) (fun a w hF hW => ?_)
        refine ls hF hW rfl ((y_move hF rfl).q) (fun a w hF hW => ?_)
        refine ls_skip hF (wanted_n hF rfl rfl rfl rfl rfl) rfl rfl (fun a hF => ?_)
        refine ls_skip hF (wanted_n hF rfl rfl rfl rfl rfl) rfl rfl (fun a hF => ?_)
        refine ls hF hW rfl ((y_pick_f hF rfl rfl rfl).q) (fun a w hF hW => ?_)
        refine ls hF hW rfl ((y_move hF rfl).q) (fun a w hF hW => ?_)
        refine ls_skip hF (wanted_n hF rfl rfl rfl rfl rfl) rfl rfl (fun a hF => ?_)
        refine ls_skip hF (wanted_n hF rfl rfl rfl rfl rfl) rfl rfl (fun a hF => ?_)
        refine ls_skip hF (wanted_n hF rfl rfl rfl rfl rfl) rfl rfl (fun a hF => ?_)
        refine ls_skip hF (wanted_n hF rfl rfl rfl rfl rfl) rfl rfl (fun a hF => ?_)
        refine ls hF hW rfl ((y_pick_f hF rfl rfl rfl).q) (fun a w hF hW => ?_)
        refine ls_nil ?_
        refine c_then ?_
        exact ⟨hF.re ⟨rfl, rfl, rfl, rfl, (by show some (Value.bool false) = some (Value.bool (decide (0 ≤ p0) && (decide (p0 < 4) && (decide (0 ≤ p1) && decide (p1 ≤ (r07_Top p0)))))); try rw [hb0]; all_goals simp only [Bool.not_true, Bool.not_false, Bool.true_and, Bool.false_and, Bool.true_or, Bool.false_or, Bool.and_true, Bool.or_false, cond_true, cond_false]), trivial⟩, hW⟩
    rintro a w ⟨hF, hW⟩
    refine c_cond hF rfl (fun hb => ?_) (fun hb => ?_)
    ·
      have H := iteT hb H
      rw [hb] at hF
      clear hb
      refine c_seq ?_
      refine reg_list ?_
      refine ls hF hW rfl ((y_move hF rfl).q) (fun a w hF hW => ?_)
      refine ls hF hW rfl ((y_move hF rfl).q) (fun a w hF hW => ?_)
      refine ls hF hW rfl ((y_fieldAddr Tryd.underlying24 rfl rfl rfl T22 hF rfl 1 rfl).q) (fun a w hF hW => ?_)
      obtain ⟨x9, h1, H⟩ := bindE H
      refine ls hF hW rfl ((y_indexP (1 + (p0).toNat * 1) Ar22 hF rfl rfl rfl h1 rfl).q) (fun a w hF hW => ?_)
      refine l_store_dyn (o := 1) (m := 4) (i := p0) (l := ([0, 0, 0, 0] : List Int)) (x := x9) (cs := [.int .i64 (-1), .int .i64 0, .int .i64 0, .int .i64 0, .int .i64 0, .int .i64 0, .int .i64 0, .int .i64 0, .int .i64 0]) (cs' := [.int .i64 (-1), .int .i64 (if p0 = 0 then p1 else 0), .int .i64 (if p0 = 1 then p1 else 0), .int .i64 (if p0 = 2 then p1 else 0), .int .i64 (if p0 = 3 then p1 else 0), .int .i64 0, .int .i64 0, .int .i64 0, .int .i64 0]) 0 hF hW rfl rfl rfl T3 rfl rfl rfl rfl h1 (by intro k hk hn; rw [hk]; match k, hn with | 0, _ => rfl | 1, _ => rfl | 2, _ => rfl | 3, _ => rfl | (z + 4), h => exact absurd h (by omega)) (fun w hW => ?_)
      have hW : Stw ⟨Y, [], w0⟩ [(b2, [.int .i64 (-1), .int .i64 (if p0 = 0 then p1 else 0), .int .i64 (if p0 = 1 then p1 else 0), .int .i64 (if p0 = 2 then p1 else 0), .int .i64 (if p0 = 3 then p1 else 0), .int .i64 0, .int .i64 0, .int .i64 0, .int .i64 0]), (b1, [.int .i64 0, .int .i64 0, .int .i64 0, .int .i64 0, .int .i64 0, .int .i64 0, .int .i64 0, .int .i64 0, .int .i64 0])] [] w := hW
      refine ls_nil ?_
      refine c_then ?_
      refine reg_list ?_
      refine ls hF hW rfl ((y_move hF rfl).q) (fun a w hF hW => ?_)
      refine ls hF hW rfl ((y_move hF rfl).q) (fun a w hF hW => ?_)
      refine ls hF hW rfl (y_call (v := Value.int .i64 (r07_Top p0)) hF H35 rfl (fun w hW => r07_Top_c any w p0 _ rfl)) (fun a w hF hW => ?_)
      refine ls hF hW rfl ((y_fieldAddr Tryd.underlying24 rfl rfl rfl T22 hF rfl 5 rfl).q) (fun a w hF hW => ?_)
      obtain ⟨x10, h2, H⟩ := bindE H
      refine ls hF hW rfl ((y_indexP (5 + (p0).toNat * 1) Ar22 hF rfl rfl rfl h2 rfl).q) (fun a w hF hW => ?_)
      refine l_store_dyn (o := 5) (m := 4) (i := p0) (l := ([0, 0, 0, 0] : List Int)) (x := x10) (cs := [.int .i64 (-1), .int .i64 (if p0 = 0 then p1 else 0), .int .i64 (if p0 = 1 then p1 else 0), .int .i64 (if p0 = 2 then p1 else 0), .int .i64 (if p0 = 3 then p1 else 0), .int .i64 0, .int .i64 0, .int .i64 0, .int .i64 0]) (cs' := [.int .i64 (-1), .int .i64 (if p0 = 0 then p1 else 0), .int .i64 (if p0 = 1 then p1 else 0), .int .i64 (if p0 = 2 then p1 else 0), .int .i64 (if p0 = 3 then p1 else 0), .int .i64 (if p0 = 0 then (r07_Top p0) else 0), .int .i64 (if p0 = 1 then (r07_Top p0) else 0), .int .i64 (if p0 = 2 then (r07_Top p0) else 0), .int .i64 (if p0 = 3 then (r07_Top p0) else 0)]) 0 hF hW rfl rfl rfl T3 rfl rfl rfl rfl h2 (by intro k hk hn; rw [hk]; match k, hn with | 0, _ => rfl | 1, _ => rfl | 2, _ => rfl | 3, _ => rfl | (z + 4), h => exact absurd h (by omega)) (fun w hW => ?_)
      have hW : Stw ⟨Y, [], w0⟩ [(b2, [.int .i64 (-1), .int .i64 (if p0 = 0 then p1 else 0), .int .i64 (if p0 = 1 then p1 else 0), .int .i64 (if p0 = 2 then p1 else 0), .int .i64 (if p0 = 3 then p1 else 0), .int .i64 (if p0 = 0 then (r07_Top p0) else 0), .int .i64 (if p0 = 1 then (r07_Top p0) else 0), .int .i64 (if p0 = 2 then (r07_Top p0) else 0), .int .i64 (if p0 = 3 then (r07_Top p0) else 0)]), (b1, [.int .i64 0, .int .i64 0, .int .i64 0, .int .i64 0, .int .i64 0, .int .i64 0, .int .i64 0, .int .i64 0, .int .i64 0])] [] w := hW
      refine ls_nil ?_
      refine c_then ?_
      have hW := hW.frontM (i := 1) rfl rfl
      have hW := hW.frontM (i := 1) rfl rfl
      exact ⟨_, _, _, _, _, _, _, _, H, hF.re ⟨rfl, rfl, trivial⟩, hW⟩
    ·
      have H := iteF (by rw [hb]; decide) H
      rw [hb] at hF
      clear hb
      refine wp_skip ?_
      refine c_then ?_
      have hW := hW.frontM (i := 1) rfl rfl
      have hW := hW.frontM (i := 1) rfl rfl
      exact ⟨_, _, _, _, _, _, _, _, H, hF.re ⟨rfl, rfl, trivial⟩, hW⟩
  rintro a w ⟨x1, x2, x3, x4, x5, x6, x7, x8, hj, hF, hW⟩
  have hj := Option.some.inj hj
  subst hj
  have H := K1
  clear G1 K1
  refine c_seq ?_
  refine reg_list ?_
  refine ls hF hW rfl ((y_load (v := Value.agg #[.int .i64 (-1), .int .i64 x1, .int .i64 x2, .int .i64 x3, .int .i64 x4, .int .i64 x5, .int .i64 x6, .int .i64 x7, .int .i64 x8]) 0 hF rfl rfl T24 rfl).q) (fun a w hF hW => ?_)
  refine l_store (vs := [.int .i64 (-1), .int .i64 x1, .int .i64 x2, .int .i64 x3, .int .i64 x4, .int .i64 x5, .int .i64 x6, .int .i64 x7, .int .i64 x8]) (M' := [(b2, [.int .i64 (-1), .int .i64 x1, .int .i64 x2, .int .i64 x3, .int .i64 x4, .int .i64 x5, .int .i64 x6, .int .i64 x7, .int .i64 x8]), (b1, [.int .i64 (-1), .int .i64 x1, .int .i64 x2, .int .i64 x3, .int .i64 x4, .int .i64 x5, .int .i64 x6, .int .i64 x7, .int .i64 x8])]) 1 hF hW rfl rfl rfl T24 rfl rfl rfl rfl rfl (fun w hW => ?_)
  refine ls_nil ?_
  refine c_then ?_
  refine wp_ret ?_
  have H := Option.some.inj H
  subst H
  refine post1 (.inl rfl) hF hW rfl (rv_cell 1 hF rfl rfl T24 rfl) ?_
  exact ⟨rfl, hW.done⟩

theorem H10 : Has Tryd.prog 10 := ⟨fun args w => run_callFunc_body Tryd.func10 rfl (by decide) args w⟩
theorem QA22 (d : Nat) (x0 x1 x2 x3 y0 y1 y2 y3 : Int) (w : World) : (Op.equalIn (d + 2) 22 (.agg #[.int .i64 x0, .int .i64 x1, .int .i64 x2, .int .i64 x3]) (.agg #[.int .i64 y0, .int .i64 y1, .int .i64 y2, .int .i64 y3])).run Tryd.prog w = .ok (decide (x0 = y0 ∧ x1 = y1 ∧ x2 = y2 ∧ x3 = y3)) w :=
  (eq_arr (d := d) (k := .i64) Ar22 Tryd.underlying3 T3 [x0, x1, x2, x3] [y0, y1, y2, y3] rfl rfl w).trans (by congr 1; exact decide_eq_decide.2 (by simp))
theorem QD24 (dd : Nat) (x0 : Int) (x1 : Int) (x2 : Int) (x3 : Int) (x4 : Int) (x5 : Int) (x6 : Int) (x7 : Int) (x8 : Int) (y0 : Int) (y1 : Int) (y2 : Int) (y3 : Int) (y4 : Int) (y5 : Int) (y6 : Int) (y7 : Int) (y8 : Int) (w : World) : (Op.equalIn (dd + 3) 24 (.agg #[.int .i64 x0, .int .i64 x1, .int .i64 x2, .int .i64 x3, .int .i64 x4, .int .i64 x5, .int .i64 x6, .int .i64 x7, .int .i64 x8]) (.agg #[.int .i64 y0, .int .i64 y1, .int .i64 y2, .int .i64 y3, .int .i64 y4, .int .i64 y5, .int .i64 y6, .int .i64 y7, .int .i64 y8])).run Tryd.prog w = .ok (decide (x0 = y0 ∧ x1 = y1 ∧ x2 = y2 ∧ x3 = y3 ∧ x4 = y4 ∧ x5 = y5 ∧ x6 = y6 ∧ x7 = y7 ∧ x8 = y8)) w :=
  eq_struct (d := dd + 2) (rs := [decide (x0 = y0), decide (x1 = y1 ∧ x2 = y2 ∧ x3 = y3 ∧ x4 = y4), decide (x5 = y5 ∧ x6 = y6 ∧ x7 = y7 ∧ x8 = y8)]) Tryd.underlying24 (by kernel_rfl) ⟨rfl, fld_int (d := dd + 1) rfl rfl Tryd.underlying3 T3 rfl rfl, rfl, fld_agg (d := dd + 2) (sz := 4) (xs' := [.int .i64 x1, .int .i64 x2, .int .i64 x3, .int .i64 x4]) (ys' := [.int .i64 y1, .int .i64 y2, .int .i64 y3, .int .i64 y4]) rfl rfl T22 rfl rfl (fun w => QA22 (dd + 0) x1 x2 x3 x4 y1 y2 y3 y4 w), rfl, fld_agg (d := dd + 2) (sz := 4) (xs' := [.int .i64 x5, .int .i64 x6, .int .i64 x7, .int .i64 x8]) (ys' := [.int .i64 y5, .int .i64 y6, .int .i64 y7, .int .i64 y8]) rfl rfl T22 rfl rfl (fun w => QA22 (dd + 0) x5 x6 x7 x8 y5 y6 y7 y8 w), trivial⟩ (by rw [Bool.eq_iff_iff]; simp [and_assoc]) w
theorem G24 : Tryd.prog.eqGuardType Tryd.prog.depth 24 = false := by kernel_rfl
theorem Q24 (x0 : Int) (x1 : Int) (x2 : Int) (x3 : Int) (x4 : Int) (x5 : Int) (x6 : Int) (x7 : Int) (x8 : Int) (y0 : Int) (y1 : Int) (y2 : Int) (y3 : Int) (y4 : Int) (y5 : Int) (y6 : Int) (y7 : Int) (y8 : Int) (w : World) : (Op.equalIn 10000 24 (.agg #[.int .i64 x0, .int .i64 x1, .int .i64 x2, .int .i64 x3, .int .i64 x4, .int .i64 x5, .int .i64 x6, .int .i64 x7, .int .i64 x8]) (.agg #[.int .i64 y0, .int .i64 y1, .int .i64 y2, .int .i64 y3, .int .i64 y4, .int .i64 y5, .int .i64 y6, .int .i64 y7, .int .i64 y8])).run Tryd.prog w = .ok (decide (x0 = y0 ∧ x1 = y1 ∧ x2 = y2 ∧ x3 = y3 ∧ x4 = y4 ∧ x5 = y5 ∧ x6 = y6 ∧ x7 = y7 ∧ x8 = y8)) w := QD24 9997 x0 x1 x2 x3 x4 x5 x6 x7 x8 y0 y1 y2 y3 y4 y5 y6 y7 y8 w
theorem T25 : Ty Tryd.prog 25 true 4 := ⟨by kernel_rfl, by kernel_rfl⟩
theorem Ar25 : Ar Tryd.prog 25 4 3 1 := ⟨Tryd.underlying25, by kernel_rfl⟩
noncomputable def r07_Right_l1 (p0 : Int × Int × Int × Int) : Int → Option (Int ⊕ (Unit ⊕ Bool))
  | x1 => (if x1 < 4 then ((ix ([p0.1, p0.2.1, p0.2.2.1, p0.2.2.2] : List Int) x1).bind fun x3 => (if x3 < 0 then some true else (ix ([p0.1, p0.2.1, p0.2.2.1, p0.2.2.2] : List Int) x1).bind fun x4 => some (decide ((r07_Top x1) < x4)))).bind fun x2 => (if x2 = true then some (.inr (.inr false)) else some (.inl (w64 (x1 + 1)))) else some (.inr (.inl ())))
noncomputable def r07_Right (p0 : Int × Int × Int × Int) : Option Bool := orR (loopW (r07_Right_l1 p0) 0) fun _ => some true
theorem r07_Right_c (Y : Nat → Prop) (w0 : World)  (p0 : Int × Int × Int × Int) (r : Bool) (H : r07_Right p0 = some r)  :
    Calls Tryd.prog 12 #[.agg #[.int .i64 p0.1, .int .i64 p0.2.1, .int .i64 p0.2.2.1, .int .i64 p0.2.2.2]] w0 fun e w' => e = .returned (.bool r) ∧ Below w0.heap.size w0 w' := by
  refine enter Tryd.func12 rfl Tryd.ntmps12 rfl (fun a hF => ?_)
  have hW := Stw.start Y w0
  unfold r07_Right at H
  refine c_seq ?_
  refine reg_list ?_
  refine l_box (cs := [.int .i64 p0.1, .int .i64 p0.2.1, .int .i64 p0.2.2.1, .int .i64 p0.2.2.2]) hF hW rfl rfl rfl (fun b1 a w hF hW => ?_)
  refine ls hF hW rfl ((y_assign hF rfl).q) (fun a w hF hW => ?_)
  refine ls_nil ?_
  refine c_then ?_
  obtain ⟨o1, G1, K1, L1⟩ := orE H
  refine c_seqJ (fun a w => some (Sum.inl ()) = some o1 ∧ Fr 20 [] [(2, .bool false)] a ∧ Stw ⟨Y, [], w0⟩ [(b1, [.int .i64 p0.1, .int .i64 p0.2.1, .int .i64 p0.2.2.1, .int .i64 p0.2.2.2])] [] w) ?_ ?_
  ·
    have H := G1
    clear G1 K1
    refine c_seq ?_
    refine reg_list ?_
    refine ls hF hW rfl ((y_assign hF rfl).q) (fun a w hF hW => ?_)
    refine ls_nil ?_
    refine c_then ?_
    refine wp_block ?_
    refine c_loopW H (fun s a w => Fr 20 [] [(1, .pointer (some ⟨b1, 0, none⟩)), (2, .bool false), (3, .int .i64 s)] a ∧ Stw ⟨Y, [], w0⟩ [(b1, [.int .i64 p0.1, .int .i64 p0.2.1, .int .i64 p0.2.2.1, .int .i64 p0.2.2.2])] [] w) ⟨hF.re ⟨rfl, rfl, rfl, trivial⟩, hW⟩ (fun s o a w H L2 hR => ?_)
    obtain ⟨x1, rfl⟩ : ∃ x, x = s := ⟨s, rfl⟩
    obtain ⟨hF, hW⟩ := hR
    have hF : Fr 20 [] [(1, .pointer (some ⟨b1, 0, none⟩)), (2, .bool false), (3, .int .i64 x1)] a := hF
    have hW : Stw ⟨Y, [], w0⟩ [(b1, [.int .i64 p0.1, .int .i64 p0.2.1, .int .i64 p0.2.2.1, .int .i64 p0.2.2.2])] [] w := hW
    rw [r07_Right_l1] at H
    refine c_seq ?_
    refine c_seq ?_
    refine reg_list ?_
    refine ls hF hW rfl ((y_move hF rfl).q) (fun a w hF hW => ?_)
    refine ls hF hW rfl ((y_lss hF rfl rfl).q) (fun a w hF hW => ?_)
    refine ls_nil ?_
    refine c_then ?_
    refine c_cond hF rfl (fun hb => ?_) (fun hb => ?_)
    ·
      have H := iteT (of_decide_eq_true hb) H
      rw [hb] at hF
      clear hb
      refine wp_skip ?_
      refine c_then ?_
      refine c_seq ?_
      refine wp_block ?_
      obtain ⟨o3, G3, K3⟩ := bindE H
      refine c_seqJ (fun a w => ∃ x2 : Bool, some (x2) = some o3 ∧ Fr 20 [] [(1, .pointer (some ⟨b1, 0, none⟩)), (2, .bool false), (3, .int .i64 x1), (19, .bool x2)] a ∧ Stw ⟨Y, [], w0⟩ [(b1, [.int .i64 p0.1, .int .i64 p0.2.1, .int .i64 p0.2.2.1, .int .i64 p0.2.2.2])] [] w) ?_ ?_
      ·
        have H := G3
        clear G3 K3
        refine reg_quiet hW MO (by kernel_rfl) ?_
        refine qs hF rfl ((y_move hF rfl).q) (fun a hF => ?_)
        obtain ⟨x3, h1, H⟩ := bindE H
        refine qs hF rfl ((y_indexP (0 + (x1).toNat * 1) Ar25 hF rfl rfl rfl h1 rfl).q) (fun a hF => ?_)
        refine qs hF rfl ((y_load (v := Value.int .i64 x3) 0 hF rfl rfl T3 (rdv_dyn (base := 0) (m := 4) (l := [p0.1, p0.2.1, p0.2.2.1, p0.2.2.2]) (enc := Value.int .i64) rfl h1)).q) (fun a hF => ?_)
        refine qs hF rfl ((y_lss hF rfl rfl).q) (fun a hF => ?_)
        refine qs hF rfl ((y_move hF rfl).q) (fun a hF => ?_)
        rcases Bool.eq_false_or_eq_true (decide (x3 < 0)) with hb | hb
        ·
          have H := iteT (of_decide_eq_true hb) H
          rw [hb] at hF
          clear hb
          refine qs_skip hF (wanted_n hF rfl rfl rfl rfl rfl) rfl rfl (fun a hF => ?_)
          refine qs_skip hF (wanted_n hF rfl rfl rfl rfl rfl) rfl rfl (fun a hF => ?_)
          refine qs_skip hF (wanted_n hF rfl rfl rfl rfl rfl) rfl rfl (fun a hF => ?_)
          refine qs_skip hF (wanted_n hF rfl rfl rfl rfl rfl) rfl rfl (fun a hF => ?_)
          refine qs_skip hF (wanted_n hF rfl rfl rfl rfl rfl) rfl rfl (fun a hF => ?_)
          refine qs_skip hF (wanted_n hF rfl rfl rfl rfl rfl) rfl rfl (fun a hF => ?_)
          refine qs hF rfl ((y_pick_t hF rfl rfl rfl).q) (fun a hF => ?_)
          refine quiet_end (fun w hW => ?_)
          refine c_then ?_
          exact ⟨_, H, hF.re ⟨rfl, rfl, rfl, rfl, trivial⟩, hW⟩
        ·
          have H := iteF (of_decide_eq_false hb) H
          rw [hb] at hF
          clear hb
          refine qs_w hF (wanted_y hF rfl rfl rfl rfl) rfl (Nat.le_of_ble_eq_true rfl) ((y_move hF rfl).q) (fun a hF => ?_)
          obtain ⟨x4, h2, H⟩ := bindE H
          refine qs_w hF (wanted_y hF rfl rfl rfl rfl) rfl (Nat.le_of_ble_eq_true rfl) ((y_indexP (0 + (x1).toNat * 1) Ar25 hF rfl rfl rfl h2 rfl).q) (fun a hF => ?_)
          refine qs_w hF (wanted_y hF rfl rfl rfl rfl) rfl (Nat.le_of_ble_eq_true rfl) ((y_load (v := Value.int .i64 x4) 0 hF rfl rfl T3 (rdv_dyn (base := 0) (m := 4) (l := [p0.1, p0.2.1, p0.2.2.1, p0.2.2.2]) (enc := Value.int .i64) rfl h2)).q) (fun a hF => ?_)
          refine qs_w hF (wanted_y hF rfl rfl rfl rfl) rfl (Nat.le_of_ble_eq_true rfl) ((y_move hF rfl).q) (fun a hF => ?_)
          refine qs_w hF (wanted_y hF rfl rfl rfl rfl) rfl (Nat.le_of_ble_eq_true rfl) (y_call (v := Value.int .i64 (r07_Top x1)) hF H35 rfl (fun w hW => r07_Top_c any w x1 _ rfl)) (fun a hF => ?_)
          refine qs_w hF (wanted_y hF rfl rfl rfl rfl) rfl (Nat.le_of_ble_eq_true rfl) ((y_gtr hF rfl rfl).q) (fun a hF => ?_)
          refine qs hF rfl ((y_pick_f hF rfl rfl rfl).q) (fun a hF => ?_)
          refine quiet_end (fun w hW => ?_)
          refine c_then ?_
          exact ⟨_, H, hF.re ⟨rfl, rfl, rfl, rfl, trivial⟩, hW⟩
      rintro a w ⟨x2, hj, hF, hW⟩
      have hj := Option.some.inj hj
      subst hj
      have H := K3
      clear G3 K3
      refine c_cond hF rfl (fun hb => ?_) (fun hb => ?_)
      ·
        have H := iteT hb H
        rw [hb] at hF
        clear hb
        refine c_seq ?_
        refine reg_list ?_
        refine ls hF hW rfl ((y_assign hF rfl).q) (fun a w hF hW => ?_)
        refine ls_nil ?_
        refine c_then ?_
        refine wp_ret ?_
        refine r_block ?_
        refine r_then ?_
        refine r_then ?_
        refine r_block ?_
        refine r_then ?_
        have H := L2 _ H
        have H := L1 _ H
        have H := Option.some.inj H
        subst H
        refine post1 (.inl rfl) hF hW rfl (rv_tmp hF rfl) ?_
        exact ⟨rfl, hW.done⟩
      ·
        have H := iteF (by rw [hb]; decide) H
        rw [hb] at hF
        clear hb
        refine wp_skip ?_
        refine b_normal ?_
        refine c_then ?_
        refine reg_list ?_
        refine ls hF hW rfl ((y_move hF rfl).q) (fun a w hF hW => ?_)
        refine ls hF hW rfl ((y_add hF rfl rfl rfl).q) (fun a w hF hW => ?_)
        refine ls hF hW rfl ((y_assign hF rfl).q) (fun a w hF hW => ?_)
        refine ls_nil ?_
        refine c_then ?_
        exact ⟨_, H, hF.re ⟨rfl, rfl, rfl, trivial⟩, hW⟩
    ·
      have H := iteF (of_decide_eq_false hb) H
      rw [hb] at hF
      clear hb
      refine wp_exit ?_
      refine e_then ?_
      refine e_then ?_
      refine e_block ?_
      refine c_then ?_
      have H := L2 _ H
      exact ⟨H, hF.re ⟨rfl, trivial⟩, hW⟩
  rintro a w ⟨hj, hF, hW⟩
  have H := K1 _ hj
  clear hj G1 K1 L1
  refine c_seq ?_
  refine reg_list ?_
  refine ls hF hW rfl ((y_assign hF rfl).q) (fun a w hF hW => ?_)
  refine ls_nil ?_
  refine c_then ?_
  refine wp_ret ?_
  have H := Option.some.inj H
  subst H
  refine post1 (.inl rfl) hF hW rfl (rv_tmp hF rfl) ?_
  exact ⟨rfl, hW.done⟩

end Go.Proofs.YtmlaadalggngkaaDoor
