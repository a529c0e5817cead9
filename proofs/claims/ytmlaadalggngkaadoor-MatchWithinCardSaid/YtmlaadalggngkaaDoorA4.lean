/- The functions of layer 8, lifted. Conditions: none. -/
import Derived.Test.YtmlaadalggngkaaDoorA3
namespace Go.Proofs.YtmlaadalggngkaaDoor
open Go Go.RowKit
set_option linter.unusedVariables false
set_option linter.unusedSimpArgs false
set_option maxRecDepth 20000
theorem H25 : Has Tryd.prog 25 := ⟨fun args w => run_callFunc_body Tryd.func25 rfl (by decide) args w⟩
noncomputable def L08_MatchTells (p0 : Int × (Int × Int × Int × Int) × (Int × Int × Int × Int)) (p1 : Int × (Int × Int × Int × Int) × (Int × Int × Int × Int)) (p2 : Int) (p3 : Int × Int × Int × Int) (p4 : Int) (p5 : Int) : Option Bool := ((match_Right p0).bind fun x2 => (r08_Right p0).bind fun x3 => (if x2 ≠ x3 then some true else (match_Of p4 p5).bind fun x4 => (r08_Of p4 p5).bind fun x5 => (if (!(decide (x4.1 = x5.1 ∧ x4.2.1.1 = x5.2.1.1 ∧ x4.2.1.2.1 = x5.2.1.2.1 ∧ x4.2.1.2.2.1 = x5.2.1.2.2.1 ∧ x4.2.1.2.2.2 = x5.2.1.2.2.2 ∧ x4.2.2.1 = x5.2.2.1 ∧ x4.2.2.2.1 = x5.2.2.2.1 ∧ x4.2.2.2.2.1 = x5.2.2.2.2.1 ∧ x4.2.2.2.2.2 = x5.2.2.2.2.2))) = true then some true else (r08_Of (-1) 0).bind fun x6 => some (!(decide (match_Any.1 = x6.1 ∧ match_Any.2.1.1 = x6.2.1.1 ∧ match_Any.2.1.2.1 = x6.2.1.2.1 ∧ match_Any.2.1.2.2.1 = x6.2.1.2.2.1 ∧ match_Any.2.1.2.2.2 = x6.2.1.2.2.2 ∧ match_Any.2.2.1 = x6.2.2.1 ∧ match_Any.2.2.2.1 = x6.2.2.2.1 ∧ match_Any.2.2.2.2.1 = x6.2.2.2.2.1 ∧ match_Any.2.2.2.2.2 = x6.2.2.2.2.2)))))).bind fun x1 => (if x1 = true then some false else ((r08_Right p0).bind fun x8 => (if (!x8) = true then some true else (r08_Right p1).bind fun x9 => (if (!x9) = true then some true else (r07_Right p3).bind fun x10 => some (!x10)))).bind fun x7 => (if x7 = true then (L08_awake).bind fun x11 => some x11 else (match_Meet p0 p1).bind fun x12 => (r08_Meet p0 p1).bind fun x13 => (if (!(decide (x12.1.1 = x13.1.1 ∧ x12.1.2.1.1 = x13.1.2.1.1 ∧ x12.1.2.1.2.1 = x13.1.2.1.2.1 ∧ x12.1.2.1.2.2.1 = x13.1.2.1.2.2.1 ∧ x12.1.2.1.2.2.2 = x13.1.2.1.2.2.2 ∧ x12.1.2.2.1 = x13.1.2.2.1 ∧ x12.1.2.2.2.1 = x13.1.2.2.2.1 ∧ x12.1.2.2.2.2.1 = x13.1.2.2.2.2.1 ∧ x12.1.2.2.2.2.2 = x13.1.2.2.2.2.2))) = true then some true else (if x12.2 ≠ x13.2 then some true else (match_Hits p0 p2 p3).bind fun x15 => (r08_Hits p0 p2 p3).bind fun x16 => (if x15 ≠ x16 then some true else (match_Within p0 p1).bind fun x17 => (r08_Within p0 p1).bind fun x18 => (if x17 ≠ x18 then some true else (match_Asked p0).bind fun x19 => (r08_Asked p0).bind fun x20 => some (decide (x19 ≠ x20)))))).bind fun x14 => (if x14 = true then some false else ((match_Code p0).bind fun x22 => (r08_Code p0).bind fun x23 => (if x22 = x23 then (match_Text p0).bind fun x24 => (r08_Text p0).bind fun x25 => (if x24 = x25 then (L08_awake).bind fun x26 => some x26 else some false) else some false)).bind fun x21 => some x21)))
theorem L08_MatchTells_c (Y : Nat → Prop) (w0 : World)  (p0 : Int × (Int × Int × Int × Int) × (Int × Int × Int × Int)) (p1 : Int × (Int × Int × Int × Int) × (Int × Int × Int × Int)) (p2 : Int) (p3 : Int × Int × Int × Int) (p4 : Int) (p5 : Int) (r : Bool) (H : L08_MatchTells p0 p1 p2 p3 p4 p5 = some r) (hG : Gk [] w0) :
    Calls Tryd.prog 3 #[.agg #[.int .i64 p0.1, .int .i64 p0.2.1.1, .int .i64 p0.2.1.2.1, .int .i64 p0.2.1.2.2.1, .int .i64 p0.2.1.2.2.2, .int .i64 p0.2.2.1, .int .i64 p0.2.2.2.1, .int .i64 p0.2.2.2.2.1, .int .i64 p0.2.2.2.2.2], .agg #[.int .i64 p1.1, .int .i64 p1.2.1.1, .int .i64 p1.2.1.2.1, .int .i64 p1.2.1.2.2.1, .int .i64 p1.2.1.2.2.2, .int .i64 p1.2.2.1, .int .i64 p1.2.2.2.1, .int .i64 p1.2.2.2.2.1, .int .i64 p1.2.2.2.2.2], .int .i64 p2, .agg #[.int .i64 p3.1, .int .i64 p3.2.1, .int .i64 p3.2.2.1, .int .i64 p3.2.2.2], .int .i64 p4, .int .i64 p5] w0 fun e w' => e = .returned (.bool r) ∧ Below w0.heap.size w0 w' := by
  refine enter Tryd.func3 rfl Tryd.ntmps3 rfl (fun a hF => ?_)
  have hW := Stw.start Y w0
  unfold L08_MatchTells at H
  refine c_seq ?_
  refine reg_list ?_
  refine l_box (cs := [.int .i64 p0.1, .int .i64 p0.2.1.1, .int .i64 p0.2.1.2.1, .int .i64 p0.2.1.2.2.1, .int .i64 p0.2.1.2.2.2, .int .i64 p0.2.2.1, .int .i64 p0.2.2.2.1, .int .i64 p0.2.2.2.2.1, .int .i64 p0.2.2.2.2.2]) hF hW rfl rfl rfl (fun b1 a w hF hW => ?_)
  refine l_box (cs := [.int .i64 p1.1, .int .i64 p1.2.1.1, .int .i64 p1.2.1.2.1, .int .i64 p1.2.1.2.2.1, .int .i64 p1.2.1.2.2.2, .int .i64 p1.2.2.1, .int .i64 p1.2.2.2.1, .int .i64 p1.2.2.2.2.1, .int .i64 p1.2.2.2.2.2]) hF hW rfl rfl rfl (fun b2 a w hF hW => ?_)
  refine l_box (cs := [.int .i64 p3.1, .int .i64 p3.2.1, .int .i64 p3.2.2.1, .int .i64 p3.2.2.2]) hF hW rfl rfl rfl (fun b3 a w hF hW => ?_)
  refine ls hF hW rfl ((y_assign hF rfl).q) (fun a w hF hW => ?_)
  refine ls_nil ?_
  refine c_then ?_
  refine c_seq ?_
  obtain ⟨o1, G1, K1⟩ := bindE H
  refine c_seqJ (fun a w => ∃ x1 : Bool, some (x1) = some o1 ∧ Fr 112 [] [(2, .int .i64 p2), (6, .pointer (some ⟨b1, 0, none⟩)), (7, .pointer (some ⟨b2, 0, none⟩)), (9, .pointer (some ⟨b3, 0, none⟩)), (12, .bool false), (35, .bool x1)] a ∧ Stw ⟨Y, [], w0⟩ [(b3, [.int .i64 p3.1, .int .i64 p3.2.1, .int .i64 p3.2.2.1, .int .i64 p3.2.2.2]), (b2, [.int .i64 p1.1, .int .i64 p1.2.1.1, .int .i64 p1.2.1.2.1, .int .i64 p1.2.1.2.2.1, .int .i64 p1.2.1.2.2.2, .int .i64 p1.2.2.1, .int .i64 p1.2.2.2.1, .int .i64 p1.2.2.2.2.1, .int .i64 p1.2.2.2.2.2]), (b1, [.int .i64 p0.1, .int .i64 p0.2.1.1, .int .i64 p0.2.1.2.1, .int .i64 p0.2.1.2.2.1, .int .i64 p0.2.1.2.2.2, .int .i64 p0.2.2.1, .int .i64 p0.2.2.2.1, .int .i64 p0.2.2.2.2.1, .int .i64 p0.2.2.2.2.2])] [] w) ?_ ?_
  ·
    have H := G1
    clear G1 K1
    refine reg_quiet hW MO (by kernel_rfl) ?_
    refine qs hF rfl ((y_load (v := Value.agg #[.int .i64 p0.1, .int .i64 p0.2.1.1, .int .i64 p0.2.1.2.1, .int .i64 p0.2.1.2.2.1, .int .i64 p0.2.1.2.2.2, .int .i64 p0.2.2.1, .int .i64 p0.2.2.2.1, .int .i64 p0.2.2.2.2.1, .int .i64 p0.2.2.2.2.2]) 2 hF rfl rfl T24 rfl).q) (fun a hF => ?_)
    obtain ⟨x2, h1, H⟩ := bindE H
    refine qs hF rfl (y_call (v := Value.bool x2) hF H7 rfl (fun w hW => match_Right_c any w p0 _ h1)) (fun a hF => ?_)
    refine qs hF rfl ((y_load (v := Value.agg #[.int .i64 p0.1, .int .i64 p0.2.1.1, .int .i64 p0.2.1.2.1, .int .i64 p0.2.1.2.2.1, .int .i64 p0.2.1.2.2.2, .int .i64 p0.2.2.1, .int .i64 p0.2.2.2.1, .int .i64 p0.2.2.2.2.1, .int .i64 p0.2.2.2.2.2]) 2 hF rfl rfl T24 rfl).q) (fun a hF => ?_)
    obtain ⟨x3, h2, H⟩ := bindE H
    refine qs hF rfl (y_call (v := Value.bool x3) hF H8 rfl (fun w hW => r08_Right_c any w p0 _ h2)) (fun a hF => ?_)
    refine qs hF rfl ((y_neb Tryd.underlying4 hF rfl rfl).q) (fun a hF => ?_)
    refine qs hF rfl ((y_move hF rfl).q) (fun a hF => ?_)
    rcases Bool.eq_false_or_eq_true (decide (x2 ≠ x3)) with hb | hb
    ·
      have H := iteT (of_decide_eq_true hb) H
      rw [hb] at hF
      clear hb
      refine qs_skip hF (wanted_n hF rfl rfl rfl rfl rfl) rfl rfl (fun a hF => ?_)
      refine qs_skip hF (wanted_n hF rfl rfl rfl rfl rfl) rfl rfl (fun a hF => ?_)
      refine qs_skip hF (wanted_n hF rfl rfl rfl rfl rfl) rfl rfl (fun a hF => ?_)
      refine qs_skip hF (wanted_n hF rfl rfl rfl rfl rfl) rfl rfl (fun a hF => ?_)
      refine qs_skip hF (wanted_n hF rfl rfl rfl rfl rfl) rfl rfl (fun a hF => ?_)
      refine qs_skip hF (wanted_n hF rfl rfl rfl rfl rfl) rfl rfl (fun a hF => ?_)
      refine qs_skip hF (wanted_n hF rfl rfl rfl rfl rfl) rfl rfl (fun a hF => ?_)
      refine qs hF rfl ((y_pick_t hF rfl rfl rfl).q) (fun a hF => ?_)
      refine qs hF rfl ((y_move hF rfl).q) (fun a hF => ?_)
      refine qs_skip hF (wanted_n hF rfl rfl rfl rfl rfl) rfl rfl (fun a hF => ?_)
      refine qs_skip hF (wanted_n hF rfl rfl rfl rfl rfl) rfl rfl (fun a hF => ?_)
      refine qs_skip hF (wanted_n hF rfl rfl rfl rfl rfl) rfl rfl (fun a hF => ?_)
      refine qs hF rfl ((y_pick_t hF rfl rfl rfl).q) (fun a hF => ?_)
      refine quiet_end (fun w hW => ?_)
      refine c_then ?_
      have hW := hW.frontM (i := 2) rfl rfl
      have hW := hW.frontM (i := 2) rfl rfl
      have hW := hW.frontM (i := 2) rfl rfl
      exact ⟨_, H, hF.re ⟨rfl, rfl, rfl, rfl, rfl, rfl, trivial⟩, hW⟩
    ·
      have H := iteF (of_decide_eq_false hb) H
      rw [hb] at hF
      clear hb
      refine qs_w hF (wanted_y hF rfl rfl rfl rfl) rfl (Nat.le_of_ble_eq_true rfl) ((y_move hF rfl).q) (fun a hF => ?_)
      refine qs_w hF (wanted_y hF rfl rfl rfl rfl) rfl (Nat.le_of_ble_eq_true rfl) ((y_move hF rfl).q) (fun a hF => ?_)
      obtain ⟨x4, h3, H⟩ := bindE H
      refine qs_w hF (wanted_y hF rfl rfl rfl rfl) rfl (Nat.le_of_ble_eq_true rfl) (y_call (v := Value.agg #[.int .i64 x4.1, .int .i64 x4.2.1.1, .int .i64 x4.2.1.2.1, .int .i64 x4.2.1.2.2.1, .int .i64 x4.2.1.2.2.2, .int .i64 x4.2.2.1, .int .i64 x4.2.2.2.1, .int .i64 x4.2.2.2.2.1, .int .i64 x4.2.2.2.2.2]) hF H9 rfl (fun w hW => match_Of_c any w p4 p5 _ h3)) (fun a hF => ?_)
      refine qs_w hF (wanted_y hF rfl rfl rfl rfl) rfl (Nat.le_of_ble_eq_true rfl) ((y_move hF rfl).q) (fun a hF => ?_)
      refine qs_w hF (wanted_y hF rfl rfl rfl rfl) rfl (Nat.le_of_ble_eq_true rfl) ((y_move hF rfl).q) (fun a hF => ?_)
      obtain ⟨x5, h4, H⟩ := bindE H
      refine qs_w hF (wanted_y hF rfl rfl rfl rfl) rfl (Nat.le_of_ble_eq_true rfl) (y_call (v := Value.agg #[.int .i64 x5.1, .int .i64 x5.2.1.1, .int .i64 x5.2.1.2.1, .int .i64 x5.2.1.2.2.1, .int .i64 x5.2.1.2.2.2, .int .i64 x5.2.2.1, .int .i64 x5.2.2.2.1, .int .i64 x5.2.2.2.2.1, .int .i64 x5.2.2.2.2.2]) hF H10 rfl (fun w hW => r08_Of_c any w p4 p5 _ h4)) (fun a hF => ?_)
      refine qs_w hF (wanted_y hF rfl rfl rfl rfl) rfl (Nat.le_of_ble_eq_true rfl) ((y_nea (t := decide (x4.1 = x5.1 ∧ x4.2.1.1 = x5.2.1.1 ∧ x4.2.1.2.1 = x5.2.1.2.1 ∧ x4.2.1.2.2.1 = x5.2.1.2.2.1 ∧ x4.2.1.2.2.2 = x5.2.1.2.2.2 ∧ x4.2.2.1 = x5.2.2.1 ∧ x4.2.2.2.1 = x5.2.2.2.1 ∧ x4.2.2.2.2.1 = x5.2.2.2.2.1 ∧ x4.2.2.2.2.2 = x5.2.2.2.2.2)) G24 (Q24 _ _ _ _ _ _ _ _ _ _ _ _ _ _ _ _ _ _) hF rfl rfl).q) (fun a hF => ?_)
      refine qs hF rfl ((y_pick_f hF rfl rfl rfl).q) (fun a hF => ?_)
      refine qs hF rfl ((y_move hF rfl).q) (fun a hF => ?_)
      rcases Bool.eq_false_or_eq_true (!(decide (x4.1 = x5.1 ∧ x4.2.1.1 = x5.2.1.1 ∧ x4.2.1.2.1 = x5.2.1.2.1 ∧ x4.2.1.2.2.1 = x5.2.1.2.2.1 ∧ x4.2.1.2.2.2 = x5.2.1.2.2.2 ∧ x4.2.2.1 = x5.2.2.1 ∧ x4.2.2.2.1 = x5.2.2.2.1 ∧ x4.2.2.2.2.1 = x5.2.2.2.2.1 ∧ x4.2.2.2.2.2 = x5.2.2.2.2.2))) with hb | hb
      ·
        have H := iteT hb H
        rw [hb] at hF
        clear hb
        refine qs_skip hF (wanted_n hF rfl rfl rfl rfl rfl) rfl rfl (fun a hF => ?_)
        refine qs_skip hF (wanted_n hF rfl rfl rfl rfl rfl) rfl rfl (fun a hF => ?_)
        refine qs_skip hF (wanted_n hF rfl rfl rfl rfl rfl) rfl rfl (fun a hF => ?_)
        refine qs hF rfl ((y_pick_t hF rfl rfl rfl).q) (fun a hF => ?_)
        refine quiet_end (fun w hW => ?_)
        refine c_then ?_
        have hW := hW.frontM (i := 2) rfl rfl
        have hW := hW.frontM (i := 2) rfl rfl
        have hW := hW.frontM (i := 2) rfl rfl
        exact ⟨_, H, hF.re ⟨rfl, rfl, rfl, rfl, rfl, rfl, trivial⟩, hW⟩
      ·
        have H := iteF (by rw [hb]; decide) H
        rw [hb] at hF
        clear hb
        refine qs_w hF (wanted_y hF rfl rfl rfl rfl) rfl (Nat.le_of_ble_eq_true rfl) (y_call (v := Value.agg #[.int .i64 match_Any.1, .int .i64 match_Any.2.1.1, .int .i64 match_Any.2.1.2.1, .int .i64 match_Any.2.1.2.2.1, .int .i64 match_Any.2.1.2.2.2, .int .i64 match_Any.2.2.1, .int .i64 match_Any.2.2.2.1, .int .i64 match_Any.2.2.2.2.1, .int .i64 match_Any.2.2.2.2.2]) hF H11 rfl (fun w hW => match_Any_c any w _ rfl)) (fun a hF => ?_)
        obtain ⟨x6, h5, H⟩ := bindE H
        refine qs_w hF (wanted_y hF rfl rfl rfl rfl) rfl (Nat.le_of_ble_eq_true rfl) (y_call (v := Value.agg #[.int .i64 x6.1, .int .i64 x6.2.1.1, .int .i64 x6.2.1.2.1, .int .i64 x6.2.1.2.2.1, .int .i64 x6.2.1.2.2.2, .int .i64 x6.2.2.1, .int .i64 x6.2.2.2.1, .int .i64 x6.2.2.2.2.1, .int .i64 x6.2.2.2.2.2]) hF H10 rfl (fun w hW => r08_Of_c any w (-1) 0 _ h5)) (fun a hF => ?_)
        refine qs_w hF (wanted_y hF rfl rfl rfl rfl) rfl (Nat.le_of_ble_eq_true rfl) ((y_nea (t := decide (match_Any.1 = x6.1 ∧ match_Any.2.1.1 = x6.2.1.1 ∧ match_Any.2.1.2.1 = x6.2.1.2.1 ∧ match_Any.2.1.2.2.1 = x6.2.1.2.2.1 ∧ match_Any.2.1.2.2.2 = x6.2.1.2.2.2 ∧ match_Any.2.2.1 = x6.2.2.1 ∧ match_Any.2.2.2.1 = x6.2.2.2.1 ∧ match_Any.2.2.2.2.1 = x6.2.2.2.2.1 ∧ match_Any.2.2.2.2.2 = x6.2.2.2.2.2)) G24 (Q24 _ _ _ _ _ _ _ _ _ _ _ _ _ _ _ _ _ _) hF rfl rfl).q) (fun a hF => ?_)
        refine qs hF rfl ((y_pick_f hF rfl rfl rfl).q) (fun a hF => ?_)
        refine quiet_end (fun w hW => ?_)
        refine c_then ?_
        have hW := hW.frontM (i := 2) rfl rfl
        have hW := hW.frontM (i := 2) rfl rfl
        have hW := hW.frontM (i := 2) rfl rfl
        exact ⟨_, H, hF.re ⟨rfl, rfl, rfl, rfl, rfl, rfl, trivial⟩, hW⟩
  rintro a w ⟨x1, hj, hF, hW⟩
  have hj := Option.some.inj hj
  subst hj
  have H := K1
  clear G1 K1
  refine c_cond hF rfl (fun hb => ?_) (fun hb => ?_)
  ·
    have H := iteT hb H
    rw [hb] at hF
    clear hb
    refine c_seq ?_
    refine reg_list ?_
    refine ls hF hW rfl ((y_assign hF rfl).q) (fun a w hF hW => ?_)
    refine ls_nil ?_
    refine c_then ?_
    refine wp_ret ?_
    refine r_then ?_
    have H := Option.some.inj H
    subst H
    refine post1 (.inl rfl) hF hW rfl (rv_tmp hF rfl) ?_
    exact ⟨rfl, hW.done⟩
  ·
    have H := iteF (by rw [hb]; decide) H
    rw [hb] at hF
    clear hb
    refine wp_skip ?_
    refine c_then ?_
    refine c_seq ?_
    obtain ⟨o2, G2, K2⟩ := bindE H
    refine c_seqJ (fun a w => ∃ x7 : Bool, some (x7) = some o2 ∧ Fr 112 [] [(2, .int .i64 p2), (6, .pointer (some ⟨b1, 0, none⟩)), (7, .pointer (some ⟨b2, 0, none⟩)), (9, .pointer (some ⟨b3, 0, none⟩)), (12, .bool false), (48, .bool x7)] a ∧ Stw ⟨Y, [], w0⟩ [(b3, [.int .i64 p3.1, .int .i64 p3.2.1, .int .i64 p3.2.2.1, .int .i64 p3.2.2.2]), (b2, [.int .i64 p1.1, .int .i64 p1.2.1.1, .int .i64 p1.2.1.2.1, .int .i64 p1.2.1.2.2.1, .int .i64 p1.2.1.2.2.2, .int .i64 p1.2.2.1, .int .i64 p1.2.2.2.1, .int .i64 p1.2.2.2.2.1, .int .i64 p1.2.2.2.2.2]), (b1, [.int .i64 p0.1, .int .i64 p0.2.1.1, .int .i64 p0.2.1.2.1, .int .i64 p0.2.1.2.2.1, .int .i64 p0.2.1.2.2.2, .int .i64 p0.2.2.1, .int .i64 p0.2.2.2.1, .int .i64 p0.2.2.2.2.1, .int .i64 p0.2.2.2.2.2])] [] w) ?_ ?_
    ·
      have H := G2
      clear G2 K2
      refine reg_list ?_
      refine ls hF hW rfl ((y_load (v := Value.agg #[.int .i64 p0.1, .int .i64 p0.2.1.1, .int .i64 p0.2.1.2.1, .int .i64 p0.2.1.2.2.1, .int .i64 p0.2.1.2.2.2, .int .i64 p0.2.2.1, .int .i64 p0.2.2.2.1, .int .i64 p0.2.2.2.2.1, .int .i64 p0.2.2.2.2.2]) 2 hF rfl rfl T24 rfl).q) (fun a w hF hW => ?_)
      obtain ⟨x8, h6, H⟩ := bindE H
      refine ls hF hW rfl (y_call (v := Value.bool x8) hF H8 rfl (fun w hW => r08_Right_c any w p0 _ h6)) (fun a w hF hW => ?_)
      refine ls hF hW rfl ((y_not hF rfl).q) (fun a w hF hW => ?_)
      refine ls hF hW rfl ((y_move hF rfl).q) (fun a w hF hW => ?_)
      rcases Bool.eq_false_or_eq_true (!x8) with hb | hb
      ·
        have H := iteT hb H
        rw [hb] at hF
        clear hb
        refine ls_skip hF (wanted_n hF rfl rfl rfl rfl rfl) rfl rfl (fun a hF => ?_)
        refine ls_skip hF (wanted_n hF rfl rfl rfl rfl rfl) rfl rfl (fun a hF => ?_)
        refine ls_skip hF (wanted_n hF rfl rfl rfl rfl rfl) rfl rfl (fun a hF => ?_)
        refine ls hF hW rfl ((y_pick_t hF rfl rfl rfl).q) (fun a w hF hW => ?_)
        refine ls hF hW rfl ((y_move hF rfl).q) (fun a w hF hW => ?_)
        refine ls_skip hF (wanted_n hF rfl rfl rfl rfl rfl) rfl rfl (fun a hF => ?_)
        refine ls_skip hF (wanted_n hF rfl rfl rfl rfl rfl) rfl rfl (fun a hF => ?_)
        refine ls_skip hF (wanted_n hF rfl rfl rfl rfl rfl) rfl rfl (fun a hF => ?_)
        refine ls hF hW rfl ((y_pick_t hF rfl rfl rfl).q) (fun a w hF hW => ?_)
        refine ls_nil ?_
        refine c_then ?_
        have hW := hW.frontM (i := 2) rfl rfl
        have hW := hW.frontM (i := 2) rfl rfl
        have hW := hW.frontM (i := 2) rfl rfl
        exact ⟨_, H, hF.re ⟨rfl, rfl, rfl, rfl, rfl, rfl, trivial⟩, hW⟩
      ·
        have H := iteF (by rw [hb]; decide) H
        rw [hb] at hF
        clear hb
        refine ls_w hF hW (wanted_y hF rfl rfl rfl rfl) rfl (Nat.le_of_ble_eq_true rfl) ((y_load (v := Value.agg #[.int .i64 p1.1, .int .i64 p1.2.1.1, .int .i64 p1.2.1.2.1, .int .i64 p1.2.1.2.2.1, .int .i64 p1.2.1.2.2.2, .int .i64 p1.2.2.1, .int .i64 p1.2.2.2.1, .int .i64 p1.2.2.2.2.1, .int .i64 p1.2.2.2.2.2]) 1 hF rfl rfl T24 rfl).q) (fun a w hF hW => ?_)
        refine ls_g (wanted_y hF rfl rfl rfl rfl) ?_
        obtain ⟨x9, h7, H⟩ := bindE H
        refine ls hF hW rfl (y_call (v := Value.bool x9) hF H8 rfl (fun w hW => r08_Right_c any w p1 _ h7)) (fun a w hF hW => ?_)
        refine ls_w hF hW (wanted_y hF rfl rfl rfl rfl) rfl (Nat.le_of_ble_eq_true rfl) ((y_not hF rfl).q) (fun a w hF hW => ?_)
        refine ls hF hW rfl ((y_pick_f hF rfl rfl rfl).q) (fun a w hF hW => ?_)
        refine ls hF hW rfl ((y_move hF rfl).q) (fun a w hF hW => ?_)
        rcases Bool.eq_false_or_eq_true (!x9) with hb | hb
        ·
          have H := iteT hb H
          rw [hb] at hF
          clear hb
          refine ls_skip hF (wanted_n hF rfl rfl rfl rfl rfl) rfl rfl (fun a hF => ?_)
          refine ls_skip hF (wanted_n hF rfl rfl rfl rfl rfl) rfl rfl (fun a hF => ?_)
          refine ls_skip hF (wanted_n hF rfl rfl rfl rfl rfl) rfl rfl (fun a hF => ?_)
          refine ls hF hW rfl ((y_pick_t hF rfl rfl rfl).q) (fun a w hF hW => ?_)
          refine ls_nil ?_
          refine c_then ?_
          have hW := hW.frontM (i := 2) rfl rfl
          have hW := hW.frontM (i := 2) rfl rfl
          have hW := hW.frontM (i := 2) rfl rfl
          exact ⟨_, H, hF.re ⟨rfl, rfl, rfl, rfl, rfl, rfl, trivial⟩, hW⟩
        ·
          have H := iteF (by rw [hb]; decide) H
          rw [hb] at hF
          clear hb
          refine ls_w hF hW (wanted_y hF rfl rfl rfl rfl) rfl (Nat.le_of_ble_eq_true rfl) ((y_load (v := Value.agg #[.int .i64 p3.1, .int .i64 p3.2.1, .int .i64 p3.2.2.1, .int .i64 p3.2.2.2]) 0 hF rfl rfl T25 rfl).q) (fun a w hF hW => ?_)
          refine ls_g (wanted_y hF rfl rfl rfl rfl) ?_
          obtain ⟨x10, h8, H⟩ := bindE H
          refine ls hF hW rfl (y_call (v := Value.bool x10) hF H12 rfl (fun w hW => r07_Right_c any w p3 _ h8)) (fun a w hF hW => ?_)
          refine ls_w hF hW (wanted_y hF rfl rfl rfl rfl) rfl (Nat.le_of_ble_eq_true rfl) ((y_not hF rfl).q) (fun a w hF hW => ?_)
          refine ls hF hW rfl ((y_pick_f hF rfl rfl rfl).q) (fun a w hF hW => ?_)
          refine ls_nil ?_
          refine c_then ?_
          have hW := hW.frontM (i := 2) rfl rfl
          have hW := hW.frontM (i := 2) rfl rfl
          have hW := hW.frontM (i := 2) rfl rfl
          exact ⟨_, H, hF.re ⟨rfl, rfl, rfl, rfl, rfl, rfl, trivial⟩, hW⟩
    rintro a w ⟨x7, hj, hF, hW⟩
    have hj := Option.some.inj hj
    subst hj
    have H := K2
    clear G2 K2
    refine c_cond hF rfl (fun hb => ?_) (fun hb => ?_)
    ·
      have H := iteT hb H
      rw [hb] at hF
      clear hb
      refine c_seq ?_
      refine reg_list ?_
      obtain ⟨x11, h9, H⟩ := bindE H
      refine ls hF hW rfl (y_call (v := Value.bool x11) hF H13 rfl (fun w hW => L08_awake_c any w _ h9 (hG.go0 hW))) (fun a w hF hW => ?_)
      refine ls hF hW rfl ((y_assign hF rfl).q) (fun a w hF hW => ?_)
      refine ls_nil ?_
      refine c_then ?_
      refine wp_ret ?_
      refine r_then ?_
      have H := Option.some.inj H
      subst H
      refine post1 (.inl rfl) hF hW rfl (rv_tmp hF rfl) ?_
      exact ⟨rfl, hW.done⟩
    ·
      have H := iteF (by rw [hb]; decide) H
      rw [hb] at hF
      clear hb
      refine wp_skip ?_
      refine c_then ?_
      refine c_seq ?_
      refine reg_list ?_
      refine ls hF hW rfl ((y_load (v := Value.agg #[.int .i64 p0.1, .int .i64 p0.2.1.1, .int .i64 p0.2.1.2.1, .int .i64 p0.2.1.2.2.1, .int .i64 p0.2.1.2.2.2, .int .i64 p0.2.2.1, .int .i64 p0.2.2.2.1, .int .i64 p0.2.2.2.2.1, .int .i64 p0.2.2.2.2.2]) 2 hF rfl rfl T24 rfl).q) (fun a w hF hW => ?_)
      refine ls hF hW rfl ((y_load (v := Value.agg #[.int .i64 p1.1, .int .i64 p1.2.1.1, .int .i64 p1.2.1.2.1, .int .i64 p1.2.1.2.2.1, .int .i64 p1.2.1.2.2.2, .int .i64 p1.2.2.1, .int .i64 p1.2.2.2.1, .int .i64 p1.2.2.2.2.1, .int .i64 p1.2.2.2.2.2]) 1 hF rfl rfl T24 rfl).q) (fun a w hF hW => ?_)
      obtain ⟨x12, h10, H⟩ := bindE H
      refine ls hF hW rfl (y_call (v := Value.tuple #[.agg #[.int .i64 x12.1.1, .int .i64 x12.1.2.1.1, .int .i64 x12.1.2.1.2.1, .int .i64 x12.1.2.1.2.2.1, .int .i64 x12.1.2.1.2.2.2, .int .i64 x12.1.2.2.1, .int .i64 x12.1.2.2.2.1, .int .i64 x12.1.2.2.2.2.1, .int .i64 x12.1.2.2.2.2.2], .bool x12.2]) hF H14 rfl (fun w hW => match_Meet_c any w p0 p1 _ h10)) (fun a w hF hW => ?_)
      refine ls hF hW rfl ((y_move hF rfl).q) (fun a w hF hW => ?_)
      refine ls hF hW rfl ((y_extract (v := Value.agg #[.int .i64 x12.1.1, .int .i64 x12.1.2.1.1, .int .i64 x12.1.2.1.2.1, .int .i64 x12.1.2.1.2.2.1, .int .i64 x12.1.2.1.2.2.2, .int .i64 x12.1.2.2.1, .int .i64 x12.1.2.2.2.1, .int .i64 x12.1.2.2.2.2.1, .int .i64 x12.1.2.2.2.2.2]) hF rfl rfl).q) (fun a w hF hW => ?_)
      refine ls hF hW rfl ((y_extract (v := Value.bool x12.2) hF rfl rfl).q) (fun a w hF hW => ?_)
      refine l_alloc (cs := [.int .i64 0, .int .i64 0, .int .i64 0, .int .i64 0, .int .i64 0, .int .i64 0, .int .i64 0, .int .i64 0, .int .i64 0]) hF hW rfl Z24 rfl (fun b4 a w hF hW => ?_)
      refine l_store (vs := [.int .i64 x12.1.1, .int .i64 x12.1.2.1.1, .int .i64 x12.1.2.1.2.1, .int .i64 x12.1.2.1.2.2.1, .int .i64 x12.1.2.1.2.2.2, .int .i64 x12.1.2.2.1, .int .i64 x12.1.2.2.2.1, .int .i64 x12.1.2.2.2.2.1, .int .i64 x12.1.2.2.2.2.2]) (M' := [(b4, [.int .i64 x12.1.1, .int .i64 x12.1.2.1.1, .int .i64 x12.1.2.1.2.1, .int .i64 x12.1.2.1.2.2.1, .int .i64 x12.1.2.1.2.2.2, .int .i64 x12.1.2.2.1, .int .i64 x12.1.2.2.2.1, .int .i64 x12.1.2.2.2.2.1, .int .i64 x12.1.2.2.2.2.2]), (b3, [.int .i64 p3.1, .int .i64 p3.2.1, .int .i64 p3.2.2.1, .int .i64 p3.2.2.2]), (b2, [.int .i64 p1.1, .int .i64 p1.2.1.1, .int .i64 p1.2.1.2.1, .int .i64 p1.2.1.2.2.1, .int .i64 p1.2.1.2.2.2, .int .i64 p1.2.2.1, .int .i64 p1.2.2.2.1, .int .i64 p1.2.2.2.2.1, .int .i64 p1.2.2.2.2.2]), (b1, [.int .i64 p0.1, .int .i64 p0.2.1.1, .int .i64 p0.2.1.2.1, .int .i64 p0.2.1.2.2.1, .int .i64 p0.2.1.2.2.2, .int .i64 p0.2.2.1, .int .i64 p0.2.2.2.1, .int .i64 p0.2.2.2.2.1, .int .i64 p0.2.2.2.2.2])]) 0 hF hW rfl rfl rfl T24 rfl rfl rfl rfl rfl (fun w hW => ?_)
      refine ls hF hW rfl ((y_assign hF rfl).q) (fun a w hF hW => ?_)
      refine ls_nil ?_
      refine c_then ?_
      refine c_seq ?_
      refine reg_list ?_
      refine ls hF hW rfl ((y_load (v := Value.agg #[.int .i64 p0.1, .int .i64 p0.2.1.1, .int .i64 p0.2.1.2.1, .int .i64 p0.2.1.2.2.1, .int .i64 p0.2.1.2.2.2, .int .i64 p0.2.2.1, .int .i64 p0.2.2.2.1, .int .i64 p0.2.2.2.2.1, .int .i64 p0.2.2.2.2.2]) 3 hF rfl rfl T24 rfl).q) (fun a w hF hW => ?_)
      refine ls hF hW rfl ((y_load (v := Value.agg #[.int .i64 p1.1, .int .i64 p1.2.1.1, .int .i64 p1.2.1.2.1, .int .i64 p1.2.1.2.2.1, .int .i64 p1.2.1.2.2.2, .int .i64 p1.2.2.1, .int .i64 p1.2.2.2.1, .int .i64 p1.2.2.2.2.1, .int .i64 p1.2.2.2.2.2]) 2 hF rfl rfl T24 rfl).q) (fun a w hF hW => ?_)
      obtain ⟨x13, h11, H⟩ := bindE H
      refine ls hF hW rfl (y_call (v := Value.tuple #[.agg #[.int .i64 x13.1.1, .int .i64 x13.1.2.1.1, .int .i64 x13.1.2.1.2.1, .int .i64 x13.1.2.1.2.2.1, .int .i64 x13.1.2.1.2.2.2, .int .i64 x13.1.2.2.1, .int .i64 x13.1.2.2.2.1, .int .i64 x13.1.2.2.2.2.1, .int .i64 x13.1.2.2.2.2.2], .bool x13.2]) hF H15 rfl (fun w hW => r08_Meet_c any w p0 p1 _ h11)) (fun a w hF hW => ?_)
      refine ls hF hW rfl ((y_move hF rfl).q) (fun a w hF hW => ?_)
      refine ls hF hW rfl ((y_extract (v := Value.agg #[.int .i64 x13.1.1, .int .i64 x13.1.2.1.1, .int .i64 x13.1.2.1.2.1, .int .i64 x13.1.2.1.2.2.1, .int .i64 x13.1.2.1.2.2.2, .int .i64 x13.1.2.2.1, .int .i64 x13.1.2.2.2.1, .int .i64 x13.1.2.2.2.2.1, .int .i64 x13.1.2.2.2.2.2]) hF rfl rfl).q) (fun a w hF hW => ?_)
      refine ls hF hW rfl ((y_extract (v := Value.bool x13.2) hF rfl rfl).q) (fun a w hF hW => ?_)
      refine l_alloc (cs := [.int .i64 0, .int .i64 0, .int .i64 0, .int .i64 0, .int .i64 0, .int .i64 0, .int .i64 0, .int .i64 0, .int .i64 0]) hF hW rfl Z24 rfl (fun b5 a w hF hW => ?_)
      refine l_store (vs := [.int .i64 x13.1.1, .int .i64 x13.1.2.1.1, .int .i64 x13.1.2.1.2.1, .int .i64 x13.1.2.1.2.2.1, .int .i64 x13.1.2.1.2.2.2, .int .i64 x13.1.2.2.1, .int .i64 x13.1.2.2.2.1, .int .i64 x13.1.2.2.2.2.1, .int .i64 x13.1.2.2.2.2.2]) (M' := [(b5, [.int .i64 x13.1.1, .int .i64 x13.1.2.1.1, .int .i64 x13.1.2.1.2.1, .int .i64 x13.1.2.1.2.2.1, .int .i64 x13.1.2.1.2.2.2, .int .i64 x13.1.2.2.1, .int .i64 x13.1.2.2.2.1, .int .i64 x13.1.2.2.2.2.1, .int .i64 x13.1.2.2.2.2.2]), (b4, [.int .i64 x12.1.1, .int .i64 x12.1.2.1.1, .int .i64 x12.1.2.1.2.1, .int .i64 x12.1.2.1.2.2.1, .int .i64 x12.1.2.1.2.2.2, .int .i64 x12.1.2.2.1, .int .i64 x12.1.2.2.2.1, .int .i64 x12.1.2.2.2.2.1, .int .i64 x12.1.2.2.2.2.2]), (b3, [.int .i64 p3.1, .int .i64 p3.2.1, .int .i64 p3.2.2.1, .int .i64 p3.2.2.2]), (b2, [.int .i64 p1.1, .int .i64 p1.2.1.1, .int .i64 p1.2.1.2.1, .int .i64 p1.2.1.2.2.1, .int .i64 p1.2.1.2.2.2, .int .i64 p1.2.2.1, .int .i64 p1.2.2.2.1, .int .i64 p1.2.2.2.2.1, .int .i64 p1.2.2.2.2.2]), (b1, [.int .i64 p0.1, .int .i64 p0.2.1.1, .int .i64 p0.2.1.2.1, .int .i64 p0.2.1.2.2.1, .int .i64 p0.2.1.2.2.2, .int .i64 p0.2.2.1, .int .i64 p0.2.2.2.1, .int .i64 p0.2.2.2.2.1, .int .i64 p0.2.2.2.2.2])]) 0 hF hW rfl rfl rfl T24 rfl rfl rfl rfl rfl (fun w hW => ?_)
      refine ls hF hW rfl ((y_assign hF rfl).q) (fun a w hF hW => ?_)
      refine ls_nil ?_
      refine c_then ?_
      refine c_seq ?_
      obtain ⟨o3, G3, K3⟩ := bindE H
      refine c_seqJ (fun a w => ∃ x14 : Bool, some (x14) = some o3 ∧ Fr 112 [] [(6, .pointer (some ⟨b1, 0, none⟩)), (12, .bool false), (96, .bool x14)] a ∧ Stw ⟨Y, [], w0⟩ [(b5, [.int .i64 x13.1.1, .int .i64 x13.1.2.1.1, .int .i64 x13.1.2.1.2.1, .int .i64 x13.1.2.1.2.2.1, .int .i64 x13.1.2.1.2.2.2, .int .i64 x13.1.2.2.1, .int .i64 x13.1.2.2.2.1, .int .i64 x13.1.2.2.2.2.1, .int .i64 x13.1.2.2.2.2.2]), (b4, [.int .i64 x12.1.1, .int .i64 x12.1.2.1.1, .int .i64 x12.1.2.1.2.1, .int .i64 x12.1.2.1.2.2.1, .int .i64 x12.1.2.1.2.2.2, .int .i64 x12.1.2.2.1, .int .i64 x12.1.2.2.2.1, .int .i64 x12.1.2.2.2.2.1, .int .i64 x12.1.2.2.2.2.2]), (b3, [.int .i64 p3.1, .int .i64 p3.2.1, .int .i64 p3.2.2.1, .int .i64 p3.2.2.2]), (b2, [.int .i64 p1.1, .int .i64 p1.2.1.1, .int .i64 p1.2.1.2.1, .int .i64 p1.2.1.2.2.1, .int .i64 p1.2.1.2.2.2, .int .i64 p1.2.2.1, .int .i64 p1.2.2.2.1, .int .i64 p1.2.2.2.2.1, .int .i64 p1.2.2.2.2.2]), (b1, [.int .i64 p0.1, .int .i64 p0.2.1.1, .int .i64 p0.2.1.2.1, .int .i64 p0.2.1.2.2.1, .int .i64 p0.2.1.2.2.2, .int .i64 p0.2.2.1, .int .i64 p0.2.2.2.1, .int .i64 p0.2.2.2.2.1, .int .i64 p0.2.2.2.2.2])] [] w) ?_ ?_
      ·
        have H := G3
        clear G3 K3
        refine reg_quiet hW MO (by kernel_rfl) ?_
        refine qs hF rfl ((y_load (v := Value.agg #[.int .i64 x12.1.1, .int .i64 x12.1.2.1.1, .int .i64 x12.1.2.1.2.1, .int .i64 x12.1.2.1.2.2.1, .int .i64 x12.1.2.1.2.2.2, .int .i64 x12.1.2.2.1, .int .i64 x12.1.2.2.2.1, .int .i64 x12.1.2.2.2.2.1, .int .i64 x12.1.2.2.2.2.2]) 1 hF rfl rfl T24 rfl).q) (fun a hF => ?_)
        refine qs hF rfl ((y_load (v := Value.agg #[.int .i64 x13.1.1, .int .i64 x13.1.2.1.1, .int .i64 x13.1.2.1.2.1, .int .i64 x13.1.2.1.2.2.1, .int .i64 x13.1.2.1.2.2.2, .int .i64 x13.1.2.2.1, .int .i64 x13.1.2.2.2.1, .int .i64 x13.1.2.2.2.2.1, .int .i64 x13.1.2.2.2.2.2]) 0 hF rfl rfl T24 rfl).q) (fun a hF => ?_)
        refine qs hF rfl ((y_nea (t := decide (x12.1.1 = x13.1.1 ∧ x12.1.2.1.1 = x13.1.2.1.1 ∧ x12.1.2.1.2.1 = x13.1.2.1.2.1 ∧ x12.1.2.1.2.2.1 = x13.1.2.1.2.2.1 ∧ x12.1.2.1.2.2.2 = x13.1.2.1.2.2.2 ∧ x12.1.2.2.1 = x13.1.2.2.1 ∧ x12.1.2.2.2.1 = x13.1.2.2.2.1 ∧ x12.1.2.2.2.2.1 = x13.1.2.2.2.2.1 ∧ x12.1.2.2.2.2.2 = x13.1.2.2.2.2.2)) G24 (Q24 _ _ _ _ _ _ _ _ _ _ _ _ _ _ _ _ _ _) hF rfl rfl).q) (fun a hF => ?_)
        refine qs hF rfl ((y_move hF rfl).q) (fun a hF => ?_)
        rcases Bool.eq_false_or_eq_true (!(decide (x12.1.1 = x13.1.1 ∧ x12.1.2.1.1 = x13.1.2.1.1 ∧ x12.1.2.1.2.1 = x13.1.2.1.2.1 ∧ x12.1.2.1.2.2.1 = x13.1.2.1.2.2.1 ∧ x12.1.2.1.2.2.2 = x13.1.2.1.2.2.2 ∧ x12.1.2.2.1 = x13.1.2.2.1 ∧ x12.1.2.2.2.1 = x13.1.2.2.2.1 ∧ x12.1.2.2.2.2.1 = x13.1.2.2.2.2.1 ∧ x12.1.2.2.2.2.2 = x13.1.2.2.2.2.2))) with hb | hb
        ·
          have H := iteT hb H
          rw [hb] at hF
          clear hb
          refine qs_skip hF (wanted_n hF rfl rfl rfl rfl rfl) rfl rfl (fun a hF => ?_)
          refine qs_skip hF (wanted_n hF rfl rfl rfl rfl rfl) rfl rfl (fun a hF => ?_)
          refine qs_skip hF (wanted_n hF rfl rfl rfl rfl rfl) rfl rfl (fun a hF => ?_)
          refine qs hF rfl ((y_pick_t hF rfl rfl rfl).q) (fun a hF => ?_)
          refine qs hF rfl ((y_move hF rfl).q) (fun a hF => ?_)
          refine qs_skip hF (wanted_n hF rfl rfl rfl rfl rfl) rfl rfl (fun a hF => ?_)
          refine qs_skip hF (wanted_n hF rfl rfl rfl rfl rfl) rfl rfl (fun a hF => ?_)
          refine qs_skip hF (wanted_n hF rfl rfl rfl rfl rfl) rfl rfl (fun a hF => ?_)
          refine qs_skip hF (wanted_n hF rfl rfl rfl rfl rfl) rfl rfl (fun a hF => ?_)
          refine qs_skip hF (wanted_n hF rfl rfl rfl rfl rfl) rfl rfl (fun a hF => ?_)
          refine qs_skip hF (wanted_n hF rfl rfl rfl rfl rfl) rfl rfl (fun a hF => ?_)
          refine qs_skip hF (wanted_n hF rfl rfl rfl rfl rfl) rfl rfl (fun a hF => ?_)
          refine qs_skip hF (wanted_n hF rfl rfl rfl rfl rfl) rfl rfl (fun a hF => ?_)
          refine qs_skip hF (wanted_n hF rfl rfl rfl rfl rfl) rfl rfl (fun a hF => ?_)
          refine qs hF rfl ((y_pick_t hF rfl rfl rfl).q) (fun a hF => ?_)
          refine qs hF rfl ((y_move hF rfl).q) (fun a hF => ?_)
          refine qs_skip hF (wanted_n hF rfl rfl rfl rfl rfl) rfl rfl (fun a hF => ?_)
          refine qs_skip hF (wanted_n hF rfl rfl rfl rfl rfl) rfl rfl (fun a hF => ?_)
          refine qs_skip hF (wanted_n hF rfl rfl rfl rfl rfl) rfl rfl (fun a hF => ?_)
          refine qs_skip hF (wanted_n hF rfl rfl rfl rfl rfl) rfl rfl (fun a hF => ?_)
          refine qs_skip hF (wanted_n hF rfl rfl rfl rfl rfl) rfl rfl (fun a hF => ?_)
          refine qs_skip hF (wanted_n hF rfl rfl rfl rfl rfl) rfl rfl (fun a hF => ?_)
          refine qs_skip hF (wanted_n hF rfl rfl rfl rfl rfl) rfl rfl (fun a hF => ?_)
          refine qs hF rfl ((y_pick_t hF rfl rfl rfl).q) (fun a hF => ?_)
          refine qs hF rfl ((y_move hF rfl).q) (fun a hF => ?_)
          refine qs_skip hF (wanted_n hF rfl rfl rfl rfl rfl) rfl rfl (fun a hF => ?_)
          refine qs_skip hF (wanted_n hF rfl rfl rfl rfl rfl) rfl rfl (fun a hF => ?_)
          refine qs_skip hF (wanted_n hF rfl rfl rfl rfl rfl) rfl rfl (fun a hF => ?_)
          refine qs_skip hF (wanted_n hF rfl rfl rfl rfl rfl) rfl rfl (fun a hF => ?_)
          refine qs_skip hF (wanted_n hF rfl rfl rfl rfl rfl) rfl rfl (fun a hF => ?_)
          refine qs hF rfl ((y_pick_t hF rfl rfl rfl).q) (fun a hF => ?_)
          refine quiet_end (fun w hW => ?_)
          refine c_then ?_
          have hW := hW.frontM (i := 4) rfl rfl
          have hW := hW.frontM (i := 4) rfl rfl
          have hW := hW.frontM (i := 4) rfl rfl
          have hW := hW.frontM (i := 4) rfl rfl
          have hW := hW.frontM (i := 4) rfl rfl
          exact ⟨_, H, hF.re ⟨rfl, rfl, rfl, trivial⟩, hW⟩
        ·
          have H := iteF (by rw [hb]; decide) H
          rw [hb] at hF
          clear hb
          refine qs_w hF (wanted_y hF rfl rfl rfl rfl) rfl (Nat.le_of_ble_eq_true rfl) ((y_move hF rfl).q) (fun a hF => ?_)
          refine qs_w hF (wanted_y hF rfl rfl rfl rfl) rfl (Nat.le_of_ble_eq_true rfl) ((y_move hF rfl).q) (fun a hF => ?_)
          refine qs_w hF (wanted_y hF rfl rfl rfl rfl) rfl (Nat.le_of_ble_eq_true rfl) ((y_neb Tryd.underlying4 hF rfl rfl).q) (fun a hF => ?_)
          refine qs hF rfl ((y_pick_f hF rfl rfl rfl).q) (fun a hF => ?_)
          refine qs hF rfl ((y_move hF rfl).q) (fun a hF => ?_)
          rcases Bool.eq_false_or_eq_true (decide (x12.2 ≠ x13.2)) with hb | hb
          ·
            have H := iteT (of_decide_eq_true hb) H
            rw [hb] at hF
            clear hb
            refine qs_skip hF (wanted_n hF rfl rfl rfl rfl rfl) rfl rfl (fun a hF => ?_)
            refine qs_skip hF (wanted_n hF rfl rfl rfl rfl rfl) rfl rfl (fun a hF => ?_)
            refine qs_skip hF (wanted_n hF rfl rfl rfl rfl rfl) rfl rfl (fun a hF => ?_)
            refine qs_skip hF (wanted_n hF rfl rfl rfl rfl rfl) rfl rfl (fun a hF => ?_)
            refine qs_skip hF (wanted_n hF rfl rfl rfl rfl rfl) rfl rfl (fun a hF => ?_)
            refine qs_skip hF (wanted_n hF rfl rfl rfl rfl rfl) rfl rfl (fun a hF => ?_)
            refine qs_skip hF (wanted_n hF rfl rfl rfl rfl rfl) rfl rfl (fun a hF => ?_)
            refine qs_skip hF (wanted_n hF rfl rfl rfl rfl rfl) rfl rfl (fun a hF => ?_)
            refine qs_skip hF (wanted_n hF rfl rfl rfl rfl rfl) rfl rfl (fun a hF => ?_)
            refine qs hF rfl ((y_pick_t hF rfl rfl rfl).q) (fun a hF => ?_)
            refine qs hF rfl ((y_move hF rfl).q) (fun a hF => ?_)
            refine qs_skip hF (wanted_n hF rfl rfl rfl rfl rfl) rfl rfl (fun a hF => ?_)
            refine qs_skip hF (wanted_n hF rfl rfl rfl rfl rfl) rfl rfl (fun a hF => ?_)
            refine qs_skip hF (wanted_n hF rfl rfl rfl rfl rfl) rfl rfl (fun a hF => ?_)
            refine qs_skip hF (wanted_n hF rfl rfl rfl rfl rfl) rfl rfl (fun a hF => ?_)
            refine qs_skip hF (wanted_n hF rfl rfl rfl rfl rfl) rfl rfl (fun a hF => ?_)
            refine qs_skip hF (wanted_n hF rfl rfl rfl rfl rfl) rfl rfl (fun a hF => ?_)
            refine qs_skip hF (wanted_n hF rfl rfl rfl rfl rfl) rfl rfl (fun a hF => ?_)
            refine qs hF rfl ((y_pick_t hF rfl rfl rfl).q) (fun a hF => ?_)
            refine qs hF rfl ((y_move hF rfl).q) (fun a hF => ?_)
            refine qs_skip hF (wanted_n hF rfl rfl rfl rfl rfl) rfl rfl (fun a hF => ?_)
            refine qs_skip hF (wanted_n hF rfl rfl rfl rfl rfl) rfl rfl (fun a hF => ?_)
            refine qs_skip hF (wanted_n hF rfl rfl rfl rfl rfl) rfl rfl (fun a hF => ?_)
            refine qs_skip hF (wanted_n hF rfl rfl rfl rfl rfl) rfl rfl (fun a hF => ?_)
            refine qs_skip hF (wanted_n hF rfl rfl rfl rfl rfl) rfl rfl (fun a hF => ?_)
            refine qs hF rfl ((y_pick_t hF rfl rfl rfl).q) (fun a hF => ?_)
            refine quiet_end (fun w hW => ?_)
            refine c_then ?_
            have hW := hW.frontM (i := 4) rfl rfl
            have hW := hW.frontM (i := 4) rfl rfl
            have hW := hW.frontM (i := 4) rfl rfl
            have hW := hW.frontM (i := 4) rfl rfl
            have hW := hW.frontM (i := 4) rfl rfl
            exact ⟨_, H, hF.re ⟨rfl, rfl, rfl, trivial⟩, hW⟩
          ·
            have H := iteF (of_decide_eq_false hb) H
            rw [hb] at hF
            clear hb
            refine qs_w hF (wanted_y hF rfl rfl rfl rfl) rfl (Nat.le_of_ble_eq_true rfl) ((y_load (v := Value.agg #[.int .i64 p0.1, .int .i64 p0.2.1.1, .int .i64 p0.2.1.2.1, .int .i64 p0.2.1.2.2.1, .int .i64 p0.2.1.2.2.2, .int .i64 p0.2.2.1, .int .i64 p0.2.2.2.1, .int .i64 p0.2.2.2.2.1, .int .i64 p0.2.2.2.2.2]) 4 hF rfl rfl T24 rfl).q) (fun a hF => ?_)
            refine qs_w hF (wanted_y hF rfl rfl rfl rfl) rfl (Nat.le_of_ble_eq_true rfl) ((y_move hF rfl).q) (fun a hF => ?_)
            refine qs_w hF (wanted_y hF rfl rfl rfl rfl) rfl (Nat.le_of_ble_eq_true rfl) ((y_load (v := Value.agg #[.int .i64 p3.1, .int .i64 p3.2.1, .int .i64 p3.2.2.1, .int .i64 p3.2.2.2]) 2 hF rfl rfl T25 rfl).q) (fun a hF => ?_)
            obtain ⟨x15, h12, H⟩ := bindE H
            refine qs_w hF (wanted_y hF rfl rfl rfl rfl) rfl (Nat.le_of_ble_eq_true rfl) (y_call (v := Value.bool x15) hF H16 rfl (fun w hW => match_Hits_c any w p0 p2 p3 _ h12)) (fun a hF => ?_)
            refine qs_w hF (wanted_y hF rfl rfl rfl rfl) rfl (Nat.le_of_ble_eq_true rfl) ((y_load (v := Value.agg #[.int .i64 p0.1, .int .i64 p0.2.1.1, .int .i64 p0.2.1.2.1, .int .i64 p0.2.1.2.2.1, .int .i64 p0.2.1.2.2.2, .int .i64 p0.2.2.1, .int .i64 p0.2.2.2.1, .int .i64 p0.2.2.2.2.1, .int .i64 p0.2.2.2.2.2]) 4 hF rfl rfl T24 rfl).q) (fun a hF => ?_)
            refine qs_w hF (wanted_y hF rfl rfl rfl rfl) rfl (Nat.le_of_ble_eq_true rfl) ((y_move hF rfl).q) (fun a hF => ?_)
            refine qs_w hF (wanted_y hF rfl rfl rfl rfl) rfl (Nat.le_of_ble_eq_true rfl) ((y_load (v := Value.agg #[.int .i64 p3.1, .int .i64 p3.2.1, .int .i64 p3.2.2.1, .int .i64 p3.2.2.2]) 2 hF rfl rfl T25 rfl).q) (fun a hF => ?_)
            obtain ⟨x16, h13, H⟩ := bindE H
            refine qs_w hF (wanted_y hF rfl rfl rfl rfl) rfl (Nat.le_of_ble_eq_true rfl) (y_call (v := Value.bool x16) hF H17 rfl (fun w hW => r08_Hits_c any w p0 p2 p3 _ h13)) (fun a hF => ?_)
            refine qs_w hF (wanted_y hF rfl rfl rfl rfl) rfl (Nat.le_of_ble_eq_true rfl) ((y_neb Tryd.underlying4 hF rfl rfl).q) (fun a hF => ?_)
            refine qs hF rfl ((y_pick_f hF rfl rfl rfl).q) (fun a hF => ?_)
            refine qs hF rfl ((y_move hF rfl).q) (fun a hF => ?_)
            rcases Bool.eq_false_or_eq_true (decide (x15 ≠ x16)) with hb | hb
            ·
              have H := iteT (of_decide_eq_true hb) H
              rw [hb] at hF
              clear hb
              refine qs_skip hF (wanted_n hF rfl rfl rfl rfl rfl) rfl rfl (fun a hF => ?_)
              refine qs_skip hF (wanted_n hF rfl rfl rfl rfl rfl) rfl rfl (fun a hF => ?_)
              refine qs_skip hF (wanted_n hF rfl rfl rfl rfl rfl) rfl rfl (fun a hF => ?_)
              refine qs_skip hF (wanted_n hF rfl rfl rfl rfl rfl) rfl rfl (fun a hF => ?_)
              refine qs_skip hF (wanted_n hF rfl rfl rfl rfl rfl) rfl rfl (fun a hF => ?_)
              refine qs_skip hF (wanted_n hF rfl rfl rfl rfl rfl) rfl rfl (fun a hF => ?_)
              refine qs_skip hF (wanted_n hF rfl rfl rfl rfl rfl) rfl rfl (fun a hF => ?_)
              refine qs hF rfl ((y_pick_t hF rfl rfl rfl).q) (fun a hF => ?_)
              refine qs hF rfl ((y_move hF rfl).q) (fun a hF => ?_)
              refine qs_skip hF (wanted_n hF rfl rfl rfl rfl rfl) rfl rfl (fun a hF => ?_)
              refine qs_skip hF (wanted_n hF rfl rfl rfl rfl rfl) rfl rfl (fun a hF => ?_)
              refine qs_skip hF (wanted_n hF rfl rfl rfl rfl rfl) rfl rfl (fun a hF => ?_)
              refine qs_skip hF (wanted_n hF rfl rfl rfl rfl rfl) rfl rfl (fun a hF => ?_)
              refine qs_skip hF (wanted_n hF rfl rfl rfl rfl rfl) rfl rfl (fun a hF => ?_)
              refine qs hF rfl ((y_pick_t hF rfl rfl rfl).q) (fun a hF => ?_)
              refine quiet_end (fun w hW => ?_)
              refine c_then ?_
              have hW := hW.frontM (i := 4) rfl rfl
              have hW := hW.frontM (i := 4) rfl rfl
              have hW := hW.frontM (i := 4) rfl rfl
              have hW := hW.frontM (i := 4) rfl rfl
              have hW := hW.frontM (i := 4) rfl rfl
              exact ⟨_, H, hF.re ⟨rfl, rfl, rfl, trivial⟩, hW⟩
            ·
              have H := iteF (of_decide_eq_false hb) H
              rw [hb] at hF
              clear hb
              refine qs_w hF (wanted_y hF rfl rfl rfl rfl) rfl (Nat.le_of_ble_eq_true rfl) ((y_load (v := Value.agg #[.int .i64 p0.1, .int .i64 p0.2.1.1, .int .i64 p0.2.1.2.1, .int .i64 p0.2.1.2.2.1, .int .i64 p0.2.1.2.2.2, .int .i64 p0.2.2.1, .int .i64 p0.2.2.2.1, .int .i64 p0.2.2.2.2.1, .int .i64 p0.2.2.2.2.2]) 4 hF rfl rfl T24 rfl).q) (fun a hF => ?_)
              refine qs_w hF (wanted_y hF rfl rfl rfl rfl) rfl (Nat.le_of_ble_eq_true rfl) ((y_load (v := Value.agg #[.int .i64 p1.1, .int .i64 p1.2.1.1, .int .i64 p1.2.1.2.1, .int .i64 p1.2.1.2.2.1, .int .i64 p1.2.1.2.2.2, .int .i64 p1.2.2.1, .int .i64 p1.2.2.2.1, .int .i64 p1.2.2.2.2.1, .int .i64 p1.2.2.2.2.2]) 3 hF rfl rfl T24 rfl).q) (fun a hF => ?_)
              obtain ⟨x17, h14, H⟩ := bindE H
              refine qs_w hF (wanted_y hF rfl rfl rfl rfl) rfl (Nat.le_of_ble_eq_true rfl) (y_call (v := Value.bool x17) hF H18 rfl (fun w hW => match_Within_c any w p0 p1 _ h14)) (fun a hF => ?_)
              refine qs_w hF (wanted_y hF rfl rfl rfl rfl) rfl (Nat.le_of_ble_eq_true rfl) ((y_load (v := Value.agg #[.int .i64 p0.1, .int .i64 p0.2.1.1, .int .i64 p0.2.1.2.1, .int .i64 p0.2.1.2.2.1, .int .i64 p0.2.1.2.2.2, .int .i64 p0.2.2.1, .int .i64 p0.2.2.2.1, .int .i64 p0.2.2.2.2.1, .int .i64 p0.2.2.2.2.2]) 4 hF rfl rfl T24 rfl).q) (fun a hF => ?_)
              refine qs_w hF (wanted_y hF rfl rfl rfl rfl) rfl (Nat.le_of_ble_eq_true rfl) ((y_load (v := Value.agg #[.int .i64 p1.1, .int .i64 p1.2.1.1, .int .i64 p1.2.1.2.1, .int .i64 p1.2.1.2.2.1, .int .i64 p1.2.1.2.2.2, .int .i64 p1.2.2.1, .int .i64 p1.2.2.2.1, .int .i64 p1.2.2.2.2.1, .int .i64 p1.2.2.2.2.2]) 3 hF rfl rfl T24 rfl).q) (fun a hF => ?_)
              obtain ⟨x18, h15, H⟩ := bindE H
              refine qs_w hF (wanted_y hF rfl rfl rfl rfl) rfl (Nat.le_of_ble_eq_true rfl) (y_call (v := Value.bool x18) hF H19 rfl (fun w hW => r08_Within_c any w p0 p1 _ h15)) (fun a hF => ?_)
              refine qs_w hF (wanted_y hF rfl rfl rfl rfl) rfl (Nat.le_of_ble_eq_true rfl) ((y_neb Tryd.underlying4 hF rfl rfl).q) (fun a hF => ?_)
              refine qs hF rfl ((y_pick_f hF rfl rfl rfl).q) (fun a hF => ?_)
              refine qs hF rfl ((y_move hF rfl).q) (fun a hF => ?_)
              rcases Bool.eq_false_or_eq_true (decide (x17 ≠ x18)) with hb | hb
              ·
                have H := iteT (of_decide_eq_true hb) H
                rw [hb] at hF
                clear hb
                refine qs_skip hF (wanted_n hF rfl rfl rfl rfl rfl) rfl rfl (fun a hF => ?_)
                refine qs_skip hF (wanted_n hF rfl rfl rfl rfl rfl) rfl rfl (fun a hF => ?_)
                refine qs_skip hF (wanted_n hF rfl rfl rfl rfl rfl) rfl rfl (fun a hF => ?_)
                refine qs_skip hF (wanted_n hF rfl rfl rfl rfl rfl) rfl rfl (fun a hF => ?_)
                refine qs_skip hF (wanted_n hF rfl rfl rfl rfl rfl) rfl rfl (fun a hF => ?_)
                refine qs hF rfl ((y_pick_t hF rfl rfl rfl).q) (fun a hF => ?_)
                refine quiet_end (fun w hW => ?_)
                refine c_then ?_
                have hW := hW.frontM (i := 4) rfl rfl
                have hW := hW.frontM (i := 4) rfl rfl
                have hW := hW.frontM (i := 4) rfl rfl
                have hW := hW.frontM (i := 4) rfl rfl
                have hW := hW.frontM (i := 4) rfl rfl
                exact ⟨_, H, hF.re ⟨rfl, rfl, rfl, trivial⟩, hW⟩
              ·
                have H := iteF (of_decide_eq_false hb) H
                rw [hb] at hF
                clear hb
                refine qs_w hF (wanted_y hF rfl rfl rfl rfl) rfl (Nat.le_of_ble_eq_true rfl) ((y_load (v := Value.agg #[.int .i64 p0.1, .int .i64 p0.2.1.1, .int .i64 p0.2.1.2.1, .int .i64 p0.2.1.2.2.1, .int .i64 p0.2.1.2.2.2, .int .i64 p0.2.2.1, .int .i64 p0.2.2.2.1, .int .i64 p0.2.2.2.2.1, .int .i64 p0.2.2.2.2.2]) 4 hF rfl rfl T24 rfl).q) (fun a hF => ?_)
                obtain ⟨x19, h16, H⟩ := bindE H
                refine qs_w hF (wanted_y hF rfl rfl rfl rfl) rfl (Nat.le_of_ble_eq_true rfl) (y_call (v := Value.int .i64 x19) hF H20 rfl (fun w hW => match_Asked_c any w p0 _ h16)) (fun a hF => ?_)
                refine qs_w hF (wanted_y hF rfl rfl rfl rfl) rfl (Nat.le_of_ble_eq_true rfl) ((y_load (v := Value.agg #[.int .i64 p0.1, .int .i64 p0.2.1.1, .int .i64 p0.2.1.2.1, .int .i64 p0.2.1.2.2.1, .int .i64 p0.2.1.2.2.2, .int .i64 p0.2.2.1, .int .i64 p0.2.2.2.1, .int .i64 p0.2.2.2.2.1, .int .i64 p0.2.2.2.2.2]) 4 hF rfl rfl T24 rfl).q) (fun a hF => ?_)
                obtain ⟨x20, h17, H⟩ := bindE H
                refine qs_w hF (wanted_y hF rfl rfl rfl rfl) rfl (Nat.le_of_ble_eq_true rfl) (y_call (v := Value.int .i64 x20) hF H21 rfl (fun w hW => r08_Asked_c any w p0 _ h17)) (fun a hF => ?_)
                refine qs_w hF (wanted_y hF rfl rfl rfl rfl) rfl (Nat.le_of_ble_eq_true rfl) ((y_neq hF rfl rfl).q) (fun a hF => ?_)
                refine qs hF rfl ((y_pick_f hF rfl rfl rfl).q) (fun a hF => ?_)
                refine quiet_end (fun w hW => ?_)
                refine c_then ?_
                have hW := hW.frontM (i := 4) rfl rfl
                have hW := hW.frontM (i := 4) rfl rfl
                have hW := hW.frontM (i := 4) rfl rfl
                have hW := hW.frontM (i := 4) rfl rfl
                have hW := hW.frontM (i := 4) rfl rfl
                exact ⟨_, H, hF.re ⟨rfl, rfl, rfl, trivial⟩, hW⟩
      rintro a w ⟨x14, hj, hF, hW⟩
      have hj := Option.some.inj hj
      subst hj
      have H := K3
      clear G3 K3
      refine c_cond hF rfl (fun hb => ?_) (fun hb => ?_)
      ·
        have H := iteT hb H
        rw [hb] at hF
        clear hb
        refine c_seq ?_
        refine reg_list ?_
        refine ls hF hW rfl ((y_assign hF rfl).q) (fun a w hF hW => ?_)
        refine ls_nil ?_
        refine c_then ?_
        refine wp_ret ?_
        refine r_then ?_
        have H := Option.some.inj H
        subst H
        refine post1 (.inl rfl) hF hW rfl (rv_tmp hF rfl) ?_
        exact ⟨rfl, hW.done⟩
      ·
        have H := iteF (by rw [hb]; decide) H
        rw [hb] at hF
        clear hb
        refine wp_skip ?_
        refine c_then ?_
        obtain ⟨o4, G4, K4⟩ := bindE H
        refine c_seqJ (fun a w => ∃ x21 : Bool, some (x21) = some o4 ∧ Fr 112 [] [(12, .bool x21)] a ∧ Stw ⟨Y, [], w0⟩ [(b5, [.int .i64 x13.1.1, .int .i64 x13.1.2.1.1, .int .i64 x13.1.2.1.2.1, .int .i64 x13.1.2.1.2.2.1, .int .i64 x13.1.2.1.2.2.2, .int .i64 x13.1.2.2.1, .int .i64 x13.1.2.2.2.1, .int .i64 x13.1.2.2.2.2.1, .int .i64 x13.1.2.2.2.2.2]), (b4, [.int .i64 x12.1.1, .int .i64 x12.1.2.1.1, .int .i64 x12.1.2.1.2.1, .int .i64 x12.1.2.1.2.2.1, .int .i64 x12.1.2.1.2.2.2, .int .i64 x12.1.2.2.1, .int .i64 x12.1.2.2.2.1, .int .i64 x12.1.2.2.2.2.1, .int .i64 x12.1.2.2.2.2.2]), (b3, [.int .i64 p3.1, .int .i64 p3.2.1, .int .i64 p3.2.2.1, .int .i64 p3.2.2.2]), (b2, [.int .i64 p1.1, .int .i64 p1.2.1.1, .int .i64 p1.2.1.2.1, .int .i64 p1.2.1.2.2.1, .int .i64 p1.2.1.2.2.2, .int .i64 p1.2.2.1, .int .i64 p1.2.2.2.1, .int .i64 p1.2.2.2.2.1, .int .i64 p1.2.2.2.2.2]), (b1, [.int .i64 p0.1, .int .i64 p0.2.1.1, .int .i64 p0.2.1.2.1, .int .i64 p0.2.1.2.2.1, .int .i64 p0.2.1.2.2.2, .int .i64 p0.2.2.1, .int .i64 p0.2.2.2.1, .int .i64 p0.2.2.2.2.1, .int .i64 p0.2.2.2.2.2])] [] w) ?_ ?_
        ·
          have H := G4
          clear G4 K4
          refine reg_quiet hW MO (by kernel_rfl) ?_
          refine qs hF rfl ((y_load (v := Value.agg #[.int .i64 p0.1, .int .i64 p0.2.1.1, .int .i64 p0.2.1.2.1, .int .i64 p0.2.1.2.2.1, .int .i64 p0.2.1.2.2.2, .int .i64 p0.2.2.1, .int .i64 p0.2.2.2.1, .int .i64 p0.2.2.2.2.1, .int .i64 p0.2.2.2.2.2]) 4 hF rfl rfl T24 rfl).q) (fun a hF => ?_)
          obtain ⟨x22, h18, H⟩ := bindE H
          refine qs hF rfl (y_call (v := Value.string (bs x22)) hF H22 rfl (fun w hW => match_Code_c any w p0 _ h18)) (fun a hF => ?_)
          refine qs hF rfl ((y_load (v := Value.agg #[.int .i64 p0.1, .int .i64 p0.2.1.1, .int .i64 p0.2.1.2.1, .int .i64 p0.2.1.2.2.1, .int .i64 p0.2.1.2.2.2, .int .i64 p0.2.2.1, .int .i64 p0.2.2.2.1, .int .i64 p0.2.2.2.2.1, .int .i64 p0.2.2.2.2.2]) 4 hF rfl rfl T24 rfl).q) (fun a hF => ?_)
          obtain ⟨x23, h19, H⟩ := bindE H
          refine qs hF rfl (y_call (v := Value.string (bs x23)) hF H23 rfl (fun w hW => r08_Code_c any w p0 _ h19)) (fun a hF => ?_)
          refine qs hF rfl ((y_seq (l := x22) (m := x23) hF rfl rfl).q) (fun a hF => ?_)
          refine qs hF rfl ((y_move hF rfl).q) (fun a hF => ?_)
          rcases Bool.eq_false_or_eq_true (decide (x22 = x23)) with hb | hb
          ·
            have H := iteT (of_decide_eq_true hb) H
            rw [hb] at hF
            clear hb
            refine qs_w hF (wanted_y hF rfl rfl rfl rfl) rfl (Nat.le_of_ble_eq_true rfl) ((y_load (v := Value.agg #[.int .i64 p0.1, .int .i64 p0.2.1.1, .int .i64 p0.2.1.2.1, .int .i64 p0.2.1.2.2.1, .int .i64 p0.2.1.2.2.2, .int .i64 p0.2.2.1, .int .i64 p0.2.2.2.1, .int .i64 p0.2.2.2.2.1, .int .i64 p0.2.2.2.2.2]) 4 hF rfl rfl T24 rfl).q) (fun a hF => ?_)
            obtain ⟨x24, h20, H⟩ := bindE H
            refine qs_w hF (wanted_y hF rfl rfl rfl rfl) rfl (Nat.le_of_ble_eq_true rfl) (y_call (v := Value.string (bs x24)) hF H24 rfl (fun w hW => match_Text_c any w p0 _ h20 (hG.go0 hW))) (fun a hF => ?_)
            refine qs_w hF (wanted_y hF rfl rfl rfl rfl) rfl (Nat.le_of_ble_eq_true rfl) ((y_load (v := Value.agg #[.int .i64 p0.1, .int .i64 p0.2.1.1, .int .i64 p0.2.1.2.1, .int .i64 p0.2.1.2.2.1, .int .i64 p0.2.1.2.2.2, .int .i64 p0.2.2.1, .int .i64 p0.2.2.2.1, .int .i64 p0.2.2.2.2.1, .int .i64 p0.2.2.2.2.2]) 4 hF rfl rfl T24 rfl).q) (fun a hF => ?_)
            obtain ⟨x25, h21, H⟩ := bindE H
            refine qs_w hF (wanted_y hF rfl rfl rfl rfl) rfl (Nat.le_of_ble_eq_true rfl) (y_call (v := Value.string (bs x25)) hF H25 rfl (fun w hW => r08_Text_c any w p0 _ h21)) (fun a hF => ?_)
            refine qs_w hF (wanted_y hF rfl rfl rfl rfl) rfl (Nat.le_of_ble_eq_true rfl) ((y_seq (l := x24) (m := x25) hF rfl rfl).q) (fun a hF => ?_)
            refine qs hF rfl ((y_pick_t hF rfl rfl rfl).q) (fun a hF => ?_)
            refine qs hF rfl ((y_move hF rfl).q) (fun a hF => ?_)
            rcases Bool.eq_false_or_eq_true (decide (x24 = x25)) with hb | hb
            ·
              have H := iteT (of_decide_eq_true hb) H
              rw [hb] at hF
              clear hb
              obtain ⟨x26, h22, H⟩ := bindE H
              refine qs_w hF (wanted_y hF rfl rfl rfl rfl) rfl (Nat.le_of_ble_eq_true rfl) (y_call (v := Value.bool x26) hF H13 rfl (fun w hW => L08_awake_c any w _ h22 (hG.go0 hW))) (fun a hF => ?_)
              refine qs hF rfl ((y_pick_t hF rfl rfl rfl).q) (fun a hF => ?_)
              refine qs hF rfl ((y_assign hF rfl).q) (fun a hF => ?_)
              refine quiet_end (fun w hW => ?_)
              refine c_then ?_
              have hW := hW.frontM (i := 4) rfl rfl
              have hW := hW.frontM (i := 4) rfl rfl
              have hW := hW.frontM (i := 4) rfl rfl
              have hW := hW.frontM (i := 4) rfl rfl
              have hW := hW.frontM (i := 4) rfl rfl
              exact ⟨_, H, hF.re ⟨rfl, trivial⟩, hW⟩
            ·
              have H := iteF (of_decide_eq_false hb) H
              rw [hb] at hF
              clear hb
              refine qs_skip hF (wanted_n hF rfl rfl rfl rfl rfl) rfl rfl (fun a hF => ?_)
              refine qs hF rfl ((y_pick_f hF rfl rfl rfl).q) (fun a hF => ?_)
              refine qs hF rfl ((y_assign hF rfl).q) (fun a hF => ?_)
              refine quiet_end (fun w hW => ?_)
              refine c_then ?_
              have hW := hW.frontM (i := 4) rfl rfl
              have hW := hW.frontM (i := 4) rfl rfl
              have hW := hW.frontM (i := 4) rfl rfl
              have hW := hW.frontM (i := 4) rfl rfl
              have hW := hW.frontM (i := 4) rfl rfl
              exact ⟨_, H, hF.re ⟨rfl, trivial⟩, hW⟩
          ·
            have H := iteF (of_decide_eq_false hb) H
            rw [hb] at hF
            clear hb
            refine qs_skip hF (wanted_n hF rfl rfl rfl rfl rfl) rfl rfl (fun a hF => ?_)
            refine qs_skip hF (wanted_n hF rfl rfl rfl rfl rfl) rfl rfl (fun a hF => ?_)
            refine qs_skip hF (wanted_n hF rfl rfl rfl rfl rfl) rfl rfl (fun a hF => ?_)
            refine qs_skip hF (wanted_n hF rfl rfl rfl rfl rfl) rfl rfl (fun a hF => ?_)
            refine qs_skip hF (wanted_n hF rfl rfl rfl rfl rfl) rfl rfl (fun a hF => ?_)
            refine qs hF rfl ((y_pick_f hF rfl rfl rfl).q) (fun a hF => ?_)
            refine qs hF rfl ((y_move hF rfl).q) (fun a hF => ?_)
            refine qs_skip hF (wanted_n hF rfl rfl rfl rfl rfl) rfl rfl (fun a hF => ?_)
            refine qs hF rfl ((y_pick_f hF rfl rfl rfl).q) (fun a hF => ?_)
            refine qs hF rfl ((y_assign hF rfl).q) (fun a hF => ?_)
            refine quiet_end (fun w hW => ?_)
            refine c_then ?_
            have hW := hW.frontM (i := 4) rfl rfl
            have hW := hW.frontM (i := 4) rfl rfl
            have hW := hW.frontM (i := 4) rfl rfl
            have hW := hW.frontM (i := 4) rfl rfl
            have hW := hW.frontM (i := 4) rfl rfl
            exact ⟨_, H, hF.re ⟨rfl, trivial⟩, hW⟩
        rintro a w ⟨x21, hj, hF, hW⟩
        have hj := Option.some.inj hj
        subst hj
        have H := K4
        clear G4 K4
        refine wp_ret ?_
        have H := Option.some.inj H
        subst H
        refine post1 (.inl rfl) hF hW rfl (rv_tmp hF rfl) ?_
        exact ⟨rfl, hW.done⟩

theorem B71 : Bt Tryd.prog 71 [.string (bs ([] : List UInt8)), .int .i64 0] [(0, 1), (1, 1)] := ⟨⟨.agg #[.string (bs ([] : List UInt8)), .int .i64 0], by kernel_rfl, rfl⟩, ⟨_, Tryd.underlying71, fun w => by kernel_rfl⟩⟩
def octet_Open (p0 : List UInt8) : (List UInt8 × Int) := (p0, 0)
theorem octet_Open_c (Y : Nat → Prop) (w0 : World)  (p0 : List UInt8) (r : (List UInt8 × Int)) (H : octet_Open p0 = r)  :
    Calls Tryd.prog 26 #[.string (bs p0)] w0 fun e w' => ∃ x : Nat, e = .returned (.pointer (some ⟨x, 0, none⟩)) ∧ Stw ⟨Y, [], w0⟩ [(x, [.string (bs r.1), .int .i64 r.2])] [] w' := by
  refine enter Tryd.func26 rfl Tryd.ntmps26 rfl (fun a hF => ?_)
  have hW := Stw.start Y w0
  unfold octet_Open at H
  refine c_seq ?_
  refine reg_list ?_
  refine ls hF hW rfl ((y_assign hF rfl).q) (fun a w hF hW => ?_)
  refine ls_nil ?_
  refine c_then ?_
  refine c_seq ?_
  refine reg_list ?_
  refine ls hF hW rfl ((y_move hF rfl).q) (fun a w hF hW => ?_)
  refine ls hF hW rfl ((y_build (v := Value.agg #[.string (bs p0), .int .i64 0]) B71 hF rfl rfl rfl).q) (fun a w hF hW => ?_)
  refine l_box (cs := [.string (bs p0), .int .i64 0]) hF hW rfl rfl rfl (fun b1 a w hF hW => ?_)
  refine ls hF hW rfl ((y_assign hF rfl).q) (fun a w hF hW => ?_)
  refine ls_nil ?_
  refine c_then ?_
  refine wp_ret ?_
  subst H
  refine post1 (.inl rfl) hF hW rfl (rv_tmp hF rfl) ?_
  exact ⟨b1, rfl, hW⟩

theorem H26 : Has Tryd.prog 26 := ⟨fun args w => run_callFunc_body Tryd.func26 rfl (by decide) args w⟩
theorem B42 : Bt Tryd.prog 42 [.string (bs ([] : List UInt8)), .int .i64 0, .int .i64 0] [(0, 1), (1, 1), (2, 1)] := ⟨⟨.agg #[.string (bs ([] : List UInt8)), .int .i64 0, .int .i64 0], by kernel_rfl, rfl⟩, ⟨_, Tryd.underlying42, fun w => by kernel_rfl⟩⟩
theorem T46 : Ty Tryd.prog 46 false 1 := ⟨by kernel_rfl, by kernel_rfl⟩
def octet_Reader_Ok (p0 : List UInt8 × Int) : Bool := decide (p0.2 = 0)
theorem octet_Reader_Ok_c (Y : Nat → Prop) (w0 : World) (q_p0 : Nat) (p0 : List UInt8 × Int) (r : Bool) (H : octet_Reader_Ok p0 = r) (a_q_p0 : At ⟨Y, [], w0⟩ q_p0 0 [.string (bs p0.1), .int .i64 p0.2]) :
    Calls Tryd.prog 48 #[.pointer (some ⟨q_p0, 0, none⟩)] w0 fun e w' => e = .returned (.bool r) ∧ Below w0.heap.size w0 w' := by
  refine enter Tryd.func48 rfl Tryd.ntmps48 rfl (fun a hF => ?_)
  have hW := Stw.start Y w0
  unfold octet_Reader_Ok at H
  refine c_seq ?_
  refine reg_list ?_
  refine ls hF hW rfl ((y_assign hF rfl).q) (fun a w hF hW => ?_)
  refine ls_nil ?_
  refine c_then ?_
  refine c_seq ?_
  refine reg_list ?_
  refine ls hF hW rfl ((y_move hF rfl).q) (fun a w hF hW => ?_)
  refine ls hF hW rfl ((y_pne_some_nil Tryd.underlying38 hF rfl rfl).q) (fun a w hF hW => ?_)
  refine ls hF hW rfl ((y_move hF rfl).q) (fun a w hF hW => ?_)
  refine ls_w hF hW (wanted_y hF rfl rfl rfl rfl) rfl (Nat.le_of_ble_eq_true rfl) ((y_move hF rfl).q) (fun a w hF hW => ?_)
  refine ls_w hF hW (wanted_y hF rfl rfl rfl rfl) rfl (Nat.le_of_ble_eq_true rfl) ((y_nilCheck hF rfl).q) (fun a w hF hW => ?_)
  refine ls_w hF hW (wanted_y hF rfl rfl rfl rfl) rfl (Nat.le_of_ble_eq_true rfl) ((y_fieldAddr Tryd.underlying71 rfl rfl rfl T46 hF rfl 1 rfl).q) (fun a w hF hW => ?_)
  refine ls_w hF hW (wanted_y hF rfl rfl rfl rfl) rfl (Nat.le_of_ble_eq_true rfl) ((y_load_at (y := Value.int .i64 p0.2) (j := 1) hF rfl (Nat.zero_add _).symm a_q_p0 T46 rfl).q) (fun a w hF hW => ?_)
  refine ls_w hF hW (wanted_y hF rfl rfl rfl rfl) rfl (Nat.le_of_ble_eq_true rfl) ((y_eql hF rfl rfl).q) (fun a w hF hW => ?_)
  refine ls hF hW rfl ((y_pick_t hF rfl rfl rfl).q) (fun a w hF hW => ?_)
  refine ls hF hW rfl ((y_assign hF rfl).q) (fun a w hF hW => ?_)
  refine ls_nil ?_
  refine c_then ?_
  refine wp_ret ?_
  subst H
  refine post1 (.inl rfl) hF hW rfl (rv_tmp hF rfl) ?_
  exact ⟨rfl, hW.done⟩

theorem H48 : Has Tryd.prog 48 := ⟨fun args w => run_callFunc_body Tryd.func48 rfl (by decide) args w⟩
def octet_Reader_Wrong (p0 : List UInt8 × Int) (p1 : Int) : (List UInt8 × Int) := (if (octet_Reader_Ok p0) = true then (p0.1, p1) else p0)
theorem octet_Reader_Wrong_c (Y : Nat → Prop) (X : List Nat) (w0 : World) (q_p0 : Nat) (p0 : List UInt8 × Int) (p1 : Int) (r : (List UInt8 × Int)) (H : octet_Reader_Wrong p0 p1 = r) (hL : Stw ⟨Y, X, w0⟩ [(q_p0, [.string (bs p0.1), .int .i64 p0.2])] [] w0) :
    Calls Tryd.prog 47 #[.pointer (some ⟨q_p0, 0, none⟩), .int .i64 p1] w0 fun e w' => ∃ x : Unit, e = .returned (.tuple #[]) ∧ Stw ⟨Y, X, w0⟩ [(q_p0, [.string (bs r.1), .int .i64 r.2])] [] w' := by
  refine enter Tryd.func47 rfl Tryd.ntmps47 rfl (fun a hF => ?_)
  have hW := hL
  unfold octet_Reader_Wrong at H
  refine c_seq ?_
  refine reg_list ?_
  refine ls hF hW rfl ((y_move hF rfl).q) (fun a w hF hW => ?_)
  refine ls hF hW rfl (y_call (v := Value.bool (octet_Reader_Ok p0)) hF H48 rfl (fun w hW => octet_Reader_Ok_c any w q_p0 p0 _ rfl (at_M hW 0 rfl))) (fun a w hF hW => ?_)
  refine ls_nil ?_
  refine c_then ?_
  refine c_cond hF rfl (fun hb => ?_) (fun hb => ?_)
  ·
    have H := iteT hb H
    rw [hb] at hF
    clear hb
    refine reg_list ?_
    refine ls hF hW rfl ((y_move hF rfl).q) (fun a w hF hW => ?_)
    refine ls hF hW rfl ((y_move hF rfl).q) (fun a w hF hW => ?_)
    refine ls hF hW rfl ((y_nilCheck hF rfl).q) (fun a w hF hW => ?_)
    refine ls hF hW rfl ((y_fieldAddr Tryd.underlying71 rfl rfl rfl T46 hF rfl 1 rfl).q) (fun a w hF hW => ?_)
    refine l_store (vs := [.int .i64 p1]) (M' := [(q_p0, [.string (bs p0.1), .int .i64 p1])]) 0 hF hW rfl rfl rfl T46 rfl rfl rfl rfl rfl (fun w hW => ?_)
    refine ls_nil ?_
    subst H
    refine post0 (.inr rfl) hF rfl ?_
    exact ⟨(), rfl, hW⟩
  ·
    have H := iteF (by rw [hb]; decide) H
    rw [hb] at hF
    clear hb
    refine wp_skip ?_
    subst H
    refine post0 (.inr rfl) hF rfl ?_
    exact ⟨(), rfl, hW⟩

theorem H47 : Has Tryd.prog 47 := ⟨fun args w => run_callFunc_body Tryd.func47 rfl (by decide) args w⟩
def octet_Reader_Left (p0 : List UInt8 × Int) : Int := (if (!(octet_Reader_Ok p0)) = true then 0 else (p0.1.length : Int))
theorem octet_Reader_Left_c (Y : Nat → Prop) (w0 : World) (q_p0 : Nat) (p0 : List UInt8 × Int) (r : Int) (H : octet_Reader_Left p0 = r) (a_q_p0 : At ⟨Y, [], w0⟩ q_p0 0 [.string (bs p0.1), .int .i64 p0.2]) :
    Calls Tryd.prog 29 #[.pointer (some ⟨q_p0, 0, none⟩)] w0 fun e w' => e = .returned (.int .i64 r) ∧ Below w0.heap.size w0 w' := by
  refine enter Tryd.func29 rfl Tryd.ntmps29 rfl (fun a hF => ?_)
  have hW := Stw.start Y w0
  unfold octet_Reader_Left at H
  refine c_seq ?_
  refine reg_list ?_
  refine ls hF hW rfl ((y_assign hF rfl).q) (fun a w hF hW => ?_)
  refine ls_nil ?_
  refine c_then ?_
  refine c_seq ?_
  refine c_seq ?_
  refine reg_list ?_
  refine ls hF hW rfl ((y_move hF rfl).q) (fun a w hF hW => ?_)
  refine ls hF hW rfl (y_call (v := Value.bool (octet_Reader_Ok p0)) hF H48 rfl (fun w hW => octet_Reader_Ok_c any w q_p0 p0 _ rfl (At.re a_q_p0 hW))) (fun a w hF hW => ?_)
  refine ls hF hW rfl ((y_not hF rfl).q) (fun a w hF hW => ?_)
  refine ls_nil ?_
  refine c_then ?_
  refine c_cond hF rfl (fun hb => ?_) (fun hb => ?_)
  ·
    have H := iteT hb H
    rw [hb] at hF
    clear hb
    refine c_seq ?_
    refine reg_list ?_
    refine ls hF hW rfl ((y_assign hF rfl).q) (fun a w hF hW => ?_)
    refine ls_nil ?_
    refine c_then ?_
    refine wp_ret ?_
    refine r_then ?_
    subst H
    refine post1 (.inl rfl) hF hW rfl (rv_tmp hF rfl) ?_
    exact ⟨rfl, hW.done⟩
  ·
    have H := iteF (by rw [hb]; decide) H
    rw [hb] at hF
    clear hb
    refine wp_skip ?_
    refine c_then ?_
    refine c_seq ?_
    refine reg_list ?_
    refine ls hF hW rfl ((y_move hF rfl).q) (fun a w hF hW => ?_)
    refine ls hF hW rfl ((y_nilCheck hF rfl).q) (fun a w hF hW => ?_)
    refine ls hF hW rfl ((y_fieldAddr Tryd.underlying71 rfl rfl rfl T9 hF rfl 0 rfl).q) (fun a w hF hW => ?_)
    refine ls hF hW rfl ((y_load_at (y := Value.string (bs p0.1)) (j := 0) hF rfl (Nat.zero_add _).symm a_q_p0 T9 rfl).q) (fun a w hF hW => ?_)
    refine ls hF hW rfl ((y_slen (l := p0.1) Tryd.underlying9 rfl hF rfl).q) (fun a w hF hW => ?_)
    refine ls hF hW rfl ((y_assign hF rfl).q) (fun a w hF hW => ?_)
    refine ls_nil ?_
    refine c_then ?_
    refine wp_ret ?_
    subst H
    refine post1 (.inl rfl) hF hW rfl (rv_tmp hF rfl) ?_
    exact ⟨rfl, hW.done⟩

theorem H29 : Has Tryd.prog 29 := ⟨fun args w => run_callFunc_body Tryd.func29 rfl (by decide) args w⟩
noncomputable def octet_Reader_Take (p0 : List UInt8 × Int) (p1 : Int) : Option (List UInt8 × (List UInt8 × Int)) := (if p1 < 0 then some ((octet_Reader_Wrong p0 2).1, (octet_Reader_Wrong p0 2).2) else (if (octet_Reader_Left p0) < p1 then some ((octet_Reader_Wrong p0 3).1, (octet_Reader_Wrong p0 3).2) else some (p0.1, p0.2))).bind fun (x1, x2) => (if (!(octet_Reader_Ok (x1, x2))) = true then some (([] : List UInt8), (x1, x2)) else (subl x1 0 p1).bind fun x3 => (subl x1 p1 (x1.length : Int)).bind fun x4 => some (x3, (x4, x2)))
theorem octet_Reader_Take_c (Y : Nat → Prop) (X : List Nat) (w0 : World) (q_p0 : Nat) (p0 : List UInt8 × Int) (p1 : Int) (r : List UInt8 × (List UInt8 × Int)) (H : octet_Reader_Take p0 p1 = some r) (hL : Stw ⟨Y, X, w0⟩ [(q_p0, [.string (bs p0.1), .int .i64 p0.2])] [] w0) :
    Calls Tryd.prog 63 #[.pointer (some ⟨q_p0, 0, none⟩), .int .i64 p1] w0 fun e w' => ∃ x : Unit, e = .returned (.string (bs r.1)) ∧ Stw ⟨Y, X, w0⟩ [(q_p0, [.string (bs r.2.1), .int .i64 r.2.2])] [] w' := by
  refine enter Tryd.func63 rfl Tryd.ntmps63 rfl (fun a hF => ?_)
  have hW := hL
  unfold octet_Reader_Take at H
  refine c_seq ?_
  refine reg_list ?_
  refine ls hF hW rfl ((y_assign (v := Value.string (bs ([] : List UInt8))) hF rfl).q) (fun a w hF hW => ?_)
  refine ls_nil ?_
  refine c_then ?_
  obtain ⟨o1, G1, K1⟩ := bindE H
  refine c_seqJ (fun a w => ∃ x1 : List UInt8, ∃ x2 : Int, some ((x1, x2)) = some o1 ∧ Fr 37 [] [(0, .pointer (some ⟨q_p0, 0, none⟩)), (1, .int .i64 p1), (4, .string (bs ([] : List UInt8)))] a ∧ Stw ⟨Y, X, w0⟩ [(q_p0, [.string (bs x1), .int .i64 x2])] [] w) ?_ ?_
  ·
    have H := G1
    clear G1 K1
    refine wp_block ?_
    refine c_seq ?_
    refine reg_list ?_
    refine ls hF hW rfl ((y_move hF rfl).q) (fun a w hF hW => ?_)
    refine ls hF hW rfl ((y_lss hF rfl rfl).q) (fun a w hF hW => ?_)
    refine ls hF hW rfl ((y_assign hF rfl).q) (fun a w hF hW => ?_)
    refine ls_nil ?_
    refine c_then ?_
    refine c_cond hF rfl (fun hb => ?_) (fun hb => ?_)
    ·
      have H := iteT (of_decide_eq_true hb) H
      rw [hb] at hF
      clear hb
      refine reg_list ?_
      refine ls hF hW rfl ((y_move hF rfl).q) (fun a w hF hW => ?_)
      refine l_callG (Ml := [(q_p0, [.string (bs p0.1), .int .i64 p0.2])]) (Zl := []) (M := []) (Z := []) (β := Unit) (rv := fun x => .tuple #[]) (MM := fun x => [(q_p0, [.string (bs ((octet_Reader_Wrong p0 2).1)), .int .i64 ((octet_Reader_Wrong p0 2).2)])]) (ZZ := fun x => []) hF hW H47 rfl rfl (fun hL => octet_Reader_Wrong_c _ _ w q_p0 p0 2 _ rfl hL) (fun x a w hF hW => ?_)
      have hW : Stw ⟨Y, X, w0⟩ [(q_p0, [.string (bs ((octet_Reader_Wrong p0 2).1)), .int .i64 ((octet_Reader_Wrong p0 2).2)])] [] w := hW
      refine ls_nil ?_
      refine b_normal ?_
      refine c_then ?_
      exact ⟨_, _, H, hF.re ⟨rfl, rfl, rfl, trivial⟩, hW⟩
    ·
      have H := iteF (of_decide_eq_false hb) H
      rw [hb] at hF
      clear hb
      refine c_seq ?_
      refine reg_list ?_
      refine ls hF hW rfl ((y_move hF rfl).q) (fun a w hF hW => ?_)
      refine ls hF hW rfl ((y_move hF rfl).q) (fun a w hF hW => ?_)
      refine ls hF hW rfl (y_call (v := Value.int .i64 (octet_Reader_Left p0)) hF H29 rfl (fun w hW => octet_Reader_Left_c any w q_p0 p0 _ rfl (at_M hW 0 rfl))) (fun a w hF hW => ?_)
      refine ls hF hW rfl ((y_gtr hF rfl rfl).q) (fun a w hF hW => ?_)
      refine ls hF hW rfl ((y_assign hF rfl).q) (fun a w hF hW => ?_)
      refine ls_nil ?_
      refine c_then ?_
      refine c_cond hF rfl (fun hb => ?_) (fun hb => ?_)
      ·
        have H := iteT (of_decide_eq_true hb) H
        rw [hb] at hF
        clear hb
        refine reg_list ?_
        refine ls hF hW rfl ((y_move hF rfl).q) (fun a w hF hW => ?_)
        refine l_callG (Ml := [(q_p0, [.string (bs p0.1), .int .i64 p0.2])]) (Zl := []) (M := []) (Z := []) (β := Unit) (rv := fun x => .tuple #[]) (MM := fun x => [(q_p0, [.string (bs ((octet_Reader_Wrong p0 3).1)), .int .i64 ((octet_Reader_Wrong p0 3).2)])]) (ZZ := fun x => []) hF hW H47 rfl rfl (fun hL => octet_Reader_Wrong_c _ _ w q_p0 p0 3 _ rfl hL) (fun x a w hF hW => ?_)
        have hW : Stw ⟨Y, X, w0⟩ [(q_p0, [.string (bs ((octet_Reader_Wrong p0 3).1)), .int .i64 ((octet_Reader_Wrong p0 3).2)])] [] w := hW
        refine ls_nil ?_
        refine b_normal ?_
        refine c_then ?_
        exact ⟨_, _, H, hF.re ⟨rfl, rfl, rfl, trivial⟩, hW⟩
      ·
        have H := iteF (of_decide_eq_false hb) H
        rw [hb] at hF
        clear hb
        refine wp_skip ?_
        refine b_normal ?_
        refine c_then ?_
        exact ⟨_, _, H, hF.re ⟨rfl, rfl, rfl, trivial⟩, hW⟩
  rintro a w ⟨x1, x2, hj, hF, hW⟩
  have hj := Option.some.inj hj
  subst hj
  have H := K1
  clear G1 K1
  refine c_seq ?_
  refine c_seq ?_
  refine reg_list ?_
  refine ls hF hW rfl ((y_move hF rfl).q) (fun a w hF hW => ?_)
  refine ls hF hW rfl (y_call (v := Value.bool (octet_Reader_Ok (x1, x2))) hF H48 rfl (fun w hW => octet_Reader_Ok_c any w q_p0 (x1, x2) _ rfl (at_M hW 0 rfl))) (fun a w hF hW => ?_)
  refine ls hF hW rfl ((y_not hF rfl).q) (fun a w hF hW => ?_)
  refine ls_nil ?_
  refine c_then ?_
  refine c_cond hF rfl (fun hb => ?_) (fun hb => ?_)
  ·
    have H := iteT hb H
    rw [hb] at hF
    clear hb
    refine c_seq ?_
    refine reg_list ?_
    refine ls hF hW rfl ((y_assign (v := Value.string (bs ([] : List UInt8))) hF rfl).q) (fun a w hF hW => ?_)
    refine ls_nil ?_
    refine c_then ?_
    refine wp_ret ?_
    refine r_then ?_
    have H := Option.some.inj H
    subst H
    refine post1 (.inl rfl) hF hW rfl (rv_tmp hF rfl) ?_
    exact ⟨(), rfl, hW⟩
  ·
    have H := iteF (by rw [hb]; decide) H
    rw [hb] at hF
    clear hb
    refine wp_skip ?_
    refine c_then ?_
    refine c_seq ?_
    refine reg_list ?_
    refine ls hF hW rfl ((y_move hF rfl).q) (fun a w hF hW => ?_)
    refine ls hF hW rfl ((y_nilCheck hF rfl).q) (fun a w hF hW => ?_)
    refine ls hF hW rfl ((y_fieldAddr Tryd.underlying71 rfl rfl rfl T9 hF rfl 0 rfl).q) (fun a w hF hW => ?_)
    refine ls hF hW rfl ((y_load (v := Value.string (bs x1)) 0 hF rfl rfl T9 rfl).q) (fun a w hF hW => ?_)
    refine ls hF hW rfl ((y_move hF rfl).q) (fun a w hF hW => ?_)
    obtain ⟨x3, h1, H⟩ := bindE H
    refine ls hF hW rfl ((y_sslice (l := x1) Tryd.underlying9 hF rfl rfl rfl h1).q) (fun a w hF hW => ?_)
    refine ls hF hW rfl ((y_assign hF rfl).q) (fun a w hF hW => ?_)
    refine ls_nil ?_
    refine c_then ?_
    refine c_seq ?_
    refine reg_list ?_
    refine ls hF hW rfl ((y_move hF rfl).q) (fun a w hF hW => ?_)
    refine ls hF hW rfl ((y_move hF rfl).q) (fun a w hF hW => ?_)
    refine ls hF hW rfl ((y_nilCheck hF rfl).q) (fun a w hF hW => ?_)
    refine ls hF hW rfl ((y_fieldAddr Tryd.underlying71 rfl rfl rfl T9 hF rfl 0 rfl).q) (fun a w hF hW => ?_)
    refine ls hF hW rfl ((y_load (v := Value.string (bs x1)) 0 hF rfl rfl T9 rfl).q) (fun a w hF hW => ?_)
    refine ls hF hW rfl ((y_move hF rfl).q) (fun a w hF hW => ?_)
    obtain ⟨x4, h2, H⟩ := bindE H
    refine ls hF hW rfl ((y_sslice (l := x1) Tryd.underlying9 hF rfl rfl rfl h2).q) (fun a w hF hW => ?_)
    refine ls hF hW rfl ((y_nilCheck hF rfl).q) (fun a w hF hW => ?_)
    refine ls hF hW rfl ((y_fieldAddr Tryd.underlying71 rfl rfl rfl T9 hF rfl 0 rfl).q) (fun a w hF hW => ?_)
    refine l_store (vs := [.string (bs x4)]) (M' := [(q_p0, [.string (bs x4), .int .i64 x2])]) 0 hF hW rfl rfl rfl T9 rfl rfl rfl rfl rfl (fun w hW => ?_)
    refine ls_nil ?_
    refine c_then ?_
    refine c_seq ?_
    refine reg_list ?_
    refine ls hF hW rfl ((y_move hF rfl).q) (fun a w hF hW => ?_)
    refine ls hF hW rfl ((y_assign hF rfl).q) (fun a w hF hW => ?_)
    refine ls_nil ?_
    refine c_then ?_
    refine wp_ret ?_
    have H := Option.some.inj H
    subst H
    refine post1 (.inl rfl) hF hW rfl (rv_tmp hF rfl) ?_
    exact ⟨(), rfl, hW⟩

theorem H63 : Has Tryd.prog 63 := ⟨fun args w => run_callFunc_body Tryd.func63 rfl (by decide) args w⟩
noncomputable def octet_Reader_read_l1 (x1 : List UInt8 × (List UInt8 × Int)) : (Int × Int) → Option ((Int × Int) ⊕ Int)
  | (x3, x4) => (if x4 < (x1.1.length : Int) then (ix x1.1 x4).bind fun x5 => some (.inl (orI .i64 (shlI .i64 x3 8) (w64 (x5.toNat : Int)), w64 (x4 + 1))) else some (.inr x3))
noncomputable def octet_Reader_read (p0 : List UInt8 × Int) (p1 : Int) : Option (Int × (List UInt8 × Int)) := (octet_Reader_Take p0 p1).bind fun x1 => (loopW (octet_Reader_read_l1 x1) (0, 0)).bind fun x2 => some (x2, x1.2)
theorem octet_Reader_read_c (Y : Nat → Prop) (X : List Nat) (w0 : World) (q_p0 : Nat) (p0 : List UInt8 × Int) (p1 : Int) (r : Int × (List UInt8 × Int)) (H : octet_Reader_read p0 p1 = some r) (hL : Stw ⟨Y, X, w0⟩ [(q_p0, [.string (bs p0.1), .int .i64 p0.2])] [] w0) :
    Calls Tryd.prog 58 #[.pointer (some ⟨q_p0, 0, none⟩), .int .i64 p1] w0 fun e w' => ∃ x : Unit, e = .returned (.int .i64 r.1) ∧ Stw ⟨Y, X, w0⟩ [(q_p0, [.string (bs r.2.1), .int .i64 r.2.2])] [] w' := by
  refine enter Tryd.func58 rfl Tryd.ntmps58 rfl (fun a hF => ?_)
  have hW := hL
  unfold octet_Reader_read at H
  refine c_seq ?_
  refine reg_list ?_
  refine ls hF hW rfl ((y_assign hF rfl).q) (fun a w hF hW => ?_)
  refine ls_nil ?_
  refine c_then ?_
  refine c_seq ?_
  refine reg_list ?_
  refine ls hF hW rfl ((y_move hF rfl).q) (fun a w hF hW => ?_)
  refine ls hF hW rfl ((y_move hF rfl).q) (fun a w hF hW => ?_)
  obtain ⟨x1, h1, H⟩ := bindE H
  refine l_callG (Ml := [(q_p0, [.string (bs p0.1), .int .i64 p0.2])]) (Zl := []) (M := []) (Z := []) (β := Unit) (rv := fun x => .string (bs x1.1)) (MM := fun x => [(q_p0, [.string (bs x1.2.1), .int .i64 x1.2.2])]) (ZZ := fun x => []) hF hW H63 rfl rfl (fun hL => octet_Reader_Take_c _ _ w q_p0 p0 p1 _ h1 hL) (fun x a w hF hW => ?_)
  have hW : Stw ⟨Y, X, w0⟩ [(q_p0, [.string (bs x1.2.1), .int .i64 x1.2.2])] [] w := hW
  refine ls hF hW rfl ((y_assign hF rfl).q) (fun a w hF hW => ?_)
  refine ls_nil ?_
  refine c_then ?_
  refine c_seq ?_
  refine reg_list ?_
  refine ls hF hW rfl ((y_assign hF rfl).q) (fun a w hF hW => ?_)
  refine ls_nil ?_
  refine c_then ?_
  obtain ⟨o1, G1, K1⟩ := bindE H
  refine c_seqJ (fun a w => ∃ x2 : Int, some (x2) = some o1 ∧ Fr 25 [] [(4, .int .i64 0), (6, .int .i64 x2)] a ∧ Stw ⟨Y, X, w0⟩ [(q_p0, [.string (bs x1.2.1), .int .i64 x1.2.2])] [] w) ?_ ?_
  ·
    have H := G1
    clear G1 K1
    refine c_seq ?_
    refine reg_list ?_
    refine ls hF hW rfl ((y_move hF rfl).q) (fun a w hF hW => ?_)
    refine ls hF hW rfl ((y_slen (l := x1.1) Tryd.underlying9 rfl hF rfl).q) (fun a w hF hW => ?_)
    refine ls hF hW rfl ((y_move hF rfl).q) (fun a w hF hW => ?_)
    refine ls_nil ?_
    refine c_then ?_
    refine wp_block ?_
    refine c_loopW H (fun s a w => Fr 25 [] [(4, .int .i64 0), (5, .string (bs x1.1)), (6, .int .i64 s.1), (12, .int .i64 (x1.1.length : Int)), (13, .int .i64 s.2)] a ∧ Stw ⟨Y, X, w0⟩ [(q_p0, [.string (bs x1.2.1), .int .i64 x1.2.2])] [] w) ⟨hF.re ⟨rfl, rfl, rfl, rfl, rfl, trivial⟩, hW⟩ (fun s o a w H L2 hR => ?_)
    obtain ⟨x3, x4⟩ := s
    obtain ⟨hF, hW⟩ := hR
    have hF : Fr 25 [] [(4, .int .i64 0), (5, .string (bs x1.1)), (6, .int .i64 x3), (12, .int .i64 (x1.1.length : Int)), (13, .int .i64 x4)] a := hF
    have hW : Stw ⟨Y, X, w0⟩ [(q_p0, [.string (bs x1.2.1), .int .i64 x1.2.2])] [] w := hW
    rw [octet_Reader_read_l1] at H
    refine c_seq ?_
    refine reg_list ?_
    refine ls hF hW rfl ((y_lss hF rfl rfl).q) (fun a w hF hW => ?_)
    refine ls_nil ?_
    refine c_then ?_
    refine c_seq ?_
    refine c_cond hF rfl (fun hb => ?_) (fun hb => ?_)
    ·
      have H := iteT (of_decide_eq_true hb) H
      rw [hb] at hF
      clear hb
      refine wp_skip ?_
      refine c_then ?_
      refine c_seq ?_
      refine wp_block ?_
      refine c_seq ?_
      refine reg_list ?_
      refine ls hF hW rfl ((y_move hF rfl).q) (fun a w hF hW => ?_)
      refine ls hF hW rfl ((y_assign hF rfl).q) (fun a w hF hW => ?_)
      refine ls_nil ?_
      refine c_then ?_
      refine reg_list ?_
      refine ls hF hW rfl ((y_move hF rfl).q) (fun a w hF hW => ?_)
      refine ls hF hW rfl ((y_shl hF rfl rfl (by decide)).q) (fun a w hF hW => ?_)
      refine ls hF hW rfl ((y_move hF rfl).q) (fun a w hF hW => ?_)
      refine ls hF hW rfl ((y_move hF rfl).q) (fun a w hF hW => ?_)
      obtain ⟨x5, h2, H⟩ := bindE H
      refine ls hF hW rfl ((y_sindex (l := x1.1) Tryd.underlying9 hF rfl rfl h2).q) (fun a w hF hW => ?_)
      refine ls hF hW rfl ((y_convI Tryd.underlying5 Tryd.underlying3 hF rfl).q) (fun a w hF hW => ?_)
      refine ls hF hW rfl ((y_or hF rfl rfl).q) (fun a w hF hW => ?_)
      refine ls hF hW rfl ((y_assign hF rfl).q) (fun a w hF hW => ?_)
      refine ls_nil ?_
      refine b_normal ?_
      refine c_then ?_
      refine reg_list ?_
      refine ls hF hW rfl ((y_add hF rfl rfl rfl).q) (fun a w hF hW => ?_)
      refine ls hF hW rfl ((y_move hF rfl).q) (fun a w hF hW => ?_)
      refine ls_nil ?_
      refine c_then ?_
      exact ⟨_, H, hF.re ⟨rfl, rfl, rfl, rfl, rfl, trivial⟩, hW⟩
    ·
      have H := iteF (of_decide_eq_false hb) H
      rw [hb] at hF
      clear hb
      refine wp_exit ?_
      refine e_then ?_
      refine e_then ?_
      refine e_block ?_
      refine c_then ?_
      have H := L2 _ H
      exact ⟨_, H, hF.re ⟨rfl, rfl, trivial⟩, hW⟩
  rintro a w ⟨x2, hj, hF, hW⟩
  have hj := Option.some.inj hj
  subst hj
  have H := K1
  clear G1 K1
  refine c_seq ?_
  refine reg_list ?_
  refine ls hF hW rfl ((y_move hF rfl).q) (fun a w hF hW => ?_)
  refine ls hF hW rfl ((y_assign hF rfl).q) (fun a w hF hW => ?_)
  refine ls_nil ?_
  refine c_then ?_
  refine wp_ret ?_
  have H := Option.some.inj H
  subst H
  refine post1 (.inl rfl) hF hW rfl (rv_tmp hF rfl) ?_
  exact ⟨(), rfl, hW⟩

theorem H58 : Has Tryd.prog 58 := ⟨fun args w => run_callFunc_body Tryd.func58 rfl (by decide) args w⟩
noncomputable def octet_Reader_Num (p0 : List UInt8 × Int) (p1 : Int) : Option (Int × (List UInt8 × Int)) := (if (decide (p1 < 1) || decide (7 < p1)) = true then some ((octet_Reader_Wrong p0 2).1, (octet_Reader_Wrong p0 2).2) else some (p0.1, p0.2)).bind fun (x1, x2) => (octet_Reader_read (x1, x2) p1).bind fun x3 => some (x3.1, x3.2)
theorem octet_Reader_Num_c (Y : Nat → Prop) (X : List Nat) (w0 : World) (q_p0 : Nat) (p0 : List UInt8 × Int) (p1 : Int) (r : Int × (List UInt8 × Int)) (H : octet_Reader_Num p0 p1 = some r) (hL : Stw ⟨Y, X, w0⟩ [(q_p0, [.string (bs p0.1), .int .i64 p0.2])] [] w0) :
    Calls Tryd.prog 46 #[.pointer (some ⟨q_p0, 0, none⟩), .int .i64 p1] w0 fun e w' => ∃ x : Unit, e = .returned (.int .i64 r.1) ∧ Stw ⟨Y, X, w0⟩ [(q_p0, [.string (bs r.2.1), .int .i64 r.2.2])] [] w' := by
  refine enter Tryd.func46 rfl Tryd.ntmps46 rfl (fun a hF => ?_)
  have hW := hL
  unfold octet_Reader_Num at H
  refine c_seq ?_
  refine reg_list ?_
  refine ls hF hW rfl ((y_assign hF rfl).q) (fun a w hF hW => ?_)
  refine ls_nil ?_
  refine c_then ?_
  obtain ⟨o1, G1, K1⟩ := bindE H
  refine c_seqJ (fun a w => ∃ x1 : List UInt8, ∃ x2 : Int, some ((x1, x2)) = some o1 ∧ Fr 16 [] [(0, .pointer (some ⟨q_p0, 0, none⟩)), (1, .int .i64 p1), (4, .int .i64 0)] a ∧ Stw ⟨Y, X, w0⟩ [(q_p0, [.string (bs x1), .int .i64 x2])] [] w) ?_ ?_
  ·
    have H := G1
    clear G1 K1
    refine c_seqJ (fun a w => Fr 16 [] [(0, .pointer (some ⟨q_p0, 0, none⟩)), (1, .int .i64 p1), (4, .int .i64 0), (10, .bool (decide (p1 < 1) || decide (7 < p1)))] a ∧ Stw ⟨Y, X, w0⟩ [(q_p0, [.string (bs p0.1), .int .i64 p0.2])] [] w) ?_ ?_
    ·
      refine reg_list ?_
      refine ls hF hW rfl ((y_move hF rfl).q) (fun a w hF hW => ?_)
      refine ls hF hW rfl ((y_lss hF rfl rfl).q) (fun a w hF hW => ?_)
      refine ls hF hW rfl ((y_move hF rfl).q) (fun a w hF hW => ?_)
      rcases Bool.eq_false_or_eq_true (decide (p1 < 1)) with hb0 | hb0
      ·
        rw [hb0] at hF
        refine ls_skip hF (wanted_n hF rfl rfl rfl rfl rfl) rfl rfl (fun a hF => ?_)
        refine ls_skip hF (wanted_n hF rfl rfl rfl rfl rfl) rfl rfl (fun a hF => ?_)
        refine ls hF hW rfl ((y_pick_t hF rfl rfl rfl).q) (fun a w hF hW => ?_)
        refine ls_nil ?_
        refine c_then ?_
        exact ⟨hF.re ⟨rfl, rfl, rfl, (by show some (Value.bool true) = some (Value.bool (decide (p1 < 1) || decide (7 < p1))); try rw [hb0]; all_goals simp only [Bool.not_true, Bool.not_false, Bool.true_and, Bool.false_and, Bool.true_or, Bool.false_or, Bool.and_true, Bool.or_false, cond_true, cond_false]), trivial⟩, hW⟩
      ·
        rw [hb0] at hF
        refine ls_w hF hW (wanted_y hF rfl rfl rfl rfl) rfl (Nat.le_of_ble_eq_true rfl) ((y_move hF rfl).q) (fun a w hF hW => ?_)
        refine ls_w hF hW (wanted_y hF rfl rfl rfl rfl) rfl (Nat.le_of_ble_eq_true rfl) ((y_gtr hF rfl rfl).q) (fun a w hF hW => ?_)
        refine ls hF hW rfl ((y_pick_f hF rfl rfl rfl).q) (fun a w hF hW => ?_)
        refine ls_nil ?_
        refine c_then ?_
        exact ⟨hF.re ⟨rfl, rfl, rfl, (by show some (Value.bool (decide (7 < p1))) = some (Value.bool (decide (p1 < 1) || decide (7 < p1))); try rw [hb0]; all_goals simp only [Bool.not_true, Bool.not_false, Bool.true_and, Bool.false_and, Bool.true_or, Bool.false_or, Bool.and_true, Bool.or_false, cond_true, cond_false]), trivial⟩, hW⟩
    rintro a w ⟨hF, hW⟩
    refine c_cond hF rfl (fun hb => ?_) (fun hb => ?_)
    ·
      have H := iteT hb H
      rw [hb] at hF
      clear hb
      refine reg_list ?_
      refine ls hF hW rfl ((y_move hF rfl).q) (fun a w hF hW => ?_)
      refine l_callG (Ml := [(q_p0, [.string (bs p0.1), .int .i64 p0.2])]) (Zl := []) (M := []) (Z := []) (β := Unit) (rv := fun x => .tuple #[]) (MM := fun x => [(q_p0, [.string (bs ((octet_Reader_Wrong p0 2).1)), .int .i64 ((octet_Reader_Wrong p0 2).2)])]) (ZZ := fun x => []) hF hW H47 rfl rfl (fun hL => octet_Reader_Wrong_c _ _ w q_p0 p0 2 _ rfl hL) (fun x a w hF hW => ?_)
      have hW : Stw ⟨Y, X, w0⟩ [(q_p0, [.string (bs ((octet_Reader_Wrong p0 2).1)), .int .i64 ((octet_Reader_Wrong p0 2).2)])] [] w := hW
      refine ls_nil ?_
      refine c_then ?_
      exact ⟨_, _, H, hF.re ⟨rfl, rfl, rfl, trivial⟩, hW⟩
    ·
      have H := iteF (by rw [hb]; decide) H
      rw [hb] at hF
      clear hb
      refine wp_skip ?_
      refine c_then ?_
      exact ⟨_, _, H, hF.re ⟨rfl, rfl, rfl, trivial⟩, hW⟩
  rintro a w ⟨x1, x2, hj, hF, hW⟩
  have hj := Option.some.inj hj
  subst hj
  have H := K1
  clear G1 K1
  refine c_seq ?_
  refine reg_list ?_
  refine ls hF hW rfl ((y_move hF rfl).q) (fun a w hF hW => ?_)
  refine ls hF hW rfl ((y_move hF rfl).q) (fun a w hF hW => ?_)
  obtain ⟨x3, h1, H⟩ := bindE H
  refine l_callG (Ml := [(q_p0, [.string (bs x1), .int .i64 x2])]) (Zl := []) (M := []) (Z := []) (β := Unit) (rv := fun x => .int .i64 x3.1) (MM := fun x => [(q_p0, [.string (bs x3.2.1), .int .i64 x3.2.2])]) (ZZ := fun x => []) hF hW H58 rfl rfl (fun hL => octet_Reader_read_c _ _ w q_p0 (x1, x2) p1 _ h1 hL) (fun x a w hF hW => ?_)
  have hW : Stw ⟨Y, X, w0⟩ [(q_p0, [.string (bs x3.2.1), .int .i64 x3.2.2])] [] w := hW
  refine ls hF hW rfl ((y_assign hF rfl).q) (fun a w hF hW => ?_)
  refine ls_nil ?_
  refine c_then ?_
  refine wp_ret ?_
  have H := Option.some.inj H
  subst H
  refine post1 (.inl rfl) hF hW rfl (rv_tmp hF rfl) ?_
  exact ⟨(), rfl, hW⟩

theorem H46 : Has Tryd.prog 46 := ⟨fun args w => run_callFunc_body Tryd.func46 rfl (by decide) args w⟩
noncomputable def match_Read_l1  : (Int × Int × Int × Int × Int × Int × Int × Int × Int × List UInt8 × Int) → Option ((Int × Int × Int × Int × Int × Int × Int × Int × Int × List UInt8 × Int) ⊕ (Int × Int × Int × Int × Int × Int × Int × Int × List UInt8 × Int))
  | (x12, x13, x14, x15, x16, x17, x18, x19, x20, x21, x22) => (if x12 < 4 then (octet_Reader_Num (x21, x22) 1).bind fun x23 => (ix ([x13, x14, x15, x16] : List Int) x12).bind fun x24 => (octet_Reader_Num x23.2 1).bind fun x25 => (ix ([x17, x18, x19, x20] : List Int) x12).bind fun x26 => some (.inl (w64 (x12 + 1), (if x12 = 0 then x23.1 else x13), (if x12 = 1 then x23.1 else x14), (if x12 = 2 then x23.1 else x15), (if x12 = 3 then x23.1 else x16), (if x12 = 0 then x25.1 else x17), (if x12 = 1 then x25.1 else x18), (if x12 = 2 then x25.1 else x19), (if x12 = 3 then x25.1 else x20), x25.2.1, x25.2.2)) else some (.inr (x13, x14, x15, x16, x17, x18, x19, x20, x21, x22)))
noncomputable def match_Read (p0 : List UInt8 × Int) : Option ((Int × (Int × Int × Int × Int) × (Int × Int × Int × Int)) × (List UInt8 × Int)) := (octet_Reader_Num p0 1).bind fun x1 => (loopW (match_Read_l1) (0, 0, 0, 0, 0, 0, 0, 0, 0, x1.2.1, x1.2.2)).bind fun (x2, x3, x4, x5, x6, x7, x8, x9, x10, x11) => ((match_Right (w64 (x1.1 - 1), (x2, x3, x4, x5), (x6, x7, x8, x9))).bind fun x29 => (if (!x29) = true then some ((octet_Reader_Wrong (x10, x11) 2).1, (octet_Reader_Wrong (x10, x11) 2).2) else some (x10, x11))).bind fun (x27, x28) => (if (!(octet_Reader_Ok (x27, x28))) = true then some ((0, (0, 0, 0, 0), (0, 0, 0, 0)), (x27, x28)) else some ((w64 (x1.1 - 1), (x2, x3, x4, x5), (x6, x7, x8, x9)), (x27, x28)))
theorem match_Read_c (Y : Nat → Prop) (X : List Nat) (w0 : World) (q_p0 : Nat) (p0 : List UInt8 × Int) (r : (Int × (Int × Int × Int × Int) × (Int × Int × Int × Int)) × (List UInt8 × Int)) (H : match_Read p0 = some r) (hL : Stw ⟨Y, X, w0⟩ [(q_p0, [.string (bs p0.1), .int .i64 p0.2])] [] w0) :
    Calls Tryd.prog 27 #[.pointer (some ⟨q_p0, 0, none⟩)] w0 fun e w' => ∃ x : Unit, e = .returned (.agg #[.int .i64 r.1.1, .int .i64 r.1.2.1.1, .int .i64 r.1.2.1.2.1, .int .i64 r.1.2.1.2.2.1, .int .i64 r.1.2.1.2.2.2, .int .i64 r.1.2.2.1, .int .i64 r.1.2.2.2.1, .int .i64 r.1.2.2.2.2.1, .int .i64 r.1.2.2.2.2.2]) ∧ Stw ⟨Y, X, w0⟩ [(q_p0, [.string (bs r.2.1), .int .i64 r.2.2])] [] w' := by
  refine enter Tryd.func27 rfl Tryd.ntmps27 rfl (fun a hF => ?_)
  have hW := hL
  unfold match_Read at H
  refine c_seq ?_
  refine reg_list ?_
  refine l_alloc (cs := [.int .i64 0, .int .i64 0, .int .i64 0, .int .i64 0, .int .i64 0, .int .i64 0, .int .i64 0, .int .i64 0, .int .i64 0]) hF hW rfl Z24 rfl (fun b1 a w hF hW => ?_)
  refine ls_nil ?_
  refine c_then ?_
  refine c_seq ?_
  refine reg_list ?_
  refine ls hF hW rfl ((y_move hF rfl).q) (fun a w hF hW => ?_)
  obtain ⟨x1, h1, H⟩ := bindE H
  have hW := hW.frontM (i := 1) rfl rfl
  refine l_callG (Ml := [(q_p0, [.string (bs p0.1), .int .i64 p0.2])]) (Zl := []) (M := [(b1, [.int .i64 0, .int .i64 0, .int .i64 0, .int .i64 0, .int .i64 0, .int .i64 0, .int .i64 0, .int .i64 0, .int .i64 0])]) (Z := []) (β := Unit) (rv := fun x => .int .i64 x1.1) (MM := fun x => [(q_p0, [.string (bs x1.2.1), .int .i64 x1.2.2])]) (ZZ := fun x => []) hF hW H46 rfl rfl (fun hL => octet_Reader_Num_c _ _ w q_p0 p0 1 _ h1 hL) (fun x a w hF hW => ?_)
  have hW : Stw ⟨Y, X, w0⟩ [(q_p0, [.string (bs x1.2.1), .int .i64 x1.2.2]), (b1, [.int .i64 0, .int .i64 0, .int .i64 0, .int .i64 0, .int .i64 0, .int .i64 0, .int .i64 0, .int .i64 0, .int .i64 0])] [] w := hW
  refine ls hF hW rfl ((y_sub hF rfl rfl rfl).q) (fun a w hF hW => ?_)
  refine ls hF hW rfl ((y_build (v := Value.agg #[.int .i64 (w64 (x1.1 - 1)), .int .i64 0, .int .i64 0, .int .i64 0, .int .i64 0, .int .i64 0, .int .i64 0, .int .i64 0, .int .i64 0]) B24 hF rfl rfl rfl).q) (fun a w hF hW => ?_)
  refine l_alloc (cs := [.int .i64 0, .int .i64 0, .int .i64 0, .int .i64 0, .int .i64 0, .int .i64 0, .int .i64 0, .int .i64 0, .int .i64 0]) hF hW rfl Z24 rfl (fun b2 a w hF hW => ?_)
  refine l_store (vs := [.int .i64 (w64 (x1.1 - 1)), .int .i64 0, .int .i64 0, .int .i64 0, .int .i64 0, .int .i64 0, .int .i64 0, .int .i64 0, .int .i64 0]) (M' := [(b2, [.int .i64 (w64 (x1.1 - 1)), .int .i64 0, .int .i64 0, .int .i64 0, .int .i64 0, .int .i64 0, .int .i64 0, .int .i64 0, .int .i64 0]), (q_p0, [.string (bs x1.2.1), .int .i64 x1.2.2]), (b1, [.int .i64 0, .int .i64 0, .int .i64 0, .int .i64 0, .int .i64 0, .int .i64 0, .int .i64 0, .int .i64 0, .int .i64 0])]) 0 hF hW rfl rfl rfl T24 rfl rfl rfl rfl rfl (fun w hW => ?_)
  refine ls_nil ?_
  refine c_then ?_
  obtain ⟨o1, G1, K1⟩ := bindE H
  refine c_seqJ (fun a w => ∃ x2 : Int, ∃ x3 : Int, ∃ x4 : Int, ∃ x5 : Int, ∃ x6 : Int, ∃ x7 : Int, ∃ x8 : Int, ∃ x9 : Int, ∃ x10 : List UInt8, ∃ x11 : Int, some ((x2, x3, x4, x5, x6, x7, x8, x9, x10, x11)) = some o1 ∧ Fr 33 [] [(0, .pointer (some ⟨q_p0, 0, none⟩)), (2, .pointer (some ⟨b1, 0, none⟩)), (3, .pointer (some ⟨b2, 0, none⟩))] a ∧ Stw ⟨Y, X, w0⟩ [(b2, [.int .i64 (w64 (x1.1 - 1)), .int .i64 x2, .int .i64 x3, .int .i64 x4, .int .i64 x5, .int .i64 x6, .int .i64 x7, .int .i64 x8, .int .i64 x9]), (q_p0, [.string (bs x10), .int .i64 x11]), (b1, [.int .i64 0, .int .i64 0, .int .i64 0, .int .i64 0, .int .i64 0, .int .i64 0, .int .i64 0, .int .i64 0, .int .i64 0])] [] w) ?_ ?_
  ·
    have H := G1
    clear G1 K1
    refine c_seq ?_
    refine reg_list ?_
    refine ls hF hW rfl ((y_move hF rfl).q) (fun a w hF hW => ?_)
    refine ls_nil ?_
    refine c_then ?_
    refine wp_block ?_
    have hW := hW.frontM (i := 2) rfl rfl
    have hW := hW.frontM (i := 2) rfl rfl
    have hW := hW.frontM (i := 2) rfl rfl
    refine c_loopW H (fun s a w => Fr 33 [] [(0, .pointer (some ⟨q_p0, 0, none⟩)), (2, .pointer (some ⟨b1, 0, none⟩)), (3, .pointer (some ⟨b2, 0, none⟩)), (9, .int .i64 s.1)] a ∧ Stw ⟨Y, X, w0⟩ [(b2, [.int .i64 (w64 (x1.1 - 1)), .int .i64 s.2.1, .int .i64 s.2.2.1, .int .i64 s.2.2.2.1, .int .i64 s.2.2.2.2.1, .int .i64 s.2.2.2.2.2.1, .int .i64 s.2.2.2.2.2.2.1, .int .i64 s.2.2.2.2.2.2.2.1, .int .i64 s.2.2.2.2.2.2.2.2.1]), (q_p0, [.string (bs s.2.2.2.2.2.2.2.2.2.1), .int .i64 s.2.2.2.2.2.2.2.2.2.2]), (b1, [.int .i64 0, .int .i64 0, .int .i64 0, .int .i64 0, .int .i64 0, .int .i64 0, .int .i64 0, .int .i64 0, .int .i64 0])] [] w) ⟨hF.re ⟨rfl, rfl, rfl, rfl, trivial⟩, hW⟩ (fun s o a w H L2 hR => ?_)
    obtain ⟨x12, x13, x14, x15, x16, x17, x18, x19, x20, x21, x22⟩ := s
    obtain ⟨hF, hW⟩ := hR
    have hF : Fr 33 [] [(0, .pointer (some ⟨q_p0, 0, none⟩)), (2, .pointer (some ⟨b1, 0, none⟩)), (3, .pointer (some ⟨b2, 0, none⟩)), (9, .int .i64 x12)] a := hF
    have hW : Stw ⟨Y, X, w0⟩ [(b2, [.int .i64 (w64 (x1.1 - 1)), .int .i64 x13, .int .i64 x14, .int .i64 x15, .int .i64 x16, .int .i64 x17, .int .i64 x18, .int .i64 x19, .int .i64 x20]), (q_p0, [.string (bs x21), .int .i64 x22]), (b1, [.int .i64 0, .int .i64 0, .int .i64 0, .int .i64 0, .int .i64 0, .int .i64 0, .int .i64 0, .int .i64 0, .int .i64 0])] [] w := hW
    rw [match_Read_l1] at H
    refine c_seq ?_
    refine reg_list ?_
    refine ls hF hW rfl ((y_lss hF rfl rfl).q) (fun a w hF hW => ?_)
    refine ls_nil ?_
    refine c_then ?_
    refine c_seq ?_
    refine c_cond hF rfl (fun hb => ?_) (fun hb => ?_)
    ·
      have H := iteT (of_decide_eq_true hb) H
      rw [hb] at hF
      clear hb
      refine wp_skip ?_
      refine c_then ?_
      refine c_seq ?_
      refine wp_block ?_
      refine c_seq ?_
      refine reg_list ?_
      refine ls hF hW rfl ((y_move hF rfl).q) (fun a w hF hW => ?_)
      refine ls hF hW rfl ((y_assign hF rfl).q) (fun a w hF hW => ?_)
      refine ls_nil ?_
      refine c_then ?_
      refine c_seq ?_
      refine reg_list ?_
      refine ls hF hW rfl ((y_move hF rfl).q) (fun a w hF hW => ?_)
      refine ls hF hW rfl ((y_move hF rfl).q) (fun a w hF hW => ?_)
      obtain ⟨x23, h2, H⟩ := bindE H
      have hW := hW.frontM (i := 1) rfl rfl
      refine l_callG (Ml := [(q_p0, [.string (bs x21), .int .i64 x22])]) (Zl := []) (M := [(b2, [.int .i64 (w64 (x1.1 - 1)), .int .i64 x13, .int .i64 x14, .int .i64 x15, .int .i64 x16, .int .i64 x17, .int .i64 x18, .int .i64 x19, .int .i64 x20]), (b1, [.int .i64 0, .int .i64 0, .int .i64 0, .int .i64 0, .int .i64 0, .int .i64 0, .int .i64 0, .int .i64 0, .int .i64 0])]) (Z := []) (β := Unit) (rv := fun x => .int .i64 x23.1) (MM := fun x => [(q_p0, [.string (bs x23.2.1), .int .i64 x23.2.2])]) (ZZ := fun x => []) hF hW H46 rfl rfl (fun hL => octet_Reader_Num_c _ _ w q_p0 (x21, x22) 1 _ h2 hL) (fun x a w hF hW => ?_)
      have hW : Stw ⟨Y, X, w0⟩ [(q_p0, [.string (bs x23.2.1), .int .i64 x23.2.2]), (b2, [.int .i64 (w64 (x1.1 - 1)), .int .i64 x13, .int .i64 x14, .int .i64 x15, .int .i64 x16, .int .i64 x17, .int .i64 x18, .int .i64 x19, .int .i64 x20]), (b1, [.int .i64 0, .int .i64 0, .int .i64 0, .int .i64 0, .int .i64 0, .int .i64 0, .int .i64 0, .int .i64 0, .int .i64 0])] [] w := hW
      refine ls hF hW rfl ((y_fieldAddr Tryd.underlying24 rfl rfl rfl T22 hF rfl 1 rfl).q) (fun a w hF hW => ?_)
      obtain ⟨x24, h3, H⟩ := bindE H
      refine ls hF hW rfl ((y_indexP (1 + (x12).toNat * 1) Ar22 hF rfl rfl rfl h3 rfl).q) (fun a w hF hW => ?_)
      refine l_store_dyn (o := 1) (m := 4) (i := x12) (l := ([x13, x14, x15, x16] : List Int)) (x := x24) (cs := [.int .i64 (w64 (x1.1 - 1)), .int .i64 x13, .int .i64 x14, .int .i64 x15, .int .i64 x16, .int .i64 x17, .int .i64 x18, .int .i64 x19, .int .i64 x20]) (cs' := [.int .i64 (w64 (x1.1 - 1)), .int .i64 (if x12 = 0 then x23.1 else x13), .int .i64 (if x12 = 1 then x23.1 else x14), .int .i64 (if x12 = 2 then x23.1 else x15), .int .i64 (if x12 = 3 then x23.1 else x16), .int .i64 x17, .int .i64 x18, .int .i64 x19, .int .i64 x20]) 1 hF hW rfl rfl rfl T3 rfl rfl rfl rfl h3 (by intro k hk hn; rw [hk]; match k, hn with | 0, _ => rfl | 1, _ => rfl | 2, _ => rfl | 3, _ => rfl | (z + 4), h => exact absurd h (by omega)) (fun w hW => ?_)
      have hW : Stw ⟨Y, X, w0⟩ [(q_p0, [.string (bs x23.2.1), .int .i64 x23.2.2]), (b2, [.int .i64 (w64 (x1.1 - 1)), .int .i64 (if x12 = 0 then x23.1 else x13), .int .i64 (if x12 = 1 then x23.1 else x14), .int .i64 (if x12 = 2 then x23.1 else x15), .int .i64 (if x12 = 3 then x23.1 else x16), .int .i64 x17, .int .i64 x18, .int .i64 x19, .int .i64 x20]), (b1, [.int .i64 0, .int .i64 0, .int .i64 0, .int .i64 0, .int .i64 0, .int .i64 0, .int .i64 0, .int .i64 0, .int .i64 0])] [] w := hW
      refine ls_nil ?_
      refine c_then ?_
      refine reg_list ?_
      refine ls hF hW rfl ((y_move hF rfl).q) (fun a w hF hW => ?_)
      refine ls hF hW rfl ((y_move hF rfl).q) (fun a w hF hW => ?_)
      obtain ⟨x25, h4, H⟩ := bindE H
      refine l_callG (Ml := [(q_p0, [.string (bs x23.2.1), .int .i64 x23.2.2])]) (Zl := []) (M := [(b2, [.int .i64 (w64 (x1.1 - 1)), .int .i64 (if x12 = 0 then x23.1 else x13), .int .i64 (if x12 = 1 then x23.1 else x14), .int .i64 (if x12 = 2 then x23.1 else x15), .int .i64 (if x12 = 3 then x23.1 else x16), .int .i64 x17, .int .i64 x18, .int .i64 x19, .int .i64 x20]), (b1, [.int .i64 0, .int .i64 0, .int .i64 0, .int .i64 0, .int .i64 0, .int .i64 0, .int .i64 0, .int .i64 0, .int .i64 0])]) (Z := []) (β := Unit) (rv := fun x => .int .i64 x25.1) (MM := fun x => [(q_p0, [.string (bs x25.2.1), .int .i64 x25.2.2])]) (ZZ := fun x => []) hF hW H46 rfl rfl (fun hL => octet_Reader_Num_c _ _ w q_p0 x23.2 1 _ h4 hL) (fun x a w hF hW => ?_)
      have hW : Stw ⟨Y, X, w0⟩ [(q_p0, [.string (bs x25.2.1), .int .i64 x25.2.2]), (b2, [.int .i64 (w64 (x1.1 - 1)), .int .i64 (if x12 = 0 then x23.1 else x13), .int .i64 (if x12 = 1 then x23.1 else x14), .int .i64 (if x12 = 2 then x23.1 else x15), .int .i64 (if x12 = 3 then x23.1 else x16), .int .i64 x17, .int .i64 x18, .int .i64 x19, .int .i64 x20]), (b1, [.int .i64 0, .int .i64 0, .int .i64 0, .int .i64 0, .int .i64 0, .int .i64 0, .int .i64 0, .int .i64 0, .int .i64 0])] [] w := hW
      refine ls hF hW rfl ((y_fieldAddr Tryd.underlying24 rfl rfl rfl T22 hF rfl 5 rfl).q) (fun a w hF hW => ?_)
      obtain ⟨x26, h5, H⟩ := bindE H
      refine ls hF hW rfl ((y_indexP (5 + (x12).toNat * 1) Ar22 hF rfl rfl rfl h5 rfl).q) (fun a w hF hW => ?_)
      refine l_store_dyn (o := 5) (m := 4) (i := x12) (l := ([x17, x18, x19, x20] : List Int)) (x := x26) (cs := [.int .i64 (w64 (x1.1 - 1)), .int .i64 (if x12 = 0 then x23.1 else x13), .int .i64 (if x12 = 1 then x23.1 else x14), .int .i64 (if x12 = 2 then x23.1 else x15), .int .i64 (if x12 = 3 then x23.1 else x16), .int .i64 x17, .int .i64 x18, .int .i64 x19, .int .i64 x20]) (cs' := [.int .i64 (w64 (x1.1 - 1)), .int .i64 (if x12 = 0 then x23.1 else x13), .int .i64 (if x12 = 1 then x23.1 else x14), .int .i64 (if x12 = 2 then x23.1 else x15), .int .i64 (if x12 = 3 then x23.1 else x16), .int .i64 (if x12 = 0 then x25.1 else x17), .int .i64 (if x12 = 1 then x25.1 else x18), .int .i64 (if x12 = 2 then x25.1 else x19), .int .i64 (if x12 = 3 then x25.1 else x20)]) 1 hF hW rfl rfl rfl T3 rfl rfl rfl rfl h5 (by intro k hk hn; rw [hk]; match k, hn with | 0, _ => rfl | 1, _ => rfl | 2, _ => rfl | 3, _ => rfl | (z + 4), h => exact absurd h (by omega)) (fun w hW => ?_)
      have hW : Stw ⟨Y, X, w0⟩ [(q_p0, [.string (bs x25.2.1), .int .i64 x25.2.2]), (b2, [.int .i64 (w64 (x1.1 - 1)), .int .i64 (if x12 = 0 then x23.1 else x13), .int .i64 (if x12 = 1 then x23.1 else x14), .int .i64 (if x12 = 2 then x23.1 else x15), .int .i64 (if x12 = 3 then x23.1 else x16), .int .i64 (if x12 = 0 then x25.1 else x17), .int .i64 (if x12 = 1 then x25.1 else x18), .int .i64 (if x12 = 2 then x25.1 else x19), .int .i64 (if x12 = 3 then x25.1 else x20)]), (b1, [.int .i64 0, .int .i64 0, .int .i64 0, .int .i64 0, .int .i64 0, .int .i64 0, .int .i64 0, .int .i64 0, .int .i64 0])] [] w := hW
      refine ls_nil ?_
      refine b_normal ?_
      refine c_then ?_
      refine reg_list ?_
      refine ls hF hW rfl ((y_add hF rfl rfl rfl).q) (fun a w hF hW => ?_)
      refine ls hF hW rfl ((y_move hF rfl).q) (fun a w hF hW => ?_)
      refine ls_nil ?_
      refine c_then ?_
      have hW := hW.frontM (i := 2) rfl rfl
      have hW := hW.frontM (i := 1) rfl rfl
      have hW := hW.frontM (i := 2) rfl rfl
      exact ⟨_, H, hF.re ⟨rfl, rfl, rfl, rfl, trivial⟩, hW⟩
    ·
      have H := iteF (of_decide_eq_false hb) H
      rw [hb] at hF
      clear hb
      refine wp_exit ?_
      refine e_then ?_
      refine e_then ?_
      refine e_block ?_
      refine c_then ?_
      have hW := hW.frontM (i := 2) rfl rfl
      have hW := hW.frontM (i := 2) rfl rfl
      have hW := hW.frontM (i := 2) rfl rfl
      have H := L2 _ H
      exact ⟨_, _, _, _, _, _, _, _, _, _, H, hF.re ⟨rfl, rfl, rfl, trivial⟩, hW⟩
  rintro a w ⟨x2, x3, x4, x5, x6, x7, x8, x9, x10, x11, hj, hF, hW⟩
  have hj := Option.some.inj hj
  subst hj
  have H := K1
  clear G1 K1
  obtain ⟨o3, G3, K3⟩ := bindE H
  refine c_seqJ (fun a w => ∃ x27 : List UInt8, ∃ x28 : Int, some ((x27, x28)) = some o3 ∧ Fr 33 [] [(0, .pointer (some ⟨q_p0, 0, none⟩)), (2, .pointer (some ⟨b1, 0, none⟩)), (3, .pointer (some ⟨b2, 0, none⟩))] a ∧ Stw ⟨Y, X, w0⟩ [(b2, [.int .i64 (w64 (x1.1 - 1)), .int .i64 x2, .int .i64 x3, .int .i64 x4, .int .i64 x5, .int .i64 x6, .int .i64 x7, .int .i64 x8, .int .i64 x9]), (q_p0, [.string (bs x27), .int .i64 x28]), (b1, [.int .i64 0, .int .i64 0, .int .i64 0, .int .i64 0, .int .i64 0, .int .i64 0, .int .i64 0, .int .i64 0, .int .i64 0])] [] w) ?_ ?_
  ·
    have H := G3
    clear G3 K3
    refine c_seq ?_
    refine reg_list ?_
    refine ls hF hW rfl ((y_load (v := Value.agg #[.int .i64 (w64 (x1.1 - 1)), .int .i64 x2, .int .i64 x3, .int .i64 x4, .int .i64 x5, .int .i64 x6, .int .i64 x7, .int .i64 x8, .int .i64 x9]) 0 hF rfl rfl T24 rfl).q) (fun a w hF hW => ?_)
    obtain ⟨x29, h6, H⟩ := bindE H
    refine ls hF hW rfl (y_call (v := Value.bool x29) hF H7 rfl (fun w hW => match_Right_c any w (w64 (x1.1 - 1), (x2, x3, x4, x5), (x6, x7, x8, x9)) _ h6)) (fun a w hF hW => ?_)
    refine ls hF hW rfl ((y_not hF rfl).q) (fun a w hF hW => ?_)
    refine ls_nil ?_
    refine c_then ?_
    refine c_cond hF rfl (fun hb => ?_) (fun hb => ?_)
    ·
      have H := iteT hb H
      rw [hb] at hF
      clear hb
      refine reg_list ?_
      refine ls hF hW rfl ((y_move hF rfl).q) (fun a w hF hW => ?_)
      have hW := hW.frontM (i := 1) rfl rfl
      refine l_callG (Ml := [(q_p0, [.string (bs x10), .int .i64 x11])]) (Zl := []) (M := [(b2, [.int .i64 (w64 (x1.1 - 1)), .int .i64 x2, .int .i64 x3, .int .i64 x4, .int .i64 x5, .int .i64 x6, .int .i64 x7, .int .i64 x8, .int .i64 x9]), (b1, [.int .i64 0, .int .i64 0, .int .i64 0, .int .i64 0, .int .i64 0, .int .i64 0, .int .i64 0, .int .i64 0, .int .i64 0])]) (Z := []) (β := Unit) (rv := fun x => .tuple #[]) (MM := fun x => [(q_p0, [.string (bs ((octet_Reader_Wrong (x10, x11) 2).1)), .int .i64 ((octet_Reader_Wrong (x10, x11) 2).2)])]) (ZZ := fun x => []) hF hW H47 rfl rfl (fun hL => octet_Reader_Wrong_c _ _ w q_p0 (x10, x11) 2 _ rfl hL) (fun x a w hF hW => ?_)
      have hW : Stw ⟨Y, X, w0⟩ [(q_p0, [.string (bs ((octet_Reader_Wrong (x10, x11) 2).1)), .int .i64 ((octet_Reader_Wrong (x10, x11) 2).2)]), (b2, [.int .i64 (w64 (x1.1 - 1)), .int .i64 x2, .int .i64 x3, .int .i64 x4, .int .i64 x5, .int .i64 x6, .int .i64 x7, .int .i64 x8, .int .i64 x9]), (b1, [.int .i64 0, .int .i64 0, .int .i64 0, .int .i64 0, .int .i64 0, .int .i64 0, .int .i64 0, .int .i64 0, .int .i64 0])] [] w := hW
      refine ls_nil ?_
      refine c_then ?_
      have hW := hW.frontM (i := 2) rfl rfl
      have hW := hW.frontM (i := 1) rfl rfl
      have hW := hW.frontM (i := 2) rfl rfl
      exact ⟨_, _, H, hF.re ⟨rfl, rfl, rfl, trivial⟩, hW⟩
    ·
      have H := iteF (by rw [hb]; decide) H
      rw [hb] at hF
      clear hb
      refine wp_skip ?_
      refine c_then ?_
      have hW := hW.frontM (i := 2) rfl rfl
      have hW := hW.frontM (i := 2) rfl rfl
      have hW := hW.frontM (i := 2) rfl rfl
      exact ⟨_, _, H, hF.re ⟨rfl, rfl, rfl, trivial⟩, hW⟩
  rintro a w ⟨x27, x28, hj, hF, hW⟩
  have hj := Option.some.inj hj
  subst hj
  have H := K3
  clear G3 K3
  refine c_seq ?_
  refine c_seq ?_
  refine reg_list ?_
  refine ls hF hW rfl ((y_move hF rfl).q) (fun a w hF hW => ?_)
  refine ls hF hW rfl (y_call (v := Value.bool (octet_Reader_Ok (x27, x28))) hF H48 rfl (fun w hW => octet_Reader_Ok_c any w q_p0 (x27, x28) _ rfl (at_M hW 1 rfl))) (fun a w hF hW => ?_)
  refine ls hF hW rfl ((y_not hF rfl).q) (fun a w hF hW => ?_)
  refine ls_nil ?_
  refine c_then ?_
  refine c_cond hF rfl (fun hb => ?_) (fun hb => ?_)
  ·
    have H := iteT hb H
    rw [hb] at hF
    clear hb
    refine c_seq ?_
    refine reg_list ?_
    refine ls hF hW rfl ((y_build (v := Value.agg #[.int .i64 0, .int .i64 0, .int .i64 0, .int .i64 0, .int .i64 0, .int .i64 0, .int .i64 0, .int .i64 0, .int .i64 0]) B24 hF rfl rfl rfl).q) (fun a w hF hW => ?_)
    refine l_store (vs := [.int .i64 0, .int .i64 0, .int .i64 0, .int .i64 0, .int .i64 0, .int .i64 0, .int .i64 0, .int .i64 0, .int .i64 0]) (M' := [(b2, [.int .i64 (w64 (x1.1 - 1)), .int .i64 x2, .int .i64 x3, .int .i64 x4, .int .i64 x5, .int .i64 x6, .int .i64 x7, .int .i64 x8, .int .i64 x9]), (q_p0, [.string (bs x27), .int .i64 x28]), (b1, [.int .i64 0, .int .i64 0, .int .i64 0, .int .i64 0, .int .i64 0, .int .i64 0, .int .i64 0, .int .i64 0, .int .i64 0])]) 2 hF hW rfl rfl rfl T24 rfl rfl rfl rfl rfl (fun w hW => ?_)
    refine ls_nil ?_
    refine c_then ?_
    refine wp_ret ?_
    refine r_then ?_
    have H := Option.some.inj H
    subst H
    refine post1 (.inl rfl) hF hW rfl (rv_cell 2 hF rfl rfl T24 rfl) ?_
    have hW := hW.frontM (i := 1) rfl rfl
    have hW := hW.sub (M' := [(q_p0, [.string (bs x27), .int .i64 x28])]) (Z' := []) (List.Sublist.cons_cons _ (List.nil_sublist _)) (List.Sublist.refl _)
    exact ⟨(), rfl, hW⟩
  ·
    have H := iteF (by rw [hb]; decide) H
    rw [hb] at hF
    clear hb
    refine wp_skip ?_
    refine c_then ?_
    refine c_seq ?_
    refine reg_list ?_
    refine ls hF hW rfl ((y_load (v := Value.agg #[.int .i64 (w64 (x1.1 - 1)), .int .i64 x2, .int .i64 x3, .int .i64 x4, .int .i64 x5, .int .i64 x6, .int .i64 x7, .int .i64 x8, .int .i64 x9]) 0 hF rfl rfl T24 rfl).q) (fun a w hF hW => ?_)
    refine l_store (vs := [.int .i64 (w64 (x1.1 - 1)), .int .i64 x2, .int .i64 x3, .int .i64 x4, .int .i64 x5, .int .i64 x6, .int .i64 x7, .int .i64 x8, .int .i64 x9]) (M' := [(b2, [.int .i64 (w64 (x1.1 - 1)), .int .i64 x2, .int .i64 x3, .int .i64 x4, .int .i64 x5, .int .i64 x6, .int .i64 x7, .int .i64 x8, .int .i64 x9]), (q_p0, [.string (bs x27), .int .i64 x28]), (b1, [.int .i64 (w64 (x1.1 - 1)), .int .i64 x2, .int .i64 x3, .int .i64 x4, .int .i64 x5, .int .i64 x6, .int .i64 x7, .int .i64 x8, .int .i64 x9])]) 2 hF hW rfl rfl rfl T24 rfl rfl rfl rfl rfl (fun w hW => ?_)
    refine ls_nil ?_
    refine c_then ?_
    refine wp_ret ?_
    have H := Option.some.inj H
    subst H
    refine post1 (.inl rfl) hF hW rfl (rv_cell 2 hF rfl rfl T24 rfl) ?_
    have hW := hW.frontM (i := 1) rfl rfl
    have hW := hW.sub (M' := [(q_p0, [.string (bs x27), .int .i64 x28])]) (Z' := []) (List.Sublist.cons_cons _ (List.nil_sublist _)) (List.Sublist.refl _)
    exact ⟨(), rfl, hW⟩

theorem H27 : Has Tryd.prog 27 := ⟨fun args w => run_callFunc_body Tryd.func27 rfl (by decide) args w⟩
def r04_Reader_Wrong (p0 : List UInt8 × Int × Int) (p1 : Int) : (List UInt8 × Int × Int) := (if p0.2.2 = 0 then (p0.1, p0.2.1, p1) else p0)
theorem r04_Reader_Wrong_c (Y : Nat → Prop) (X : List Nat) (w0 : World) (q_p0 : Nat) (p0 : List UInt8 × Int × Int) (p1 : Int) (r : (List UInt8 × Int × Int)) (H : r04_Reader_Wrong p0 p1 = r) (hL : Stw ⟨Y, X, w0⟩ [(q_p0, [.string (bs p0.1), .int .i64 p0.2.1, .int .i64 p0.2.2])] [] w0) :
    Calls Tryd.prog 50 #[.pointer (some ⟨q_p0, 0, none⟩), .int .i64 p1] w0 fun e w' => ∃ x : Unit, e = .returned (.tuple #[]) ∧ Stw ⟨Y, X, w0⟩ [(q_p0, [.string (bs r.1), .int .i64 r.2.1, .int .i64 r.2.2])] [] w' := by
  refine enter Tryd.func50 rfl Tryd.ntmps50 rfl (fun a hF => ?_)
  have hW := hL
  unfold r04_Reader_Wrong at H
  refine c_seq ?_
  refine reg_list ?_
  refine ls hF hW rfl ((y_move hF rfl).q) (fun a w hF hW => ?_)
  refine ls hF hW rfl ((y_nilCheck hF rfl).q) (fun a w hF hW => ?_)
  refine ls hF hW rfl ((y_fieldAddr Tryd.underlying42 rfl rfl rfl T3 hF rfl 2 rfl).q) (fun a w hF hW => ?_)
  refine ls hF hW rfl ((y_load (v := Value.int .i64 p0.2.2) 0 hF rfl rfl T3 rfl).q) (fun a w hF hW => ?_)
  refine ls hF hW rfl ((y_eql hF rfl rfl).q) (fun a w hF hW => ?_)
  refine ls_nil ?_
  refine c_then ?_
  refine c_cond hF rfl (fun hb => ?_) (fun hb => ?_)
  ·
    have H := iteT (of_decide_eq_true hb) H
    rw [hb] at hF
    clear hb
    refine reg_list ?_
    refine ls hF hW rfl ((y_move hF rfl).q) (fun a w hF hW => ?_)
    refine ls hF hW rfl ((y_move hF rfl).q) (fun a w hF hW => ?_)
    refine ls hF hW rfl ((y_nilCheck hF rfl).q) (fun a w hF hW => ?_)
    refine ls hF hW rfl ((y_fieldAddr Tryd.underlying42 rfl rfl rfl T3 hF rfl 2 rfl).q) (fun a w hF hW => ?_)
    refine l_store (vs := [.int .i64 p1]) (M' := [(q_p0, [.string (bs p0.1), .int .i64 p0.2.1, .int .i64 p1])]) 0 hF hW rfl rfl rfl T3 rfl rfl rfl rfl rfl (fun w hW => ?_)
    refine ls_nil ?_
    subst H
    refine post0 (.inr rfl) hF rfl ?_
    exact ⟨(), rfl, hW⟩
  ·
    have H := iteF (of_decide_eq_false hb) H
    rw [hb] at hF
    clear hb
    refine wp_skip ?_
    subst H
    refine post0 (.inr rfl) hF rfl ?_
    exact ⟨(), rfl, hW⟩

theorem H50 : Has Tryd.prog 50 := ⟨fun args w => run_callFunc_body Tryd.func50 rfl (by decide) args w⟩
def r04_Reader_Left (p0 : List UInt8 × Int × Int) : Int := (if p0.2.2 ≠ 0 then 0 else w64 ((p0.1.length : Int) - p0.2.1))
theorem r04_Reader_Left_c (Y : Nat → Prop) (w0 : World) (q_p0 : Nat) (p0 : List UInt8 × Int × Int) (r : Int) (H : r04_Reader_Left p0 = r) (a_q_p0 : At ⟨Y, [], w0⟩ q_p0 0 [.string (bs p0.1), .int .i64 p0.2.1, .int .i64 p0.2.2]) :
    Calls Tryd.prog 30 #[.pointer (some ⟨q_p0, 0, none⟩)] w0 fun e w' => e = .returned (.int .i64 r) ∧ Below w0.heap.size w0 w' := by
  refine enter Tryd.func30 rfl Tryd.ntmps30 rfl (fun a hF => ?_)
  have hW := Stw.start Y w0
  unfold r04_Reader_Left at H
  refine c_seq ?_
  refine reg_list ?_
  refine ls hF hW rfl ((y_assign hF rfl).q) (fun a w hF hW => ?_)
  refine ls_nil ?_
  refine c_then ?_
  refine c_seq ?_
  refine c_seq ?_
  refine reg_list ?_
  refine ls hF hW rfl ((y_move hF rfl).q) (fun a w hF hW => ?_)
  refine ls hF hW rfl ((y_nilCheck hF rfl).q) (fun a w hF hW => ?_)
  refine ls hF hW rfl ((y_fieldAddr Tryd.underlying42 rfl rfl rfl T3 hF rfl 2 rfl).q) (fun a w hF hW => ?_)
  refine ls hF hW rfl ((y_load_at (y := Value.int .i64 p0.2.2) (j := 2) hF rfl (Nat.zero_add _).symm a_q_p0 T3 rfl).q) (fun a w hF hW => ?_)
  refine ls hF hW rfl ((y_neq hF rfl rfl).q) (fun a w hF hW => ?_)
  refine ls_nil ?_
  refine c_then ?_
  refine c_cond hF rfl (fun hb => ?_) (fun hb => ?_)
  ·
    have H := iteT (of_decide_eq_true hb) H
    rw [hb] at hF
    clear hb
    refine c_seq ?_
    refine reg_list ?_
    refine ls hF hW rfl ((y_assign hF rfl).q) (fun a w hF hW => ?_)
    refine ls_nil ?_
    refine c_then ?_
    refine wp_ret ?_
    refine r_then ?_
    subst H
    refine post1 (.inl rfl) hF hW rfl (rv_tmp hF rfl) ?_
    exact ⟨rfl, hW.done⟩
  ·
    have H := iteF (of_decide_eq_false hb) H
    rw [hb] at hF
    clear hb
    refine wp_skip ?_
    refine c_then ?_
    refine c_seq ?_
    refine reg_quiet hW MO (by kernel_rfl) ?_
    refine qs hF rfl ((y_move hF rfl).q) (fun a hF => ?_)
    refine qs hF rfl ((y_nilCheck hF rfl).q) (fun a hF => ?_)
    refine qs hF rfl ((y_fieldAddr Tryd.underlying42 rfl rfl rfl T9 hF rfl 0 rfl).q) (fun a hF => ?_)
    refine qs hF rfl ((y_load_at (y := Value.string (bs p0.1)) (j := 0) hF rfl (Nat.zero_add _).symm a_q_p0 T9 rfl).q) (fun a hF => ?_)
    refine qs hF rfl ((y_slen (l := p0.1) Tryd.underlying9 rfl hF rfl).q) (fun a hF => ?_)
    refine qs hF rfl ((y_move hF rfl).q) (fun a hF => ?_)
    refine qs hF rfl ((y_nilCheck hF rfl).q) (fun a hF => ?_)
    refine qs hF rfl ((y_fieldAddr Tryd.underlying42 rfl rfl rfl T3 hF rfl 1 rfl).q) (fun a hF => ?_)
    refine qs hF rfl ((y_load_at (y := Value.int .i64 p0.2.1) (j := 1) hF rfl (Nat.zero_add _).symm a_q_p0 T3 rfl).q) (fun a hF => ?_)
    refine qs hF rfl ((y_sub hF rfl rfl rfl).q) (fun a hF => ?_)
    refine qs hF rfl ((y_assign hF rfl).q) (fun a hF => ?_)
    refine quiet_end (fun w hW => ?_)
    refine c_then ?_
    refine wp_ret ?_
    subst H
    refine post1 (.inl rfl) hF hW rfl (rv_tmp hF rfl) ?_
    exact ⟨rfl, hW.done⟩

theorem H30 : Has Tryd.prog 30 := ⟨fun args w => run_callFunc_body Tryd.func30 rfl (by decide) args w⟩
noncomputable def r04_Reader_Take (p0 : List UInt8 × Int × Int) (p1 : Int) : Option (List UInt8 × (List UInt8 × Int × Int)) := (if p1 < 0 then some ((r04_Reader_Wrong p0 2).1, (r04_Reader_Wrong p0 2).2.1, (r04_Reader_Wrong p0 2).2.2) else some (p0.1, p0.2.1, p0.2.2)).bind fun (x1, x2, x3) => (if (r04_Reader_Left (x1, x2, x3)) < p1 then some ((r04_Reader_Wrong (x1, x2, x3) 3).1, (r04_Reader_Wrong (x1, x2, x3) 3).2.1, (r04_Reader_Wrong (x1, x2, x3) 3).2.2) else some (x1, x2, x3)).bind fun (x4, x5, x6) => (if x6 ≠ 0 then some (([] : List UInt8), (x4, x5, x6)) else (subl x4 (w64 ((w64 (x5 + p1)) - p1)) (w64 (x5 + p1))).bind fun x7 => some (x7, (x4, w64 (x5 + p1), x6)))
theorem r04_Reader_Take_c (Y : Nat → Prop) (X : List Nat) (w0 : World) (q_p0 : Nat) (p0 : List UInt8 × Int × Int) (p1 : Int) (r : List UInt8 × (List UInt8 × Int × Int)) (H : r04_Reader_Take p0 p1 = some r) (hL : Stw ⟨Y, X, w0⟩ [(q_p0, [.string (bs p0.1), .int .i64 p0.2.1, .int .i64 p0.2.2])] [] w0) :
    Calls Tryd.prog 59 #[.pointer (some ⟨q_p0, 0, none⟩), .int .i64 p1] w0 fun e w' => ∃ x : Unit, e = .returned (.string (bs r.1)) ∧ Stw ⟨Y, X, w0⟩ [(q_p0, [.string (bs r.2.1), .int .i64 r.2.2.1, .int .i64 r.2.2.2])] [] w' := by
  refine enter Tryd.func59 rfl Tryd.ntmps59 rfl (fun a hF => ?_)
  have hW := hL
  unfold r04_Reader_Take at H
  refine c_seq ?_
  refine reg_list ?_
  refine ls hF hW rfl ((y_assign (v := Value.string (bs ([] : List UInt8))) hF rfl).q) (fun a w hF hW => ?_)
  refine ls_nil ?_
  refine c_then ?_
  obtain ⟨o1, G1, K1⟩ := bindE H
  refine c_seqJ (fun a w => ∃ x1 : List UInt8, ∃ x2 : Int, ∃ x3 : Int, some ((x1, x2, x3)) = some o1 ∧ Fr 44 [] [(0, .pointer (some ⟨q_p0, 0, none⟩)), (1, .int .i64 p1), (4, .string (bs ([] : List UInt8)))] a ∧ Stw ⟨Y, X, w0⟩ [(q_p0, [.string (bs x1), .int .i64 x2, .int .i64 x3])] [] w) ?_ ?_
  ·
    have H := G1
    clear G1 K1
    refine c_seq ?_
    refine reg_list ?_
    refine ls hF hW rfl ((y_move hF rfl).q) (fun a w hF hW => ?_)
    refine ls hF hW rfl ((y_lss hF rfl rfl).q) (fun a w hF hW => ?_)
    refine ls_nil ?_
    refine c_then ?_
    refine c_cond hF rfl (fun hb => ?_) (fun hb => ?_)
    ·
      have H := iteT (of_decide_eq_true hb) H
      rw [hb] at hF
      clear hb
      refine reg_list ?_
      refine ls hF hW rfl ((y_move hF rfl).q) (fun a w hF hW => ?_)
      refine l_callG (Ml := [(q_p0, [.string (bs p0.1), .int .i64 p0.2.1, .int .i64 p0.2.2])]) (Zl := []) (M := []) (Z := []) (β := Unit) (rv := fun x => .tuple #[]) (MM := fun x => [(q_p0, [.string (bs ((r04_Reader_Wrong p0 2).1)), .int .i64 ((r04_Reader_Wrong p0 2).2.1), .int .i64 ((r04_Reader_Wrong p0 2).2.2)])]) (ZZ := fun x => []) hF hW H50 rfl rfl (fun hL => r04_Reader_Wrong_c _ _ w q_p0 p0 2 _ rfl hL) (fun x a w hF hW => ?_)
      have hW : Stw ⟨Y, X, w0⟩ [(q_p0, [.string (bs ((r04_Reader_Wrong p0 2).1)), .int .i64 ((r04_Reader_Wrong p0 2).2.1), .int .i64 ((r04_Reader_Wrong p0 2).2.2)])] [] w := hW
      refine ls_nil ?_
      refine c_then ?_
      exact ⟨_, _, _, H, hF.re ⟨rfl, rfl, rfl, trivial⟩, hW⟩
    ·
      have H := iteF (of_decide_eq_false hb) H
      rw [hb] at hF
      clear hb
      refine wp_skip ?_
      refine c_then ?_
      exact ⟨_, _, _, H, hF.re ⟨rfl, rfl, rfl, trivial⟩, hW⟩
  rintro a w ⟨x1, x2, x3, hj, hF, hW⟩
  have hj := Option.some.inj hj
  subst hj
  have H := K1
  clear G1 K1
  obtain ⟨o2, G2, K2⟩ := bindE H
  refine c_seqJ (fun a w => ∃ x4 : List UInt8, ∃ x5 : Int, ∃ x6 : Int, some ((x4, x5, x6)) = some o2 ∧ Fr 44 [] [(0, .pointer (some ⟨q_p0, 0, none⟩)), (1, .int .i64 p1), (4, .string (bs ([] : List UInt8)))] a ∧ Stw ⟨Y, X, w0⟩ [(q_p0, [.string (bs x4), .int .i64 x5, .int .i64 x6])] [] w) ?_ ?_
  ·
    have H := G2
    clear G2 K2
    refine c_seq ?_
    refine reg_list ?_
    refine ls hF hW rfl ((y_move hF rfl).q) (fun a w hF hW => ?_)
    refine ls hF hW rfl ((y_move hF rfl).q) (fun a w hF hW => ?_)
    refine ls hF hW rfl (y_call (v := Value.int .i64 (r04_Reader_Left (x1, x2, x3))) hF H30 rfl (fun w hW => r04_Reader_Left_c any w q_p0 (x1, x2, x3) _ rfl (at_M hW 0 rfl))) (fun a w hF hW => ?_)
    refine ls hF hW rfl ((y_gtr hF rfl rfl).q) (fun a w hF hW => ?_)
    refine ls_nil ?_
    refine c_then ?_
    refine c_cond hF rfl (fun hb => ?_) (fun hb => ?_)
    ·
      have H := iteT (of_decide_eq_true hb) H
      rw [hb] at hF
      clear hb
      refine reg_list ?_
      refine ls hF hW rfl ((y_move hF rfl).q) (fun a w hF hW => ?_)
      refine l_callG (Ml := [(q_p0, [.string (bs x1), .int .i64 x2, .int .i64 x3])]) (Zl := []) (M := []) (Z := []) (β := Unit) (rv := fun x => .tuple #[]) (MM := fun x => [(q_p0, [.string (bs ((r04_Reader_Wrong (x1, x2, x3) 3).1)), .int .i64 ((r04_Reader_Wrong (x1, x2, x3) 3).2.1), .int .i64 ((r04_Reader_Wrong (x1, x2, x3) 3).2.2)])]) (ZZ := fun x => []) hF hW H50 rfl rfl (fun hL => r04_Reader_Wrong_c _ _ w q_p0 (x1, x2, x3) 3 _ rfl hL) (fun x a w hF hW => ?_)
      have hW : Stw ⟨Y, X, w0⟩ [(q_p0, [.string (bs ((r04_Reader_Wrong (x1, x2, x3) 3).1)), .int .i64 ((r04_Reader_Wrong (x1, x2, x3) 3).2.1), .int .i64 ((r04_Reader_Wrong (x1, x2, x3) 3).2.2)])] [] w := hW
      refine ls_nil ?_
      refine c_then ?_
      exact ⟨_, _, _, H, hF.re ⟨rfl, rfl, rfl, trivial⟩, hW⟩
    ·
      have H := iteF (of_decide_eq_false hb) H
      rw [hb] at hF
      clear hb
      refine wp_skip ?_
      refine c_then ?_
      exact ⟨_, _, _, H, hF.re ⟨rfl, rfl, rfl, trivial⟩, hW⟩
  rintro a w ⟨x4, x5, x6, hj, hF, hW⟩
  have hj := Option.some.inj hj
  subst hj
  have H := K2
  clear G2 K2
  refine c_seq ?_
  refine c_seq ?_
  refine reg_list ?_
  refine ls hF hW rfl ((y_move hF rfl).q) (fun a w hF hW => ?_)
  refine ls hF hW rfl ((y_nilCheck hF rfl).q) (fun a w hF hW => ?_)
  refine ls hF hW rfl ((y_fieldAddr Tryd.underlying42 rfl rfl rfl T3 hF rfl 2 rfl).q) (fun a w hF hW => ?_)
  refine ls hF hW rfl ((y_load (v := Value.int .i64 x6) 0 hF rfl rfl T3 rfl).q) (fun a w hF hW => ?_)
  refine ls hF hW rfl ((y_neq hF rfl rfl).q) (fun a w hF hW => ?_)
  refine ls_nil ?_
  refine c_then ?_
  refine c_cond hF rfl (fun hb => ?_) (fun hb => ?_)
  ·
    have H := iteT (of_decide_eq_true hb) H
    rw [hb] at hF
    clear hb
    refine c_seq ?_
    refine reg_list ?_
    refine ls hF hW rfl ((y_assign (v := Value.string (bs ([] : List UInt8))) hF rfl).q) (fun a w hF hW => ?_)
    refine ls_nil ?_
    refine c_then ?_
    refine wp_ret ?_
    refine r_then ?_
    have H := Option.some.inj H
    subst H
    refine post1 (.inl rfl) hF hW rfl (rv_tmp hF rfl) ?_
    exact ⟨(), rfl, hW⟩
  ·
    have H := iteF (of_decide_eq_false hb) H
    rw [hb] at hF
    clear hb
    refine wp_skip ?_
    refine c_then ?_
    refine c_seq ?_
    refine reg_list ?_
    refine ls hF hW rfl ((y_move hF rfl).q) (fun a w hF hW => ?_)
    refine ls hF hW rfl ((y_move hF rfl).q) (fun a w hF hW => ?_)
    refine ls hF hW rfl ((y_nilCheck hF rfl).q) (fun a w hF hW => ?_)
    refine ls hF hW rfl ((y_fieldAddr Tryd.underlying42 rfl rfl rfl T3 hF rfl 1 rfl).q) (fun a w hF hW => ?_)
    refine ls hF hW rfl ((y_load (v := Value.int .i64 x5) 0 hF rfl rfl T3 rfl).q) (fun a w hF hW => ?_)
    refine ls hF hW rfl ((y_move hF rfl).q) (fun a w hF hW => ?_)
    refine ls hF hW rfl ((y_add hF rfl rfl rfl).q) (fun a w hF hW => ?_)
    refine ls hF hW rfl ((y_nilCheck hF rfl).q) (fun a w hF hW => ?_)
    refine ls hF hW rfl ((y_fieldAddr Tryd.underlying42 rfl rfl rfl T3 hF rfl 1 rfl).q) (fun a w hF hW => ?_)
    refine l_store (vs := [.int .i64 (w64 (x5 + p1))]) (M' := [(q_p0, [.string (bs x4), .int .i64 (w64 (x5 + p1)), .int .i64 x6])]) 0 hF hW rfl rfl rfl T3 rfl rfl rfl rfl rfl (fun w hW => ?_)
    refine ls_nil ?_
    refine c_then ?_
    refine c_seq ?_
    refine reg_quiet hW MO (by kernel_rfl) ?_
    refine qs hF rfl ((y_move hF rfl).q) (fun a hF => ?_)
    refine qs hF rfl ((y_nilCheck hF rfl).q) (fun a hF => ?_)
    refine qs hF rfl ((y_fieldAddr Tryd.underlying42 rfl rfl rfl T9 hF rfl 0 rfl).q) (fun a hF => ?_)
    refine qs hF rfl ((y_load (v := Value.string (bs x4)) 0 hF rfl rfl T9 rfl).q) (fun a hF => ?_)
    refine qs hF rfl ((y_move hF rfl).q) (fun a hF => ?_)
    refine qs hF rfl ((y_nilCheck hF rfl).q) (fun a hF => ?_)
    refine qs hF rfl ((y_fieldAddr Tryd.underlying42 rfl rfl rfl T3 hF rfl 1 rfl).q) (fun a hF => ?_)
    refine qs hF rfl ((y_load (v := Value.int .i64 (w64 (x5 + p1))) 0 hF rfl rfl T3 rfl).q) (fun a hF => ?_)
    refine qs hF rfl ((y_move hF rfl).q) (fun a hF => ?_)
    refine qs hF rfl ((y_sub hF rfl rfl rfl).q) (fun a hF => ?_)
    refine qs hF rfl ((y_move hF rfl).q) (fun a hF => ?_)
    refine qs hF rfl ((y_nilCheck hF rfl).q) (fun a hF => ?_)
    refine qs hF rfl ((y_fieldAddr Tryd.underlying42 rfl rfl rfl T3 hF rfl 1 rfl).q) (fun a hF => ?_)
    refine qs hF rfl ((y_load (v := Value.int .i64 (w64 (x5 + p1))) 0 hF rfl rfl T3 rfl).q) (fun a hF => ?_)
    obtain ⟨x7, h1, H⟩ := bindE H
    refine qs hF rfl ((y_sslice (l := x4) Tryd.underlying9 hF rfl rfl rfl h1).q) (fun a hF => ?_)
    refine qs hF rfl ((y_assign hF rfl).q) (fun a hF => ?_)
    refine quiet_end (fun w hW => ?_)
    refine c_then ?_
    refine wp_ret ?_
    have H := Option.some.inj H
    subst H
    refine post1 (.inl rfl) hF hW rfl (rv_tmp hF rfl) ?_
    exact ⟨(), rfl, hW⟩

end Go.Proofs.YtmlaadalggngkaaDoor
