/- The functions of layer 28, lifted. Conditions: none. -/
import Derived.Test.YtimfbofhleigiaaDoorA0
namespace Go.Proofs.YtimfbofhleigiaaDoor
open Go Go.RowKit
set_option linter.unusedVariables false
set_option linter.unusedSimpArgs false
set_option maxRecDepth 20000
theorem H6 : Has Tryd.prog 6 := ⟨fun args w => run_callFunc_body Tryd.func6 rfl (by decide) args w⟩
theorem MO : Tryd.prog.follows .mixedOrders = true := by kernel_rfl
noncomputable def L28_moved_l1 (p0 : List (Int × Int × List UInt8 × Int)) (p1 : List (Int × Int × List UInt8 × Int)) : Int → Option (Int ⊕ (Unit ⊕ Bool))
  | x1 => (if x1 < (p0.length : Int) then ((ix p0 x1).bind fun x3 => (ix p1 x1).bind fun x4 => (if x3.1 ≠ x4.1 then some true else (ix p0 x1).bind fun x5 => (ix p1 x1).bind fun x6 => (if x5.2.1 ≠ x6.2.1 then some true else (ix p0 x1).bind fun x7 => (ix p1 x1).bind fun x8 => some (decide (x7.2.2.1 ≠ x8.2.2.1))))).bind fun x2 => (if x2 = true then some (.inr (.inr false)) else some (.inl (w64 (x1 + 1)))) else some (.inr (.inl ())))
noncomputable def L28_moved (p0 : List (Int × Int × List UInt8 × Int)) (p1 : List (Int × Int × List UInt8 × Int)) : Option Bool := (if (p0.length : Int) ≠ (p1.length : Int) then some false else orR (loopW (L28_moved_l1 p0 p1) 0) fun _ => some true)
theorem L28_moved_c (Y : Nat → Prop) (w0 : World) (v1 : Value) (v2 : Value) (p0 : List (Int × Int × List UInt8 × Int)) (p1 : List (Int × Int × List UInt8 × Int)) (r : Bool) (H : L28_moved p0 p1 = some r) (h_v1 : Sl w0 (NX []) R30 v1 p0) (h_v2 : Sl w0 (NX []) R30 v2 p1) :
    Calls Tryd.prog 7 #[v1, v2] w0 fun e w' => e = .returned (.bool r) ∧ Below w0.heap.size w0 w' := by
  refine enter Tryd.func7 rfl Tryd.ntmps7 rfl (fun a hF => ?_)
  have hW := Stw.start Y w0
  unfold L28_moved at H
  refine c_seq ?_
  refine reg_list ?_
  refine ls hF hW rfl ((y_assign hF rfl).q) (fun a w hF hW => ?_)
  refine ls_nil ?_
  refine c_then ?_
  refine c_seq ?_
  refine c_seq ?_
  refine reg_list ?_
  refine ls hF hW rfl ((y_move hF rfl).q) (fun a w hF hW => ?_)
  refine ls hF hW rfl ((y_len (r := R30) (l := p0) Tryd.underlying23 rfl hF rfl (rdc_ro h_v1)).q) (fun a w hF hW => ?_)
  refine ls hF hW rfl ((y_move hF rfl).q) (fun a w hF hW => ?_)
  refine ls hF hW rfl ((y_len (r := R30) (l := p1) Tryd.underlying23 rfl hF rfl (rdc_ro h_v2)).q) (fun a w hF hW => ?_)
  refine ls hF hW rfl ((y_neq hF rfl rfl).q) (fun a w hF hW => ?_)
  refine ls_nil ?_
  refine c_then ?_
  refine c_cond hF rfl (fun hb => ?_) (fun hb => ?_)
  ·
    have H := iteT (of_decide_eq_true hb) H
    rw [hb] at hF
    clear hb
    refine c_seq ?_
    refine reg_list ?_
    refine ls hF hW rfl ((y_assign hF rfl).q) (fun a w hF hW => ?_)
    refine ls_nil ?_
    refine c_then ?_
    refine wp_ret ?_
    refine r_then ?_
    have H := Option.some.inj H
    subst H
    refine post1 (.inl rfl) hF hW rfl (rv_tmp hF rfl) ?_
    exact ⟨rfl, hW.done⟩
  ·
    have H := iteF (of_decide_eq_false hb) H
    rw [hb] at hF
    clear hb
    refine wp_skip ?_
    refine c_then ?_
    obtain ⟨o1, G1, K1, L1⟩ := orE H
    refine c_seqJ (fun a w => some (Sum.inl ()) = some o1 ∧ Fr 54 [] [(4, .bool false)] a ∧ Stw ⟨Y, [], w0⟩ [] [] w) ?_ ?_
    ·
      have H := G1
      clear G1 K1
      refine c_seq ?_
      refine reg_list ?_
      refine ls hF hW rfl ((y_assign hF rfl).q) (fun a w hF hW => ?_)
      refine ls_nil ?_
      refine c_then ?_
      refine wp_block ?_
      refine c_loopW H (fun s a w => Fr 54 [] [(0, v1), (1, v2), (4, .bool false), (5, .int .i64 s)] a ∧ Stw ⟨Y, [], w0⟩ [] [] w) ⟨hF.re ⟨rfl, rfl, rfl, rfl, trivial⟩, hW⟩ (fun s o a w H L2 hR => ?_)
      obtain ⟨x1, rfl⟩ : ∃ x, x = s := ⟨s, rfl⟩
      obtain ⟨hF, hW⟩ := hR
      have hF : Fr 54 [] [(0, v1), (1, v2), (4, .bool false), (5, .int .i64 x1)] a := hF
      have hW : Stw ⟨Y, [], w0⟩ [] [] w := hW
      rw [L28_moved_l1] at H
      refine c_seq ?_
      refine c_seq ?_
      refine reg_list ?_
      refine ls hF hW rfl ((y_move hF rfl).q) (fun a w hF hW => ?_)
      refine ls hF hW rfl ((y_move hF rfl).q) (fun a w hF hW => ?_)
      refine ls hF hW rfl ((y_len (r := R30) (l := p0) Tryd.underlying23 rfl hF rfl (rdc_ro h_v1)).q) (fun a w hF hW => ?_)
      refine ls hF hW rfl ((y_lss hF rfl rfl).q) (fun a w hF hW => ?_)
      refine ls_nil ?_
      refine c_then ?_
      refine c_cond hF rfl (fun hb => ?_) (fun hb => ?_)
      ·
        have H := iteT (of_decide_eq_true hb) H
        rw [hb] at hF
        clear hb
        refine wp_skip ?_
        refine c_then ?_
        refine c_seq ?_
        refine wp_block ?_
        obtain ⟨o3, G3, K3⟩ := bindE H
        refine c_seqJ (fun a w => ∃ x2 : Bool, some (x2) = some o3 ∧ Fr 54 [] [(0, v1), (1, v2), (4, .bool false), (5, .int .i64 x1), (53, .bool x2)] a ∧ Stw ⟨Y, [], w0⟩ [] [] w) ?_ ?_
        ·
          have H := G3
          clear G3 K3
          refine reg_quiet hW MO (by kernel_rfl) ?_
          refine qs hF rfl ((y_move hF rfl).q) (fun a hF => ?_)
          refine qs hF rfl ((y_move hF rfl).q) (fun a hF => ?_)
          obtain ⟨x3, h1, H⟩ := bindE H
          refine qs hF rfl ((y_index (r := R30) L23 hF rfl rfl (rdc_ro h_v1) h1).q) (fun a hF => ?_)
          refine qs hF rfl ((y_fieldAddr Tryd.underlying30 rfl rfl rfl T3 hF rfl (voff v1 + (x1).toNat * 4) rfl).q) (fun a hF => ?_)
          refine qs hF rfl ((y_load_el (y := Value.int .i64 x3.1) (j := 0) (i := x1) hF rfl rfl (rdc_ro h_v1) h1 F30.to T3 rfl).q) (fun a hF => ?_)
          refine qs hF rfl ((y_move hF rfl).q) (fun a hF => ?_)
          refine qs hF rfl ((y_move hF rfl).q) (fun a hF => ?_)
          obtain ⟨x4, h2, H⟩ := bindE H
          refine qs hF rfl ((y_index (r := R30) L23 hF rfl rfl (rdc_ro h_v2) h2).q) (fun a hF => ?_)
          refine qs hF rfl ((y_fieldAddr Tryd.underlying30 rfl rfl rfl T3 hF rfl (voff v2 + (x1).toNat * 4) rfl).q) (fun a hF => ?_)
          refine qs hF rfl ((y_load_el (y := Value.int .i64 x4.1) (j := 0) (i := x1) hF rfl rfl (rdc_ro h_v2) h2 F30.to T3 rfl).q) (fun a hF => ?_)
          refine qs hF rfl ((y_neq hF rfl rfl).q) (fun a hF => ?_)
          refine qs hF rfl ((y_move hF rfl).q) (fun a hF => ?_)
          rcases Bool.eq_false_or_eq_true (decide (x3.1 ≠ x4.1)) with hb | hb
          ·
            have H := iteT (of_decide_eq_true hb) H
            rw [hb] at hF
            clear hb
            refine qs_skip hF (wanted_n hF rfl rfl rfl rfl rfl) rfl rfl (fun a hF => ?_)
            refine qs_skip hF (wanted_n hF rfl rfl rfl rfl rfl) rfl rfl (fun a hF => ?_)
            refine qs_skip hF (wanted_n hF rfl rfl rfl rfl rfl) rfl rfl (fun a hF => ?_)
            refine qs_skip hF (wanted_n hF rfl rfl rfl rfl rfl) rfl rfl (fun a hF => ?_)
            refine qs_skip hF (wanted_n hF rfl rfl rfl rfl rfl) rfl rfl (fun a hF => ?_)
            refine qs_skip hF (wanted_n hF rfl rfl rfl rfl rfl) rfl rfl (fun a hF => ?_)
            refine qs_skip hF (wanted_n hF rfl rfl rfl rfl rfl) rfl rfl (fun a hF => ?_)
            refine qs_skip hF (wanted_n hF rfl rfl rfl rfl rfl) rfl rfl (fun a hF => ?_)
            refine qs_skip hF (wanted_n hF rfl rfl rfl rfl rfl) rfl rfl (fun a hF => ?_)
            refine qs_skip hF (wanted_n hF rfl rfl rfl rfl rfl) rfl rfl (fun a hF => ?_)
            refine qs_skip hF (wanted_n hF rfl rfl rfl rfl rfl) rfl rfl (fun a hF => ?_)
            refine qs hF rfl ((y_pick_t hF rfl rfl rfl).q) (fun a hF => ?_)
            refine qs hF rfl ((y_move hF rfl).q) (fun a hF => ?_)
            refine qs_skip hF (wanted_n hF rfl rfl rfl rfl rfl) rfl rfl (fun a hF => ?_)
            refine qs_skip hF (wanted_n hF rfl rfl rfl rfl rfl) rfl rfl (fun a hF => ?_)
            refine qs_skip hF (wanted_n hF rfl rfl rfl rfl rfl) rfl rfl (fun a hF => ?_)
            refine qs_skip hF (wanted_n hF rfl rfl rfl rfl rfl) rfl rfl (fun a hF => ?_)
            refine qs_skip hF (wanted_n hF rfl rfl rfl rfl rfl) rfl rfl (fun a hF => ?_)
            refine qs_skip hF (wanted_n hF rfl rfl rfl rfl rfl) rfl rfl (fun a hF => ?_)
            refine qs_skip hF (wanted_n hF rfl rfl rfl rfl rfl) rfl rfl (fun a hF => ?_)
            refine qs_skip hF (wanted_n hF rfl rfl rfl rfl rfl) rfl rfl (fun a hF => ?_)
            refine qs_skip hF (wanted_n hF rfl rfl rfl rfl rfl) rfl rfl (fun a hF => ?_)
            refine qs_skip hF (wanted_n hF rfl rfl rfl rfl rfl) rfl rfl (fun a hF => ?_)
            refine qs_skip hF (wanted_n hF rfl rfl rfl rfl rfl) rfl rfl (fun a hF => ?_)
            refine qs hF rfl ((y_pick_t hF rfl rfl rfl).q) (fun a hF => ?_)
            refine quiet_end (fun w hW => ?_)
            refine c_then ?_
            exact ⟨_, H, hF.re ⟨rfl, rfl, rfl, rfl, rfl, trivial⟩, hW⟩
          ·
            have H := iteF (of_decide_eq_false hb) H
            rw [hb] at hF
            clear hb
            refine qs_w hF (wanted_y hF rfl rfl rfl rfl) rfl (Nat.le_of_ble_eq_true rfl) ((y_move hF rfl).q) (fun a hF => ?_)
            refine qs_w hF (wanted_y hF rfl rfl rfl rfl) rfl (Nat.le_of_ble_eq_true rfl) ((y_move hF rfl).q) (fun a hF => ?_)
            obtain ⟨x5, h3, H⟩ := bindE H
            refine qs_w hF (wanted_y hF rfl rfl rfl rfl) rfl (Nat.le_of_ble_eq_true rfl) ((y_index (r := R30) L23 hF rfl rfl (rdc_ro h_v1) h3).q) (fun a hF => ?_)
            refine qs_w hF (wanted_y hF rfl rfl rfl rfl) rfl (Nat.le_of_ble_eq_true rfl) ((y_fieldAddr Tryd.underlying30 rfl rfl rfl T3 hF rfl (voff v1 + (x1).toNat * 4 + 1) rfl).q) (fun a hF => ?_)
            refine qs_w hF (wanted_y hF rfl rfl rfl rfl) rfl (Nat.le_of_ble_eq_true rfl) ((y_load_el (y := Value.int .i64 x5.2.1) (j := 1) (i := x1) hF rfl rfl (rdc_ro h_v1) h3 F30.to T3 rfl).q) (fun a hF => ?_)
            refine qs_w hF (wanted_y hF rfl rfl rfl rfl) rfl (Nat.le_of_ble_eq_true rfl) ((y_move hF rfl).q) (fun a hF => ?_)
            refine qs_w hF (wanted_y hF rfl rfl rfl rfl) rfl (Nat.le_of_ble_eq_true rfl) ((y_move hF rfl).q) (fun a hF => ?_)
            obtain ⟨x6, h4, H⟩ := bindE H
            refine qs_w hF (wanted_y hF rfl rfl rfl rfl) rfl (Nat.le_of_ble_eq_true rfl) ((y_index (r := R30) L23 hF rfl rfl (rdc_ro h_v2) h4).q) (fun a hF => ?_)
            refine qs_w hF (wanted_y hF rfl rfl rfl rfl) rfl (Nat.le_of_ble_eq_true rfl) ((y_fieldAddr Tryd.underlying30 rfl rfl rfl T3 hF rfl (voff v2 + (x1).toNat * 4 + 1) rfl).q) (fun a hF => ?_)
            refine qs_w hF (wanted_y hF rfl rfl rfl rfl) rfl (Nat.le_of_ble_eq_true rfl) ((y_load_el (y := Value.int .i64 x6.2.1) (j := 1) (i := x1) hF rfl rfl (rdc_ro h_v2) h4 F30.to T3 rfl).q) (fun a hF => ?_)
            refine qs_w hF (wanted_y hF rfl rfl rfl rfl) rfl (Nat.le_of_ble_eq_true rfl) ((y_neq hF rfl rfl).q) (fun a hF => ?_)
            refine qs hF rfl ((y_pick_f hF rfl rfl rfl).q) (fun a hF => ?_)
            refine qs hF rfl ((y_move hF rfl).q) (fun a hF => ?_)
            rcases Bool.eq_false_or_eq_true (decide (x5.2.1 ≠ x6.2.1)) with hb | hb
            ·
              have H := iteT (of_decide_eq_true hb) H
              rw [hb] at hF
              clear hb
              refine qs_skip hF (wanted_n hF rfl rfl rfl rfl rfl) rfl rfl (fun a hF => ?_)
              refine qs_skip hF (wanted_n hF rfl rfl rfl rfl rfl) rfl rfl (fun a hF => ?_)
              refine qs_skip hF (wanted_n hF rfl rfl rfl rfl rfl) rfl rfl (fun a hF => ?_)
              refine qs_skip hF (wanted_n hF rfl rfl rfl rfl rfl) rfl rfl (fun a hF => ?_)
              refine qs_skip hF (wanted_n hF rfl rfl rfl rfl rfl) rfl rfl (fun a hF => ?_)
              refine qs_skip hF (wanted_n hF rfl rfl rfl rfl rfl) rfl rfl (fun a hF => ?_)
              refine qs_skip hF (wanted_n hF rfl rfl rfl rfl rfl) rfl rfl (fun a hF => ?_)
              refine qs_skip hF (wanted_n hF rfl rfl rfl rfl rfl) rfl rfl (fun a hF => ?_)
              refine qs_skip hF (wanted_n hF rfl rfl rfl rfl rfl) rfl rfl (fun a hF => ?_)
              refine qs_skip hF (wanted_n hF rfl rfl rfl rfl rfl) rfl rfl (fun a hF => ?_)
              refine qs_skip hF (wanted_n hF rfl rfl rfl rfl rfl) rfl rfl (fun a hF => ?_)
              refine qs hF rfl ((y_pick_t hF rfl rfl rfl).q) (fun a hF => ?_)
              refine quiet_end (fun w hW => ?_)
              refine c_then ?_
              exact ⟨_, H, hF.re ⟨rfl, rfl, rfl, rfl, rfl, trivial⟩, hW⟩
            ·
              have H := iteF (of_decide_eq_false hb) H
              rw [hb] at hF
              clear hb
              refine qs_w hF (wanted_y hF rfl rfl rfl rfl) rfl (Nat.le_of_ble_eq_true rfl) ((y_move hF rfl).q) (fun a hF => ?_)
              refine qs_w hF (wanted_y hF rfl rfl rfl rfl) rfl (Nat.le_of_ble_eq_true rfl) ((y_move hF rfl).q) (fun a hF => ?_)
              obtain ⟨x7, h5, H⟩ := bindE H
              refine qs_w hF (wanted_y hF rfl rfl rfl rfl) rfl (Nat.le_of_ble_eq_true rfl) ((y_index (r := R30) L23 hF rfl rfl (rdc_ro h_v1) h5).q) (fun a hF => ?_)
              refine qs_w hF (wanted_y hF rfl rfl rfl rfl) rfl (Nat.le_of_ble_eq_true rfl) ((y_fieldAddr Tryd.underlying30 rfl rfl rfl T9 hF rfl (voff v1 + (x1).toNat * 4 + 2) rfl).q) (fun a hF => ?_)
              refine qs_w hF (wanted_y hF rfl rfl rfl rfl) rfl (Nat.le_of_ble_eq_true rfl) ((y_load_el (y := Value.string (bs x7.2.2.1)) (j := 2) (i := x1) hF rfl rfl (rdc_ro h_v1) h5 F30.to T9 rfl).q) (fun a hF => ?_)
              refine qs_w hF (wanted_y hF rfl rfl rfl rfl) rfl (Nat.le_of_ble_eq_true rfl) ((y_move hF rfl).q) (fun a hF => ?_)
              refine qs_w hF (wanted_y hF rfl rfl rfl rfl) rfl (Nat.le_of_ble_eq_true rfl) ((y_move hF rfl).q) (fun a hF => ?_)
              obtain ⟨x8, h6, H⟩ := bindE H
              refine qs_w hF (wanted_y hF rfl rfl rfl rfl) rfl (Nat.le_of_ble_eq_true rfl) ((y_index (r := R30) L23 hF rfl rfl (rdc_ro h_v2) h6).q) (fun a hF => ?_)
              refine qs_w hF (wanted_y hF rfl rfl rfl rfl) rfl (Nat.le_of_ble_eq_true rfl) ((y_fieldAddr Tryd.underlying30 rfl rfl rfl T9 hF rfl (voff v2 + (x1).toNat * 4 + 2) rfl).q) (fun a hF => ?_)
              refine qs_w hF (wanted_y hF rfl rfl rfl rfl) rfl (Nat.le_of_ble_eq_true rfl) ((y_load_el (y := Value.string (bs x8.2.2.1)) (j := 2) (i := x1) hF rfl rfl (rdc_ro h_v2) h6 F30.to T9 rfl).q) (fun a hF => ?_)
              refine qs_w hF (wanted_y hF rfl rfl rfl rfl) rfl (Nat.le_of_ble_eq_true rfl) ((y_sne (l := x7.2.2.1) (m := x8.2.2.1) hF rfl rfl).q) (fun a hF => ?_)
              refine qs hF rfl ((y_pick_f hF rfl rfl rfl).q) (fun a hF => ?_)
              refine quiet_end (fun w hW => ?_)
              refine c_then ?_
              exact ⟨_, H, hF.re ⟨rfl, rfl, rfl, rfl, rfl, trivial⟩, hW⟩
        rintro a w ⟨x2, hj, hF, hW⟩
        have hj := Option.some.inj hj
        subst hj
        have H := K3
        clear G3 K3
        refine c_cond hF rfl (fun hb => ?_) (fun hb => ?_)
        ·
          have H := iteT hb H
          rw [hb] at hF
          clear hb
          refine c_seq ?_
          refine reg_list ?_
          refine ls hF hW rfl ((y_assign hF rfl).q) (fun a w hF hW => ?_)
          refine ls_nil ?_
          refine c_then ?_
          refine wp_ret ?_
          refine r_block ?_
          refine r_then ?_
          refine r_then ?_
          refine r_block ?_
          refine r_then ?_
          have H := L2 _ H
          have H := L1 _ H
          have H := Option.some.inj H
          subst H
          refine post1 (.inl rfl) hF hW rfl (rv_tmp hF rfl) ?_
          exact ⟨rfl, hW.done⟩
        ·
          have H := iteF (by rw [hb]; decide) H
          rw [hb] at hF
          clear hb
          refine wp_skip ?_
          refine b_normal ?_
          refine c_then ?_
          refine reg_list ?_
          refine ls hF hW rfl ((y_move hF rfl).q) (fun a w hF hW => ?_)
          refine ls hF hW rfl ((y_add hF rfl rfl rfl).q) (fun a w hF hW => ?_)
          refine ls hF hW rfl ((y_assign hF rfl).q) (fun a w hF hW => ?_)
          refine ls_nil ?_
          refine c_then ?_
          exact ⟨_, H, hF.re ⟨rfl, rfl, rfl, rfl, trivial⟩, hW⟩
      ·
        have H := iteF (of_decide_eq_false hb) H
        rw [hb] at hF
        clear hb
        refine wp_exit ?_
        refine e_then ?_
        refine e_then ?_
        refine e_block ?_
        refine c_then ?_
        have H := L2 _ H
        exact ⟨H, hF.re ⟨rfl, trivial⟩, hW⟩
    rintro a w ⟨hj, hF, hW⟩
    have H := K1 _ hj
    clear hj G1 K1 L1
    refine c_seq ?_
    refine reg_list ?_
    refine ls hF hW rfl ((y_assign hF rfl).q) (fun a w hF hW => ?_)
    refine ls_nil ?_
    refine c_then ?_
    refine wp_ret ?_
    have H := Option.some.inj H
    subst H
    refine post1 (.inl rfl) hF hW rfl (rv_tmp hF rfl) ?_
    exact ⟨rfl, hW.done⟩

theorem H7 : Has Tryd.prog 7 := ⟨fun args w => run_callFunc_body Tryd.func7 rfl (by decide) args w⟩
noncomputable def L28_LexBack_l1 (p0 : List UInt8) (x2 : (List (Int × Int × List UInt8 × Int)) × Int × Int) : (Int × Int) → Option ((Int × Int) ⊕ (Unit ⊕ Bool))
  | (x9, x10) => (if x10 < (x2.1.length : Int) then (ix x2.1 x10).bind fun x11 => (if (decide (x11.2.2.2 < x9) || decide ((p0.length : Int) < x11.2.2.2)) = true then some (.inr (.inr false)) else (lex_Text ([x11] : List (Int × Int × List UInt8 × Int))).bind fun x12 => (if (w64 ((p0.length : Int) - x11.2.2.2)) < (x12.length : Int) then some true else (subl p0 x11.2.2.2 (w64 (x11.2.2.2 + (x12.length : Int)))).bind fun x14 => some (decide (x14 ≠ x12))).bind fun x13 => (if x13 = true then some (.inr (.inr false)) else some (.inl (w64 (x11.2.2.2 + (x12.length : Int)), w64 (x10 + 1))))) else some (.inr (.inl ())))
noncomputable def L28_LexBack (p0 : List UInt8) : Option Bool := (if 1000 < (p0.length : Int) then (L28_awake).bind fun x1 => some x1 else (lex_Lex p0).bind fun x2 => (if x2.2.2 ≠ 0 then (if (x2.1.length : Int) = 0 then (L28_awake).bind fun x4 => some x4 else some false).bind fun x3 => some x3 else (lex_Text x2.1).bind fun x5 => (lex_Lex x5).bind fun x6 => (if x6.2.2 ≠ 0 then some true else (L28_moved x2.1 x6.1).bind fun x8 => (if (!x8) = true then some true else some (decide ((x2.1.length : Int) = 0)))).bind fun x7 => (if x7 = true then some false else orR (loopW (L28_LexBack_l1 p0 x2) (0, 0)) fun _ => ((ix x2.1 (w64 ((x2.1.length : Int) - 1))).bind fun x16 => (if x16.1 = 4 then (ix x2.1 (w64 ((x2.1.length : Int) - 1))).bind fun x17 => (if x17.2.2.2 = (p0.length : Int) then (L28_awake).bind fun x18 => some x18 else some false) else some false)).bind fun x15 => some x15)))
theorem L28_LexBack_c (Y : Nat → Prop) (w0 : World)  (p0 : List UInt8) (r : Bool) (H : L28_LexBack p0 = some r) (hG : Gk [] w0) :
    Calls Tryd.prog 3 #[.string (bs p0)] w0 fun e w' => e = .returned (.bool r) ∧ Below w0.heap.size w0 w' := by
  refine enter Tryd.func3 rfl Tryd.ntmps3 rfl (fun a hF => ?_)
  have hW := Stw.start Y w0
  unfold L28_LexBack at H
  refine c_seq ?_
  refine reg_list ?_
  refine ls hF hW rfl ((y_assign hF rfl).q) (fun a w hF hW => ?_)
  refine ls_nil ?_
  refine c_then ?_
  refine c_seq ?_
  refine c_seq ?_
  refine reg_list ?_
  refine ls hF hW rfl ((y_move hF rfl).q) (fun a w hF hW => ?_)
  refine ls hF hW rfl ((y_slen (l := p0) Tryd.underlying9 rfl hF rfl).q) (fun a w hF hW => ?_)
  refine ls hF hW rfl ((y_gtr hF rfl rfl).q) (fun a w hF hW => ?_)
  refine ls_nil ?_
  refine c_then ?_
  refine c_cond hF rfl (fun hb => ?_) (fun hb => ?_)
  ·
    have H := iteT (of_decide_eq_true hb) H
    rw [hb] at hF
    clear hb
    refine c_seq ?_
    refine reg_list ?_
    obtain ⟨x1, h1, H⟩ := bindE H
    refine ls hF hW rfl (y_call (v := Value.bool x1) hF H4 rfl (fun w hW => L28_awake_c any w _ h1)) (fun a w hF hW => ?_)
    refine ls hF hW rfl ((y_assign hF rfl).q) (fun a w hF hW => ?_)
    refine ls_nil ?_
    refine c_then ?_
    refine wp_ret ?_
    refine r_then ?_
    have H := Option.some.inj H
    subst H
    refine post1 (.inl rfl) hF hW rfl (rv_tmp hF rfl) ?_
    exact ⟨rfl, hW.done⟩
  ·
    have H := iteF (of_decide_eq_false hb) H
    rw [hb] at hF
    clear hb
    refine wp_skip ?_
    refine c_then ?_
    refine c_seq ?_
    refine reg_list ?_
    refine ls hF hW rfl ((y_move hF rfl).q) (fun a w hF hW => ?_)
    obtain ⟨x2, h2, H⟩ := bindE H
    refine l_callG (Ml := []) (Zl := []) (M := []) (Z := []) (β := Value) (rv := fun x => .tuple #[x, .int .i64 x2.2.1, .int .i64 x2.2.2]) (MM := fun x => []) (ZZ := fun x => [row x 30 R30 x2.1]) hF hW H5 rfl rfl (fun hL => lex_Lex_c _ w p0 _ h2) (fun x a w hF hW => ?_)
    obtain ⟨v1, rfl⟩ : ∃ y, y = x := ⟨x, rfl⟩
    have hW : Stw ⟨Y, [], w0⟩ [] [row v1 30 R30 x2.1] w := hW
    refine ls hF hW rfl ((y_move hF rfl).q) (fun a w hF hW => ?_)
    refine ls hF hW rfl ((y_extract (v := v1) hF rfl rfl).q) (fun a w hF hW => ?_)
    refine ls hF hW rfl ((y_extract (v := Value.int .i64 x2.2.1) hF rfl rfl).q) (fun a w hF hW => ?_)
    refine ls hF hW rfl ((y_extract (v := Value.int .i64 x2.2.2) hF rfl rfl).q) (fun a w hF hW => ?_)
    refine ls hF hW rfl ((y_assign hF rfl).q) (fun a w hF hW => ?_)
    refine ls hF hW rfl ((y_assign hF rfl).q) (fun a w hF hW => ?_)
    refine ls hF hW rfl ((y_assign hF rfl).q) (fun a w hF hW => ?_)
    refine ls_nil ?_
    refine c_then ?_
    refine c_seq ?_
    refine c_seq ?_
    refine reg_list ?_
    refine ls hF hW rfl ((y_move hF rfl).q) (fun a w hF hW => ?_)
    refine ls hF hW rfl ((y_neq hF rfl rfl).q) (fun a w hF hW => ?_)
    refine ls_nil ?_
    refine c_then ?_
    refine c_cond hF rfl (fun hb => ?_) (fun hb => ?_)
    ·
      have H := iteT (of_decide_eq_true hb) H
      rw [hb] at hF
      clear hb
      obtain ⟨o1, G1, K1⟩ := bindE H
      refine c_seqJ (fun a w => ∃ x3 : Bool, some (x3) = some o1 ∧ Fr 124 [] [(0, .string (bs p0)), (2, .bool x3), (3, v1)] a ∧ Stw ⟨Y, [], w0⟩ [] [row v1 30 R30 x2.1] w) ?_ ?_
      ·
        have H := G1
        clear G1 K1
        refine reg_list ?_
        refine ls hF hW rfl ((y_move hF rfl).q) (fun a w hF hW => ?_)
        refine ls hF hW rfl ((y_len (r := R30) (l := x2.1) Tryd.underlying23 rfl hF rfl (rdc_row 0 rfl)).q) (fun a w hF hW => ?_)
        refine ls hF hW rfl ((y_eql hF rfl rfl).q) (fun a w hF hW => ?_)
        refine ls hF hW rfl ((y_move hF rfl).q) (fun a w hF hW => ?_)
        rcases Bool.eq_false_or_eq_true (decide ((x2.1.length : Int) = 0)) with hb | hb
        ·
          have H := iteT (of_decide_eq_true hb) H
          rw [hb] at hF
          clear hb
          refine ls_g (wanted_y hF rfl rfl rfl rfl) ?_
          obtain ⟨x4, h3, H⟩ := bindE H
          refine ls hF hW rfl (y_call (v := Value.bool x4) hF H4 rfl (fun w hW => L28_awake_c any w _ h3)) (fun a w hF hW => ?_)
          refine ls hF hW rfl ((y_pick_t hF rfl rfl rfl).q) (fun a w hF hW => ?_)
          refine ls hF hW rfl ((y_assign hF rfl).q) (fun a w hF hW => ?_)
          refine ls_nil ?_
          refine c_then ?_
          exact ⟨_, H, hF.re ⟨rfl, rfl, rfl, trivial⟩, hW⟩
        ·
          have H := iteF (of_decide_eq_false hb) H
          rw [hb] at hF
          clear hb
          refine ls_skip hF (wanted_n hF rfl rfl rfl rfl rfl) rfl rfl (fun a hF => ?_)
          refine ls hF hW rfl ((y_pick_f hF rfl rfl rfl).q) (fun a w hF hW => ?_)
          refine ls hF hW rfl ((y_assign hF rfl).q) (fun a w hF hW => ?_)
          refine ls_nil ?_
          refine c_then ?_
          exact ⟨_, H, hF.re ⟨rfl, rfl, rfl, trivial⟩, hW⟩
      rintro a w ⟨x3, hj, hF, hW⟩
      have hj := Option.some.inj hj
      subst hj
      have H := K1
      clear G1 K1
      refine wp_ret ?_
      refine r_then ?_
      have H := Option.some.inj H
      subst H
      refine post1 (.inl rfl) hF hW rfl (rv_tmp hF rfl) ?_
      exact ⟨rfl, hW.done⟩
    ·
      have H := iteF (of_decide_eq_false hb) H
      rw [hb] at hF
      clear hb
      refine wp_skip ?_
      refine c_then ?_
      refine c_seq ?_
      refine reg_list ?_
      refine ls hF hW rfl ((y_move hF rfl).q) (fun a w hF hW => ?_)
      obtain ⟨x5, h4, H⟩ := bindE H
      refine ls hF hW rfl (y_call (v := Value.string (bs x5)) hF H6 rfl (fun w hW => lex_Text_c any w (v1) x2.1 _ h4 (((rdc_row 0 rfl) : Rdc _ _ _ _ _ _) w hW).nx (hG.go0 hW))) (fun a w hF hW => ?_)
      obtain ⟨x6, h5, H⟩ := bindE H
      refine l_callG (Ml := []) (Zl := []) (M := []) (Z := [row v1 30 R30 x2.1]) (β := Value) (rv := fun x => .tuple #[x, .int .i64 x6.2.1, .int .i64 x6.2.2]) (MM := fun x => []) (ZZ := fun x => [row x 30 R30 x6.1]) hF hW H5 rfl rfl (fun hL => lex_Lex_c _ w x5 _ h5) (fun x a w hF hW => ?_)
      obtain ⟨v2, rfl⟩ : ∃ y, y = x := ⟨x, rfl⟩
      have hW : Stw ⟨Y, [], w0⟩ [] [row v2 30 R30 x6.1, row v1 30 R30 x2.1] w := hW
      refine ls hF hW rfl ((y_move hF rfl).q) (fun a w hF hW => ?_)
      refine ls hF hW rfl ((y_extract (v := v2) hF rfl rfl).q) (fun a w hF hW => ?_)
      refine ls hF hW rfl ((y_extract (v := Value.int .i64 x6.2.1) hF rfl rfl).q) (fun a w hF hW => ?_)
      refine ls hF hW rfl ((y_extract (v := Value.int .i64 x6.2.2) hF rfl rfl).q) (fun a w hF hW => ?_)
      refine ls hF hW rfl ((y_assign hF rfl).q) (fun a w hF hW => ?_)
      refine ls hF hW rfl ((y_assign hF rfl).q) (fun a w hF hW => ?_)
      refine ls hF hW rfl ((y_assign hF rfl).q) (fun a w hF hW => ?_)
      refine ls_nil ?_
      refine c_then ?_
      refine c_seq ?_
      obtain ⟨o2, G2, K2⟩ := bindE H
      refine c_seqJ (fun a w => ∃ x7 : Bool, some (x7) = some o2 ∧ Fr 124 [] [(0, .string (bs p0)), (2, .bool false), (3, v1), (50, .bool x7)] a ∧ Stw ⟨Y, [], w0⟩ [] [row v1 30 R30 x2.1] w) ?_ ?_
      ·
        have H := G2
        clear G2 K2
        refine reg_list ?_
        refine ls hF hW rfl ((y_move hF rfl).q) (fun a w hF hW => ?_)
        refine ls hF hW rfl ((y_neq hF rfl rfl).q) (fun a w hF hW => ?_)
        refine ls hF hW rfl ((y_move hF rfl).q) (fun a w hF hW => ?_)
        rcases Bool.eq_false_or_eq_true (decide (x6.2.2 ≠ 0)) with hb | hb
        ·
          have H := iteT (of_decide_eq_true hb) H
          rw [hb] at hF
          clear hb
          refine ls_skip hF (wanted_n hF rfl rfl rfl rfl rfl) rfl rfl (fun a hF => ?_)
          refine ls_skip hF (wanted_n hF rfl rfl rfl rfl rfl) rfl rfl (fun a hF => ?_)
          refine ls_skip hF (wanted_n hF rfl rfl rfl rfl rfl) rfl rfl (fun a hF => ?_)
          refine ls_skip hF (wanted_n hF rfl rfl rfl rfl rfl) rfl rfl (fun a hF => ?_)
          refine ls hF hW rfl ((y_pick_t hF rfl rfl rfl).q) (fun a w hF hW => ?_)
          refine ls hF hW rfl ((y_move hF rfl).q) (fun a w hF hW => ?_)
          refine ls_skip hF (wanted_n hF rfl rfl rfl rfl rfl) rfl rfl (fun a hF => ?_)
          refine ls_skip hF (wanted_n hF rfl rfl rfl rfl rfl) rfl rfl (fun a hF => ?_)
          refine ls_skip hF (wanted_n hF rfl rfl rfl rfl rfl) rfl rfl (fun a hF => ?_)
          refine ls hF hW rfl ((y_pick_t hF rfl rfl rfl).q) (fun a w hF hW => ?_)
          refine ls_nil ?_
          refine c_then ?_
          have hW := hW.frontZ (i := 1) rfl rfl
          have hW := hW.sub (M' := []) (Z' := [row v1 30 R30 x2.1]) (List.Sublist.refl _) (List.Sublist.cons_cons _ (List.nil_sublist _))
          exact ⟨_, H, hF.re ⟨rfl, rfl, rfl, rfl, trivial⟩, hW⟩
        ·
          have H := iteF (of_decide_eq_false hb) H
          rw [hb] at hF
          clear hb
          refine ls_w hF hW (wanted_y hF rfl rfl rfl rfl) rfl (Nat.le_of_ble_eq_true rfl) ((y_move hF rfl).q) (fun a w hF hW => ?_)
          refine ls_w hF hW (wanted_y hF rfl rfl rfl rfl) rfl (Nat.le_of_ble_eq_true rfl) ((y_move hF rfl).q) (fun a w hF hW => ?_)
          refine ls_g (wanted_y hF rfl rfl rfl rfl) ?_
          obtain ⟨x8, h6, H⟩ := bindE H
          refine ls hF hW rfl (y_call (v := Value.bool x8) hF H7 rfl (fun w hW => L28_moved_c any w (v1) (v2) x2.1 x6.1 _ h6 (((rdc_row 1 rfl) : Rdc _ _ _ _ _ _) w hW).nx (((rdc_row 0 rfl) : Rdc _ _ _ _ _ _) w hW).nx)) (fun a w hF hW => ?_)
          refine ls_w hF hW (wanted_y hF rfl rfl rfl rfl) rfl (Nat.le_of_ble_eq_true rfl) ((y_not hF rfl).q) (fun a w hF hW => ?_)
          refine ls hF hW rfl ((y_pick_f hF rfl rfl rfl).q) (fun a w hF hW => ?_)
          refine ls hF hW rfl ((y_move hF rfl).q) (fun a w hF hW => ?_)
          rcases Bool.eq_false_or_eq_true (!x8) with hb | hb
          ·
            have H := iteT hb H
            rw [hb] at hF
            clear hb
            refine ls_skip hF (wanted_n hF rfl rfl rfl rfl rfl) rfl rfl (fun a hF => ?_)
            refine ls_skip hF (wanted_n hF rfl rfl rfl rfl rfl) rfl rfl (fun a hF => ?_)
            refine ls_skip hF (wanted_n hF rfl rfl rfl rfl rfl) rfl rfl (fun a hF => ?_)
            refine ls hF hW rfl ((y_pick_t hF rfl rfl rfl).q) (fun a w hF hW => ?_)
            refine ls_nil ?_
            refine c_then ?_
            have hW := hW.frontZ (i := 1) rfl rfl
            have hW := hW.sub (M' := []) (Z' := [row v1 30 R30 x2.1]) (List.Sublist.refl _) (List.Sublist.cons_cons _ (List.nil_sublist _))
            exact ⟨_, H, hF.re ⟨rfl, rfl, rfl, rfl, trivial⟩, hW⟩
          ·
            have H := iteF (by rw [hb]; decide) H
            rw [hb] at hF
            clear hb
            refine ls_w hF hW (wanted_y hF rfl rfl rfl rfl) rfl (Nat.le_of_ble_eq_true rfl) ((y_move hF rfl).q) (fun a w hF hW => ?_)
            refine ls_w hF hW (wanted_y hF rfl rfl rfl rfl) rfl (Nat.le_of_ble_eq_true rfl) ((y_len (r := R30) (l := x2.1) Tryd.underlying23 rfl hF rfl (rdc_row 1 rfl)).q) (fun a w hF hW => ?_)
            refine ls_w hF hW (wanted_y hF rfl rfl rfl rfl) rfl (Nat.le_of_ble_eq_true rfl) ((y_eql hF rfl rfl).q) (fun a w hF hW => ?_)
            refine ls hF hW rfl ((y_pick_f hF rfl rfl rfl).q) (fun a w hF hW => ?_)
            refine ls_nil ?_
            refine c_then ?_
            have hW := hW.frontZ (i := 1) rfl rfl
            have hW := hW.sub (M' := []) (Z' := [row v1 30 R30 x2.1]) (List.Sublist.refl _) (List.Sublist.cons_cons _ (List.nil_sublist _))
            exact ⟨_, H, hF.re ⟨rfl, rfl, rfl, rfl, trivial⟩, hW⟩
      rintro a w ⟨x7, hj, hF, hW⟩
      have hj := Option.some.inj hj
      subst hj
      have H := K2
      clear G2 K2
      refine c_cond hF rfl (fun hb => ?_) (fun hb => ?_)
      ·
        have H := iteT hb H
        rw [hb] at hF
        clear hb
        refine c_seq ?_
        refine reg_list ?_
        refine ls hF hW rfl ((y_assign hF rfl).q) (fun a w hF hW => ?_)
        refine ls_nil ?_
        refine c_then ?_
        refine wp_ret ?_
        refine r_then ?_
        have H := Option.some.inj H
        subst H
        refine post1 (.inl rfl) hF hW rfl (rv_tmp hF rfl) ?_
        exact ⟨rfl, hW.done⟩
      ·
        have H := iteF (by rw [hb]; decide) H
        rw [hb] at hF
        clear hb
        refine wp_skip ?_
        refine c_then ?_
        refine c_seq ?_
        refine reg_list ?_
        refine ls hF hW rfl ((y_assign hF rfl).q) (fun a w hF hW => ?_)
        refine ls_nil ?_
        refine c_then ?_
        obtain ⟨o3, G3, K3, L3⟩ := orE H
        refine c_seqJ (fun a w => some (Sum.inl ()) = some o3 ∧ Fr 124 [] [(0, .string (bs p0)), (2, .bool false), (3, v1)] a ∧ Stw ⟨Y, [], w0⟩ [] [row v1 30 R30 x2.1] w) ?_ ?_
        ·
          have H := G3
          clear G3 K3
          refine c_seq ?_
          refine reg_list ?_
          refine ls hF hW rfl ((y_assign hF rfl).q) (fun a w hF hW => ?_)
          refine ls_nil ?_
          refine c_then ?_
          refine wp_block ?_
          refine c_loopW H (fun s a w => Fr 124 [] [(0, .string (bs p0)), (2, .bool false), (3, v1), (9, .int .i64 s.1), (10, .int .i64 s.2)] a ∧ Stw ⟨Y, [], w0⟩ [] [row v1 30 R30 x2.1] w) ⟨hF.re ⟨rfl, rfl, rfl, rfl, rfl, trivial⟩, hW⟩ (fun s o a w H L4 hR => ?_)
          obtain ⟨x9, x10⟩ := s
          obtain ⟨hF, hW⟩ := hR
          have hF : Fr 124 [] [(0, .string (bs p0)), (2, .bool false), (3, v1), (9, .int .i64 x9), (10, .int .i64 x10)] a := hF
          have hW : Stw ⟨Y, [], w0⟩ [] [row v1 30 R30 x2.1] w := hW
          rw [L28_LexBack_l1] at H
          refine c_seq ?_
          refine c_seq ?_
          refine reg_list ?_
          refine ls hF hW rfl ((y_move hF rfl).q) (fun a w hF hW => ?_)
          refine ls hF hW rfl ((y_move hF rfl).q) (fun a w hF hW => ?_)
          refine ls hF hW rfl ((y_len (r := R30) (l := x2.1) Tryd.underlying23 rfl hF rfl (rdc_row 0 rfl)).q) (fun a w hF hW => ?_)
          refine ls hF hW rfl ((y_lss hF rfl rfl).q) (fun a w hF hW => ?_)
          refine ls_nil ?_
          refine c_then ?_
          refine c_cond hF rfl (fun hb => ?_) (fun hb => ?_)
          ·
            have H := iteT (of_decide_eq_true hb) H
            rw [hb] at hF
            clear hb
            refine wp_skip ?_
            refine c_then ?_
            refine c_seq ?_
            refine wp_block ?_
            refine c_seq ?_
            refine reg_list ?_
            refine ls hF hW rfl ((y_move hF rfl).q) (fun a w hF hW => ?_)
            refine ls hF hW rfl ((y_move hF rfl).q) (fun a w hF hW => ?_)
            obtain ⟨x11, h7, H⟩ := bindE H
            refine ls hF hW rfl ((y_index (r := R30) L23 hF rfl rfl (rdc_row 0 rfl) h7).q) (fun a w hF hW => ?_)
            refine ls hF hW rfl ((y_load_el (y := Value.agg #[.int .i64 x11.1, .int .i64 x11.2.1, .string (bs x11.2.2.1), .int .i64 x11.2.2.2]) (j := 0) (i := x10) hF rfl rfl (rdc_row 0 rfl) h7 F30.to T30 rfl).q) (fun a w hF hW => ?_)
            refine l_alloc (cs := [.int .i64 0, .int .i64 0, .string (bs ([] : List UInt8)), .int .i64 0]) hF hW rfl Z30 rfl (fun b1 a w hF hW => ?_)
            refine l_store (vs := [.int .i64 x11.1, .int .i64 x11.2.1, .string (bs x11.2.2.1), .int .i64 x11.2.2.2]) (M' := [(b1, [.int .i64 x11.1, .int .i64 x11.2.1, .string (bs x11.2.2.1), .int .i64 x11.2.2.2])]) 0 hF hW rfl rfl rfl T30 rfl rfl rfl rfl rfl (fun w hW => ?_)
            refine ls_nil ?_
            refine c_then ?_
            refine c_seq ?_
            refine c_seqJ (fun a w => Fr 124 [] [(0, .string (bs p0)), (2, .bool false), (3, v1), (9, .int .i64 x9), (10, .int .i64 x10), (11, .pointer (some ⟨b1, 0, none⟩)), (71, .bool (decide (x11.2.2.2 < x9) || decide ((p0.length : Int) < x11.2.2.2)))] a ∧ Stw ⟨Y, [], w0⟩ [(b1, [.int .i64 x11.1, .int .i64 x11.2.1, .string (bs x11.2.2.1), .int .i64 x11.2.2.2])] [row v1 30 R30 x2.1] w) ?_ ?_
            ·
              refine reg_list ?_
              refine ls hF hW rfl ((y_fieldAddr Tryd.underlying30 rfl rfl rfl T3 hF rfl 3 rfl).q) (fun a w hF hW => ?_)
              refine ls hF hW rfl ((y_load (v := Value.int .i64 x11.2.2.2) 0 hF rfl rfl T3 rfl).q) (fun a w hF hW => ?_)
              refine ls hF hW rfl ((y_move hF rfl).q) (fun a w hF hW => ?_)
              refine ls hF hW rfl ((y_lss hF rfl rfl).q) (fun a w hF hW => ?_)
              refine ls hF hW rfl ((y_move hF rfl).q) (fun a w hF hW => ?_)
              rcases Bool.eq_false_or_eq_true (decide (x11.2.2.2 < x9)) with hb0 | hb0
              ·
                rw [hb0] at hF
                refine ls_skip hF (wanted_n hF rfl rfl rfl rfl rfl) rfl rfl (fun a hF => ?_)
                refine ls_skip hF (wanted_n hF rfl rfl rfl rfl rfl) rfl rfl (fun a hF => ?_)
                refine ls_skip hF (wanted_n hF rfl rfl rfl rfl rfl) rfl rfl (fun a hF => ?_)
                refine ls_skip hF (wanted_n hF rfl rfl rfl rfl rfl) rfl rfl (fun a hF => ?_)
                refine ls_skip hF (wanted_n hF rfl rfl rfl rfl rfl) rfl rfl (fun a hF => ?_)
                refine ls hF hW rfl ((y_pick_t hF rfl rfl rfl).q) (fun a w hF hW => ?_)
                refine ls_nil ?_
                refine c_then ?_
                exact ⟨hF.re ⟨rfl, rfl, rfl, rfl, rfl, rfl, (by show some (Value.bool true) = some (Value.bool (decide (x11.2.2.2 < x9) || decide ((p0.length : Int) < x11.2.2.2))); try rw [hb0]; all_goals simp only [Bool.not_true, Bool.not_false, Bool.true_and, Bool.false_and, Bool.true_or, Bool.false_or, Bool.and_true, Bool.or_false, cond_true, cond_false]), trivial⟩, hW⟩
              ·
                rw [hb0] at hF
                refine ls_w hF hW (wanted_y hF rfl rfl rfl rfl) rfl (Nat.le_of_ble_eq_true rfl) ((y_fieldAddr Tryd.underlying30 rfl rfl rfl T3 hF rfl 3 rfl).q) (fun a w hF hW => ?_)
                refine ls_w hF hW (wanted_y hF rfl rfl rfl rfl) rfl (Nat.le_of_ble_eq_true rfl) ((y_load (v := Value.int .i64 x11.2.2.2) 0 hF rfl rfl T3 rfl).q) (fun a w hF hW => ?_)
                refine ls_w hF hW (wanted_y hF rfl rfl rfl rfl) rfl (Nat.le_of_ble_eq_true rfl) ((y_move hF rfl).q) (fun a w hF hW => ?_)
                refine ls_w hF hW (wanted_y hF rfl rfl rfl rfl) rfl (Nat.le_of_ble_eq_true rfl) ((y_slen (l := p0) Tryd.underlying9 rfl hF rfl).q) (fun a w hF hW => ?_)
                refine ls_w hF hW (wanted_y hF rfl rfl rfl rfl) rfl (Nat.le_of_ble_eq_true rfl) ((y_gtr hF rfl rfl).q) (fun a w hF hW => ?_)
                refine ls hF hW rfl ((y_pick_f hF rfl rfl rfl).q) (fun a w hF hW => ?_)
                refine ls_nil ?_
                refine c_then ?_
                exact ⟨hF.re ⟨rfl, rfl, rfl, rfl, rfl, rfl, (by show some (Value.bool (decide ((p0.length : Int) < x11.2.2.2))) = some (Value.bool (decide (x11.2.2.2 < x9) || decide ((p0.length : Int) < x11.2.2.2))); try rw [hb0]; all_goals simp only [Bool.not_true, Bool.not_false, Bool.true_and, Bool.false_and, Bool.true_or, Bool.false_or, Bool.and_true, Bool.or_false, cond_true, cond_false]), trivial⟩, hW⟩
            rintro a w ⟨hF, hW⟩
            refine c_cond hF rfl (fun hb => ?_) (fun hb => ?_)
            ·
              have H := iteT hb H
              rw [hb] at hF
              clear hb
              refine c_seq ?_
              refine reg_list ?_
              refine ls hF hW rfl ((y_assign hF rfl).q) (fun a w hF hW => ?_)
              refine ls_nil ?_
              refine c_then ?_
              refine wp_ret ?_
              refine r_then ?_
              refine r_block ?_
              refine r_then ?_
              refine r_then ?_
              refine r_block ?_
              refine r_then ?_
              have H := L4 _ H
              have H := L3 _ H
              have H := Option.some.inj H
              subst H
              refine post1 (.inl rfl) hF hW rfl (rv_tmp hF rfl) ?_
              exact ⟨rfl, hW.done⟩
            ·
              have H := iteF (by rw [hb]; decide) H
              rw [hb] at hF
              clear hb
              refine wp_skip ?_
              refine c_then ?_
              refine c_seq ?_
              refine reg_list ?_
              refine ls hF hW rfl ((y_load (v := Value.agg #[.int .i64 x11.1, .int .i64 x11.2.1, .string (bs x11.2.2.1), .int .i64 x11.2.2.2]) 0 hF rfl rfl T30 rfl).q) (fun a w hF hW => ?_)
              refine l_lit (z := Value.agg #[.int .i64 0, .int .i64 0, .string (bs ([] : List UInt8)), .int .i64 0]) (cs := [.int .i64 x11.1, .int .i64 x11.2.1, .string (bs x11.2.2.1), .int .i64 x11.2.2.2]) R30 ([x11] : List (Int × Int × List UInt8 × Int)) hF hW rfl L23 Z30 rfl rfl rfl rfl rfl rfl (F30.repL _ _ ([x11] : List (Int × Int × List UInt8 × Int))) (fun v3 a w hF hW => ?_)
              obtain ⟨x12, h8, H⟩ := bindE H
              refine ls hF hW rfl (y_call (v := Value.string (bs x12)) hF H6 rfl (fun w hW => lex_Text_c any w (v3) ([x11] : List (Int × Int × List UInt8 × Int)) _ h8 (((rdc_row 0 rfl) : Rdc _ _ _ _ _ _) w hW).nx (hG.go0 hW))) (fun a w hF hW => ?_)
              refine ls hF hW rfl ((y_assign hF rfl).q) (fun a w hF hW => ?_)
              refine ls_nil ?_
              refine c_then ?_
              refine c_seq ?_
              obtain ⟨o5, G5, K5⟩ := bindE H
              refine c_seqJ (fun a w => ∃ x13 : Bool, some (x13) = some o5 ∧ Fr 124 [] [(0, .string (bs p0)), (2, .bool false), (3, v1), (9, .int .i64 x9), (10, .int .i64 x10), (11, .pointer (some ⟨b1, 0, none⟩)), (12, .string (bs x12)), (95, .bool x13)] a ∧ Stw ⟨Y, [], w0⟩ [(b1, [.int .i64 x11.1, .int .i64 x11.2.1, .string (bs x11.2.2.1), .int .i64 x11.2.2.2])] [row v1 30 R30 x2.1] w) ?_ ?_
              ·
                have H := G5
                clear G5 K5
                refine reg_list ?_
                refine ls hF hW rfl ((y_move hF rfl).q) (fun a w hF hW => ?_)
                refine ls hF hW rfl ((y_slen (l := x12) Tryd.underlying9 rfl hF rfl).q) (fun a w hF hW => ?_)
                refine ls hF hW rfl ((y_move hF rfl).q) (fun a w hF hW => ?_)
                refine ls hF hW rfl ((y_slen (l := p0) Tryd.underlying9 rfl hF rfl).q) (fun a w hF hW => ?_)
                refine ls hF hW rfl ((y_fieldAddr Tryd.underlying30 rfl rfl rfl T3 hF rfl 3 rfl).q) (fun a w hF hW => ?_)
                refine ls hF hW rfl ((y_load (v := Value.int .i64 x11.2.2.2) 0 hF rfl rfl T3 rfl).q) (fun a w hF hW => ?_)
                refine ls hF hW rfl ((y_sub hF rfl rfl rfl).q) (fun a w hF hW => ?_)
                refine ls hF hW rfl ((y_gtr hF rfl rfl).q) (fun a w hF hW => ?_)
                refine ls hF hW rfl ((y_move hF rfl).q) (fun a w hF hW => ?_)
                rcases Bool.eq_false_or_eq_true (decide ((w64 ((p0.length : Int) - x11.2.2.2)) < (x12.length : Int))) with hb | hb
                ·
                  have H := iteT (of_decide_eq_true hb) H
                  rw [hb] at hF
                  clear hb
                  refine ls_skip hF (wanted_n hF rfl rfl rfl rfl rfl) rfl rfl (fun a hF => ?_)
                  refine ls_skip hF (wanted_n hF rfl rfl rfl rfl rfl) rfl rfl (fun a hF => ?_)
                  refine ls_skip hF (wanted_n hF rfl rfl rfl rfl rfl) rfl rfl (fun a hF => ?_)
                  refine ls_skip hF (wanted_n hF rfl rfl rfl rfl rfl) rfl rfl (fun a hF => ?_)
                  refine ls_skip hF (wanted_n hF rfl rfl rfl rfl rfl) rfl rfl (fun a hF => ?_)
                  refine ls_skip hF (wanted_n hF rfl rfl rfl rfl rfl) rfl rfl (fun a hF => ?_)
                  refine ls_skip hF (wanted_n hF rfl rfl rfl rfl rfl) rfl rfl (fun a hF => ?_)
                  refine ls_skip hF (wanted_n hF rfl rfl rfl rfl rfl) rfl rfl (fun a hF => ?_)
                  refine ls_skip hF (wanted_n hF rfl rfl rfl rfl rfl) rfl rfl (fun a hF => ?_)
                  refine ls_skip hF (wanted_n hF rfl rfl rfl rfl rfl) rfl rfl (fun a hF => ?_)
                  refine ls_skip hF (wanted_n hF rfl rfl rfl rfl rfl) rfl rfl (fun a hF => ?_)
                  refine ls hF hW rfl ((y_pick_t hF rfl rfl rfl).q) (fun a w hF hW => ?_)
                  refine ls_nil ?_
                  refine c_then ?_
                  have hW := hW.frontZ (i := 1) rfl rfl
                  have hW := hW.sub (M' := [(b1, [.int .i64 x11.1, .int .i64 x11.2.1, .string (bs x11.2.2.1), .int .i64 x11.2.2.2])]) (Z' := [row v1 30 R30 x2.1]) (List.Sublist.refl _) (List.Sublist.cons_cons _ (List.nil_sublist _))
                  exact ⟨_, H, hF.re ⟨rfl, rfl, rfl, rfl, rfl, rfl, rfl, rfl, trivial⟩, hW⟩
                ·
                  have H := iteF (of_decide_eq_false hb) H
                  rw [hb] at hF
                  clear hb
                  refine ls_w hF hW (wanted_y hF rfl rfl rfl rfl) rfl (Nat.le_of_ble_eq_true rfl) ((y_move hF rfl).q) (fun a w hF hW => ?_)
                  refine ls_w hF hW (wanted_y hF rfl rfl rfl rfl) rfl (Nat.le_of_ble_eq_true rfl) ((y_fieldAddr Tryd.underlying30 rfl rfl rfl T3 hF rfl 3 rfl).q) (fun a w hF hW => ?_)
                  refine ls_w hF hW (wanted_y hF rfl rfl rfl rfl) rfl (Nat.le_of_ble_eq_true rfl) ((y_load (v := Value.int .i64 x11.2.2.2) 0 hF rfl rfl T3 rfl).q) (fun a w hF hW => ?_)
                  refine ls_w hF hW (wanted_y hF rfl rfl rfl rfl) rfl (Nat.le_of_ble_eq_true rfl) ((y_fieldAddr Tryd.underlying30 rfl rfl rfl T3 hF rfl 3 rfl).q) (fun a w hF hW => ?_)
                  refine ls_w hF hW (wanted_y hF rfl rfl rfl rfl) rfl (Nat.le_of_ble_eq_true rfl) ((y_load (v := Value.int .i64 x11.2.2.2) 0 hF rfl rfl T3 rfl).q) (fun a w hF hW => ?_)
                  refine ls_w hF hW (wanted_y hF rfl rfl rfl rfl) rfl (Nat.le_of_ble_eq_true rfl) ((y_move hF rfl).q) (fun a w hF hW => ?_)
                  refine ls_w hF hW (wanted_y hF rfl rfl rfl rfl) rfl (Nat.le_of_ble_eq_true rfl) ((y_slen (l := x12) Tryd.underlying9 rfl hF rfl).q) (fun a w hF hW => ?_)
                  refine ls_w hF hW (wanted_y hF rfl rfl rfl rfl) rfl (Nat.le_of_ble_eq_true rfl) ((y_add hF rfl rfl rfl).q) (fun a w hF hW => ?_)
                  obtain ⟨x14, h9, H⟩ := bindE H
                  refine ls_w hF hW (wanted_y hF rfl rfl rfl rfl) rfl (Nat.le_of_ble_eq_true rfl) ((y_sslice (l := p0) Tryd.underlying9 hF rfl rfl rfl h9).q) (fun a w hF hW => ?_)
                  refine ls_w hF hW (wanted_y hF rfl rfl rfl rfl) rfl (Nat.le_of_ble_eq_true rfl) ((y_move hF rfl).q) (fun a w hF hW => ?_)
                  refine ls_w hF hW (wanted_y hF rfl rfl rfl rfl) rfl (Nat.le_of_ble_eq_true rfl) ((y_sne (l := x14) (m := x12) hF rfl rfl).q) (fun a w hF hW => ?_)
                  refine ls hF hW rfl ((y_pick_f hF rfl rfl rfl).q) (fun a w hF hW => ?_)
                  refine ls_nil ?_
                  refine c_then ?_
                  have hW := hW.frontZ (i := 1) rfl rfl
                  have hW := hW.sub (M' := [(b1, [.int .i64 x11.1, .int .i64 x11.2.1, .string (bs x11.2.2.1), .int .i64 x11.2.2.2])]) (Z' := [row v1 30 R30 x2.1]) (List.Sublist.refl _) (List.Sublist.cons_cons _ (List.nil_sublist _))
                  exact ⟨_, H, hF.re ⟨rfl, rfl, rfl, rfl, rfl, rfl, rfl, rfl, trivial⟩, hW⟩
              rintro a w ⟨x13, hj, hF, hW⟩
              have hj := Option.some.inj hj
              subst hj
              have H := K5
              clear G5 K5
              refine c_cond hF rfl (fun hb => ?_) (fun hb => ?_)
              ·
                have H := iteT hb H
                rw [hb] at hF
                clear hb
                refine c_seq ?_
                refine reg_list ?_
                refine ls hF hW rfl ((y_assign hF rfl).q) (fun a w hF hW => ?_)
                refine ls_nil ?_
                refine c_then ?_
                refine wp_ret ?_
                refine r_then ?_
                refine r_block ?_
                refine r_then ?_
                refine r_then ?_
                refine r_block ?_
                refine r_then ?_
                have H := L4 _ H
                have H := L3 _ H
                have H := Option.some.inj H
                subst H
                refine post1 (.inl rfl) hF hW rfl (rv_tmp hF rfl) ?_
                exact ⟨rfl, hW.done⟩
              ·
                have H := iteF (by rw [hb]; decide) H
                rw [hb] at hF
                clear hb
                refine wp_skip ?_
                refine c_then ?_
                refine reg_list ?_
                refine ls hF hW rfl ((y_fieldAddr Tryd.underlying30 rfl rfl rfl T3 hF rfl 3 rfl).q) (fun a w hF hW => ?_)
                refine ls hF hW rfl ((y_load (v := Value.int .i64 x11.2.2.2) 0 hF rfl rfl T3 rfl).q) (fun a w hF hW => ?_)
                refine ls hF hW rfl ((y_move hF rfl).q) (fun a w hF hW => ?_)
                refine ls hF hW rfl ((y_slen (l := x12) Tryd.underlying9 rfl hF rfl).q) (fun a w hF hW => ?_)
                refine ls hF hW rfl ((y_add hF rfl rfl rfl).q) (fun a w hF hW => ?_)
                refine ls hF hW rfl ((y_assign hF rfl).q) (fun a w hF hW => ?_)
                refine ls_nil ?_
                refine b_normal ?_
                refine c_then ?_
                refine reg_list ?_
                refine ls hF hW rfl ((y_move hF rfl).q) (fun a w hF hW => ?_)
                refine ls hF hW rfl ((y_add hF rfl rfl rfl).q) (fun a w hF hW => ?_)
                refine ls hF hW rfl ((y_assign hF rfl).q) (fun a w hF hW => ?_)
                refine ls_nil ?_
                refine c_then ?_
                have hW := hW.sub (M' := []) (Z' := [row v1 30 R30 x2.1]) (List.nil_sublist _) (List.Sublist.refl _)
                exact ⟨_, H, hF.re ⟨rfl, rfl, rfl, rfl, rfl, trivial⟩, hW⟩
          ·
            have H := iteF (of_decide_eq_false hb) H
            rw [hb] at hF
            clear hb
            refine wp_exit ?_
            refine e_then ?_
            refine e_then ?_
            refine e_block ?_
            refine c_then ?_
            have H := L4 _ H
            exact ⟨H, hF.re ⟨rfl, rfl, rfl, trivial⟩, hW⟩
        rintro a w ⟨hj, hF, hW⟩
        have H := K3 _ hj
        clear hj G3 K3 L3
        obtain ⟨o6, G6, K6⟩ := bindE H
        refine c_seqJ (fun a w => ∃ x15 : Bool, some (x15) = some o6 ∧ Fr 124 [] [(2, .bool x15)] a ∧ Stw ⟨Y, [], w0⟩ [] [] w) ?_ ?_
        ·
          have H := G6
          clear G6 K6
          refine reg_list ?_
          refine ls hF hW rfl ((y_move hF rfl).q) (fun a w hF hW => ?_)
          refine ls hF hW rfl ((y_move hF rfl).q) (fun a w hF hW => ?_)
          refine ls hF hW rfl ((y_len (r := R30) (l := x2.1) Tryd.underlying23 rfl hF rfl (rdc_row 0 rfl)).q) (fun a w hF hW => ?_)
          refine ls hF hW rfl ((y_sub hF rfl rfl rfl).q) (fun a w hF hW => ?_)
          obtain ⟨x16, h10, H⟩ := bindE H
          refine ls hF hW rfl ((y_index (r := R30) L23 hF rfl rfl (rdc_row 0 rfl) h10).q) (fun a w hF hW => ?_)
          refine ls hF hW rfl ((y_fieldAddr Tryd.underlying30 rfl rfl rfl T3 hF rfl (voff v1 + (w64 ((x2.1.length : Int) - 1)).toNat * 4) rfl).q) (fun a w hF hW => ?_)
          refine ls hF hW rfl ((y_load_el (y := Value.int .i64 x16.1) (j := 0) (i := w64 ((x2.1.length : Int) - 1)) hF rfl rfl (rdc_row 0 rfl) h10 F30.to T3 rfl).q) (fun a w hF hW => ?_)
          refine ls hF hW rfl ((y_eql hF rfl rfl).q) (fun a w hF hW => ?_)
          refine ls hF hW rfl ((y_move hF rfl).q) (fun a w hF hW => ?_)
          rcases Bool.eq_false_or_eq_true (decide (x16.1 = 4)) with hb | hb
          ·
            have H := iteT (of_decide_eq_true hb) H
            rw [hb] at hF
            clear hb
            refine ls_w hF hW (wanted_y hF rfl rfl rfl rfl) rfl (Nat.le_of_ble_eq_true rfl) ((y_move hF rfl).q) (fun a w hF hW => ?_)
            refine ls_w hF hW (wanted_y hF rfl rfl rfl rfl) rfl (Nat.le_of_ble_eq_true rfl) ((y_move hF rfl).q) (fun a w hF hW => ?_)
            refine ls_w hF hW (wanted_y hF rfl rfl rfl rfl) rfl (Nat.le_of_ble_eq_true rfl) ((y_len (r := R30) (l := x2.1) Tryd.underlying23 rfl hF rfl (rdc_row 0 rfl)).q) (fun a w hF hW => ?_)
            refine ls_w hF hW (wanted_y hF rfl rfl rfl rfl) rfl (Nat.le_of_ble_eq_true rfl) ((y_sub hF rfl rfl rfl).q) (fun a w hF hW => ?_)
            obtain ⟨x17, h11, H⟩ := bindE H
            refine ls_w hF hW (wanted_y hF rfl rfl rfl rfl) rfl (Nat.le_of_ble_eq_true rfl) ((y_index (r := R30) L23 hF rfl rfl (rdc_row 0 rfl) h11).q) (fun a w hF hW => ?_)
            refine ls_w hF hW (wanted_y hF rfl rfl rfl rfl) rfl (Nat.le_of_ble_eq_true rfl) ((y_fieldAddr Tryd.underlying30 rfl rfl rfl T3 hF rfl (voff v1 + (w64 ((x2.1.length : Int) - 1)).toNat * 4 + 3) rfl).q) (fun a w hF hW => ?_)
            refine ls_w hF hW (wanted_y hF rfl rfl rfl rfl) rfl (Nat.le_of_ble_eq_true rfl) ((y_load_el (y := Value.int .i64 x17.2.2.2) (j := 3) (i := w64 ((x2.1.length : Int) - 1)) hF rfl rfl (rdc_row 0 rfl) h11 F30.to T3 rfl).q) (fun a w hF hW => ?_)
            refine ls_w hF hW (wanted_y hF rfl rfl rfl rfl) rfl (Nat.le_of_ble_eq_true rfl) ((y_move hF rfl).q) (fun a w hF hW => ?_)
            refine ls_w hF hW (wanted_y hF rfl rfl rfl rfl) rfl (Nat.le_of_ble_eq_true rfl) ((y_slen (l := p0) Tryd.underlying9 rfl hF rfl).q) (fun a w hF hW => ?_)
            refine ls_w hF hW (wanted_y hF rfl rfl rfl rfl) rfl (Nat.le_of_ble_eq_true rfl) ((y_eql hF rfl rfl).q) (fun a w hF hW => ?_)
            refine ls hF hW rfl ((y_pick_t hF rfl rfl rfl).q) (fun a w hF hW => ?_)
            refine ls hF hW rfl ((y_move hF rfl).q) (fun a w hF hW => ?_)
            rcases Bool.eq_false_or_eq_true (decide (x17.2.2.2 = (p0.length : Int))) with hb | hb
            ·
              have H := iteT (of_decide_eq_true hb) H
              rw [hb] at hF
              clear hb
              refine ls_g (wanted_y hF rfl rfl rfl rfl) ?_
              obtain ⟨x18, h12, H⟩ := bindE H
              refine ls hF hW rfl (y_call (v := Value.bool x18) hF H4 rfl (fun w hW => L28_awake_c any w _ h12)) (fun a w hF hW => ?_)
              refine ls hF hW rfl ((y_pick_t hF rfl rfl rfl).q) (fun a w hF hW => ?_)
              refine ls hF hW rfl ((y_assign hF rfl).q) (fun a w hF hW => ?_)
              refine ls_nil ?_
              refine c_then ?_
              have hW := hW.sub (M' := []) (Z' := []) (List.Sublist.refl _) (List.nil_sublist _)
              exact ⟨_, H, hF.re ⟨rfl, trivial⟩, hW⟩
            ·
              have H := iteF (of_decide_eq_false hb) H
              rw [hb] at hF
              clear hb
              refine ls_skip hF (wanted_n hF rfl rfl rfl rfl rfl) rfl rfl (fun a hF => ?_)
              refine ls hF hW rfl ((y_pick_f hF rfl rfl rfl).q) (fun a w hF hW => ?_)
              refine ls hF hW rfl ((y_assign hF rfl).q) (fun a w hF hW => ?_)
              refine ls_nil ?_
              refine c_then ?_
              have hW := hW.sub (M' := []) (Z' := []) (List.Sublist.refl _) (List.nil_sublist _)
              exact ⟨_, H, hF.re ⟨rfl, trivial⟩, hW⟩
          ·
            have H := iteF (of_decide_eq_false hb) H
            rw [hb] at hF
            clear hb
            refine ls_skip hF (wanted_n hF rfl rfl rfl rfl rfl) rfl rfl (fun a hF => ?_)
            refine ls_skip hF (wanted_n hF rfl rfl rfl rfl rfl) rfl rfl (fun a hF => ?_)
            refine ls_skip hF (wanted_n hF rfl rfl rfl rfl rfl) rfl rfl (fun a hF => ?_)
            refine ls_skip hF (wanted_n hF rfl rfl rfl rfl rfl) rfl rfl (fun a hF => ?_)
            refine ls_skip hF (wanted_n hF rfl rfl rfl rfl rfl) rfl rfl (fun a hF => ?_)
            refine ls_skip hF (wanted_n hF rfl rfl rfl rfl rfl) rfl rfl (fun a hF => ?_)
            refine ls_skip hF (wanted_n hF rfl rfl rfl rfl rfl) rfl rfl (fun a hF => ?_)
            refine ls_skip hF (wanted_n hF rfl rfl rfl rfl rfl) rfl rfl (fun a hF => ?_)
            refine ls_skip hF (wanted_n hF rfl rfl rfl rfl rfl) rfl rfl (fun a hF => ?_)
            refine ls_skip hF (wanted_n hF rfl rfl rfl rfl rfl) rfl rfl (fun a hF => ?_)
            refine ls hF hW rfl ((y_pick_f hF rfl rfl rfl).q) (fun a w hF hW => ?_)
            refine ls hF hW rfl ((y_move hF rfl).q) (fun a w hF hW => ?_)
            refine ls_skip hF (wanted_n hF rfl rfl rfl rfl rfl) rfl rfl (fun a hF => ?_)
            refine ls hF hW rfl ((y_pick_f hF rfl rfl rfl).q) (fun a w hF hW => ?_)
            refine ls hF hW rfl ((y_assign hF rfl).q) (fun a w hF hW => ?_)
            refine ls_nil ?_
            refine c_then ?_
            have hW := hW.sub (M' := []) (Z' := []) (List.Sublist.refl _) (List.nil_sublist _)
            exact ⟨_, H, hF.re ⟨rfl, trivial⟩, hW⟩
        rintro a w ⟨x15, hj, hF, hW⟩
        have hj := Option.some.inj hj
        subst hj
        have H := K6
        clear G6 K6
        refine wp_ret ?_
        have H := Option.some.inj H
        subst H
        refine post1 (.inl rfl) hF hW rfl (rv_tmp hF rfl) ?_
        exact ⟨rfl, hW.done⟩

end Go.Proofs.YtimfbofhleigiaaDoor
