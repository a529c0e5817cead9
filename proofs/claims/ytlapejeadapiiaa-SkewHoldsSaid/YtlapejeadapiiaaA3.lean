/- The functions of layer 15, lifted. Conditions: none. -/
import Derived.Test.YtlapejeadapiiaaA2
namespace Go.Proofs.Ytlapejeadapiiaa
open Go Go.RowKit
set_option linter.unusedVariables false
set_option linter.unusedSimpArgs false
set_option maxRecDepth 20000
theorem H25 : Has Try.prog 25 := ⟨fun args w => run_callFunc_body Try.func25 rfl (by decide) args w⟩
noncomputable def L15_played_l1 (p1 : Int) (p2 : List (Int × Int × Int)) : (Int × Bool × Int × Int × Int × Int × Int × (List (Int × Int × Int))) → Option ((Int × Bool × Int × Int × Int × Int × Int × (List (Int × Int × Int))) ⊕ ((Bool × Int × Int × Int × Int × Int × (List (Int × Int × Int))) ⊕ (((Int × Int × (List (Int × Int × Int))) × (Bool × (Int × Int) × Int) × Bool) ⊕ Unit)))
  | (x11, x12, x13, x14, x15, x16, x17, x18) => (if (decide (x11 < (p2.length : Int)) && decide (x11 < 30)) = true then orR ((ix p2 x11).bind fun x26 => (if x26.1 = 0 then some true else some (decide (x26.1 = 1))).bind fun x27 => (if x27 = true then (ix p2 x11).bind fun x28 => (clock_Clocks_Tick (x16, x17, x18) x28.2.1).bind fun x29 => some (.inl (x12, x13, x14, x15, x29.1, x29.2.1, x29.2.2)) else (if x26.1 = 2 then (ix p2 x11).bind fun x30 => (clock_Clocks_Rate (x16, x17, x18) 0 x30.2.1).bind fun x31 => some (.inl (x12, x13, x14, x15, x31.2.1, x31.2.2.1, x31.2.2.2)) else (if x26.1 = 3 then some true else some (decide (x26.1 = 4))).bind fun x32 => (if x32 = true then (ix p2 x11).bind fun x33 => (clock_Clocks_Tick (x16, x17, x18) x33.2.1).bind fun x34 => (clock_Clocks_Read x34 0).bind fun x35 => (ix p2 x11).bind fun x36 => (clock_Clocks_Tick x34 x36.2.2).bind fun x37 => (skew_Meet (x12, (x13, x14), x15) (clock_Clocks_Real (x16, x17, x18)) x35 (clock_Clocks_Real x37) p1).bind fun x38 => (if x38.2 ≠ 0 then some (.inr (.inr (.inr (.inl (x37, x38.1, false))))) else some (.inl (x38.1.1, x38.1.2.1.1, x38.1.2.1.2, x38.1.2.2, x37.1, x37.2.1, x37.2.2))) else some (.inl (x12, x13, x14, x15, x16, x17, x18)))))) fun (x19, x20, x21, x22, x23, x24, x25) => some (.inl (w64 (x11 + 1), x19, x20, x21, x22, x23, x24, x25)) else some (.inr (.inl (x12, x13, x14, x15, x16, x17, x18))))
noncomputable def L15_played (p0 : Int) (p1 : Int) (p2 : List (Int × Int × Int)) : Option (((Int × Int × (List (Int × Int × Int))) × (Bool × (Int × Int) × Int) × Bool) ⊕ Unit) := (clock_New ([p0] : List Int) p1).bind fun x1 => altS x1 (fun x2 => orR (loopW (L15_played_l1 p1 p2) (0, false, 0, 0, 0, x2.1, x2.2.1, x2.2.2)) fun (x4, x5, x6, x7, x8, x9, x10) => some (.inl ((x8, x9, x10), (x4, (x5, x6), x7), true))) (fun x3 => some (.inr ()))
theorem L15_played_c (Y : Nat → Prop) (w0 : World) (v1 : Value) (p0 : Int) (p1 : Int) (p2 : List (Int × Int × Int)) (r : ((Int × Int × (List (Int × Int × Int))) × (Bool × (Int × Int) × Int) × Bool) ⊕ Unit) (H : L15_played p0 p1 p2 = some r) (h_v1 : Sl w0 (NX []) R73 v1 p2) :
    Calls Try.prog 20 #[.int .i64 p0, .int .i64 p1, v1] w0 fun e w' => altP r (fun r => ∃ x : Nat × Value, e = .returned (.tuple #[.pointer (some ⟨x.1, 0, none⟩), .agg #[.bool r.2.1.1, .int .i64 r.2.1.2.1.1, .int .i64 r.2.1.2.1.2, .int .i64 r.2.1.2.2], .bool r.2.2]) ∧ Stw ⟨Y, [], w0⟩ [(x.1, [.int .i64 r.1.1, .int .i64 r.1.2.1, x.2])] [row (x.2) 80 R80 r.1.2.2] w') (fun r => ∃ x : Unit, e = .returned (.tuple #[.pointer none, .agg #[.bool false, .int .i64 0, .int .i64 0, .int .i64 0], .bool true]) ∧ Stw ⟨Y, [], w0⟩ [] [] w') := by
  refine enter Try.func20 rfl Try.ntmps20 rfl (fun a hF => ?_)
  have hW := Stw.start Y w0
  unfold L15_played at H
  refine c_seq ?_
  refine reg_list ?_
  refine ls hF hW rfl ((y_assign hF rfl).q) (fun a w hF hW => ?_)
  refine l_alloc (cs := [.bool false, .int .i64 0, .int .i64 0, .int .i64 0]) hF hW rfl Z30 rfl (fun b1 a w hF hW => ?_)
  refine ls hF hW rfl ((y_assign hF rfl).q) (fun a w hF hW => ?_)
  refine ls_nil ?_
  refine c_then ?_
  refine c_seq ?_
  refine reg_list ?_
  refine ls hF hW rfl ((y_move hF rfl).q) (fun a w hF hW => ?_)
  refine l_lit (z := Value.int .i64 0) (cs := [.int .i64 p0]) (Rp.int .i64) ([p0] : List Int) hF hW rfl L26 Z3 rfl rfl rfl rfl rfl rfl (Fl.int.repL _ _ ([p0] : List Int)) (fun v2 a w hF hW => ?_)
  refine ls hF hW rfl ((y_move hF rfl).q) (fun a w hF hW => ?_)
  obtain ⟨x1, h1, H⟩ := bindE H
  rcases x1 with x2 | x3
  ·
    have H := altL H
    refine l_callG (Ml := []) (Zl := []) (M := [(b1, [.bool false, .int .i64 0, .int .i64 0, .int .i64 0])]) (Z := [row v2 3 (Rp.int .i64) ([p0] : List Int)]) (β := Nat × Value) (rv := fun x => .tuple #[.pointer (some ⟨x.1, 0, none⟩), .int .i64 0]) (MM := fun x => [(x.1, [.int .i64 x2.1, .int .i64 x2.2.1, x.2])]) (ZZ := fun x => [row x.2 80 R80 x2.2.2]) hF hW H42 rfl rfl (fun hL => clock_New_c _ w (v2) ([p0] : List Int) p1 _ h1 ((rdc_row 0 rfl) w hW).nx) (fun x a w hF hW => ?_)
    obtain ⟨b2, v3⟩ := x
    have hW : Stw ⟨Y, [], w0⟩ [(b2, [.int .i64 x2.1, .int .i64 x2.2.1, v3]), (b1, [.bool false, .int .i64 0, .int .i64 0, .int .i64 0])] [row v3 80 R80 x2.2.2, row v2 3 (Rp.int .i64) ([p0] : List Int)] w := hW
    refine ls hF hW rfl ((y_move hF rfl).q) (fun a w hF hW => ?_)
    refine ls hF hW rfl ((y_extract (v := Value.pointer (some ⟨b2, 0, none⟩)) hF rfl rfl).q) (fun a w hF hW => ?_)
    refine ls hF hW rfl ((y_extract (v := Value.int .i64 0) hF rfl rfl).q) (fun a w hF hW => ?_)
    refine ls hF hW rfl ((y_assign hF rfl).q) (fun a w hF hW => ?_)
    refine ls hF hW rfl ((y_assign hF rfl).q) (fun a w hF hW => ?_)
    refine ls_nil ?_
    refine c_then ?_
    refine c_seq ?_
    refine c_seq ?_
    refine reg_list ?_
    refine ls hF hW rfl ((y_move hF rfl).q) (fun a w hF hW => ?_)
    refine ls hF hW rfl ((y_neq hF rfl rfl).q) (fun a w hF hW => ?_)
    rw [show decide ((0 : Int) ≠ 0) = false from by decide] at hF
    refine ls_nil ?_
    refine c_then ?_
    refine c_cond_f hF rfl ?_
    refine wp_skip ?_
    refine c_then ?_
    refine c_seq ?_
    refine reg_list ?_
    refine l_alloc (cs := [.bool false, .int .i64 0, .int .i64 0, .int .i64 0]) hF hW rfl Z30 rfl (fun b3 a w hF hW => ?_)
    refine ls_nil ?_
    refine c_then ?_
    obtain ⟨o1, G1, K1, L1⟩ := orE H
    refine c_seqJ (fun a w => ∃ x4 : Bool, ∃ x5 : Int, ∃ x6 : Int, ∃ x7 : Int, ∃ x8 : Int, ∃ x9 : Int, ∃ x10 : List (Int × Int × Int), ∃ v4 : Value, some (Sum.inl (x4, x5, x6, x7, x8, x9, x10)) = some o1 ∧ Fr 97 [] [(6, .pointer none), (7, .pointer (some ⟨b1, 0, none⟩)), (8, .bool false), (9, .pointer (some ⟨b2, 0, none⟩)), (11, .pointer (some ⟨b3, 0, none⟩))] a ∧ Stw ⟨Y, [], w0⟩ [(b3, [.bool x4, .int .i64 x5, .int .i64 x6, .int .i64 x7]), (b2, [.int .i64 x8, .int .i64 x9, v4]), (b1, [.bool false, .int .i64 0, .int .i64 0, .int .i64 0])] [row v4 80 R80 x10] w) ?_ ?_
    ·
      have H := G1
      clear G1 K1
      refine c_seq ?_
      refine reg_list ?_
      refine ls hF hW rfl ((y_assign hF rfl).q) (fun a w hF hW => ?_)
      refine ls_nil ?_
      refine c_then ?_
      refine wp_block ?_
      have hW := hW.frontM (i := 2) rfl rfl
      have hW := hW.frontM (i := 2) rfl rfl
      have hW := hW.frontM (i := 2) rfl rfl
      have hW := hW.sub (M' := [(b3, [.bool false, .int .i64 0, .int .i64 0, .int .i64 0]), (b2, [.int .i64 x2.1, .int .i64 x2.2.1, v3]), (b1, [.bool false, .int .i64 0, .int .i64 0, .int .i64 0])]) (Z' := [row v3 80 R80 x2.2.2]) (List.Sublist.refl _) (List.Sublist.cons_cons _ (List.nil_sublist _))
      refine c_loopW H (fun s a w => ∃ v5 : Value, Fr 97 [] [(1, .int .i64 p1), (2, v1), (6, .pointer none), (7, .pointer (some ⟨b1, 0, none⟩)), (8, .bool false), (9, .pointer (some ⟨b2, 0, none⟩)), (11, .pointer (some ⟨b3, 0, none⟩)), (12, .int .i64 s.1)] a ∧ Stw ⟨Y, [], w0⟩ [(b3, [.bool s.2.1, .int .i64 s.2.2.1, .int .i64 s.2.2.2.1, .int .i64 s.2.2.2.2.1]), (b2, [.int .i64 s.2.2.2.2.2.1, .int .i64 s.2.2.2.2.2.2.1, v5]), (b1, [.bool false, .int .i64 0, .int .i64 0, .int .i64 0])] [row v5 80 R80 s.2.2.2.2.2.2.2] w) ⟨(v3), hF.re ⟨rfl, rfl, rfl, rfl, rfl, rfl, rfl, rfl, trivial⟩, hW⟩ (fun s o a w H L2 hR => ?_)
      obtain ⟨x11, x12, x13, x14, x15, x16, x17, x18⟩ := s
      obtain ⟨v5, hF, hW⟩ := hR
      have hF : Fr 97 [] [(1, .int .i64 p1), (2, v1), (6, .pointer none), (7, .pointer (some ⟨b1, 0, none⟩)), (8, .bool false), (9, .pointer (some ⟨b2, 0, none⟩)), (11, .pointer (some ⟨b3, 0, none⟩)), (12, .int .i64 x11)] a := hF
      have hW : Stw ⟨Y, [], w0⟩ [(b3, [.bool x12, .int .i64 x13, .int .i64 x14, .int .i64 x15]), (b2, [.int .i64 x16, .int .i64 x17, v5]), (b1, [.bool false, .int .i64 0, .int .i64 0, .int .i64 0])] [row v5 80 R80 x18] w := hW
      rw [L15_played_l1] at H
      refine c_seq ?_
      refine c_seqJ (fun a w => Fr 97 [] [(1, .int .i64 p1), (2, v1), (6, .pointer none), (7, .pointer (some ⟨b1, 0, none⟩)), (8, .bool false), (9, .pointer (some ⟨b2, 0, none⟩)), (11, .pointer (some ⟨b3, 0, none⟩)), (12, .int .i64 x11), (33, .bool (decide (x11 < (p2.length : Int)) && decide (x11 < 30)))] a ∧ Stw ⟨Y, [], w0⟩ [(b3, [.bool x12, .int .i64 x13, .int .i64 x14, .int .i64 x15]), (b2, [.int .i64 x16, .int .i64 x17, v5]), (b1, [.bool false, .int .i64 0, .int .i64 0, .int .i64 0])] [row v5 80 R80 x18] w) ?_ ?_
      ·
        refine reg_list ?_
        refine ls hF hW rfl ((y_move hF rfl).q) (fun a w hF hW => ?_)
        refine ls hF hW rfl ((y_move hF rfl).q) (fun a w hF hW => ?_)
        refine ls hF hW rfl ((y_len (r := R73) (l := p2) Try.underlying47 rfl hF rfl (rdc_ro h_v1)).q) (fun a w hF hW => ?_)
        refine ls hF hW rfl ((y_lss hF rfl rfl).q) (fun a w hF hW => ?_)
        refine ls hF hW rfl ((y_move hF rfl).q) (fun a w hF hW => ?_)
        rcases Bool.eq_false_or_eq_true (decide (x11 < (p2.length : Int))) with hb0 | hb0
        ·
          rw [hb0] at hF
          refine ls_w hF hW (wanted_y hF rfl rfl rfl rfl) rfl (Nat.le_of_ble_eq_true rfl) ((y_move hF rfl).q) (fun a w hF hW => ?_)
          refine ls_w hF hW (wanted_y hF rfl rfl rfl rfl) rfl (Nat.le_of_ble_eq_true rfl) ((y_lss hF rfl rfl).q) (fun a w hF hW => ?_)
          refine ls hF hW rfl ((y_pick_t hF rfl rfl rfl).q) (fun a w hF hW => ?_)
          refine ls_nil ?_
          refine c_then ?_
          exact ⟨hF.re ⟨rfl, rfl, rfl, rfl, rfl, rfl, rfl, rfl, (by show some (Value.bool (decide (x11 < 30))) = some (Value.bool (decide (x11 < (p2.length : Int)) && decide (x11 < 30))); try rw [hb0]; all_goals simp only [Bool.not_true, Bool.not_false, Bool.true_and, Bool.false_and, Bool.true_or, Bool.false_or, Bool.and_true, Bool.or_false, cond_true, cond_false]), trivial⟩, hW⟩
        ·
          rw [hb0] at hF
          refine ls_skip hF (wanted_n hF rfl rfl rfl rfl rfl) rfl rfl (fun a hF => ?_)
          refine ls_skip hF (wanted_n hF rfl rfl rfl rfl rfl) rfl rfl (fun a hF => ?_)
          refine ls hF hW rfl ((y_pick_f hF rfl rfl rfl).q) (fun a w hF hW => ?_)
          refine ls_nil ?_
          refine c_then ?_
          exact ⟨hF.re ⟨rfl, rfl, rfl, rfl, rfl, rfl, rfl, rfl, (by show some (Value.bool false) = some (Value.bool (decide (x11 < (p2.length : Int)) && decide (x11 < 30))); try rw [hb0]; all_goals simp only [Bool.not_true, Bool.not_false, Bool.true_and, Bool.false_and, Bool.true_or, Bool.false_or, Bool.and_true, Bool.or_false, cond_true, cond_false]), trivial⟩, hW⟩
      rintro a w ⟨hF, hW⟩
      refine c_cond hF rfl (fun hb => ?_) (fun hb => ?_)
      ·
        have H := iteT hb H
        rw [hb] at hF
        clear hb
        refine wp_skip ?_
        refine c_then ?_
        obtain ⟨o3, G3, K3, L3⟩ := orE H
        refine c_seqJ (fun a w => ∃ x19 : Bool, ∃ x20 : Int, ∃ x21 : Int, ∃ x22 : Int, ∃ x23 : Int, ∃ x24 : Int, ∃ x25 : List (Int × Int × Int), ∃ v6 : Value, some (Sum.inl (x19, x20, x21, x22, x23, x24, x25)) = some o3 ∧ Fr 97 [] [(1, .int .i64 p1), (2, v1), (6, .pointer none), (7, .pointer (some ⟨b1, 0, none⟩)), (8, .bool false), (9, .pointer (some ⟨b2, 0, none⟩)), (11, .pointer (some ⟨b3, 0, none⟩)), (12, .int .i64 x11)] a ∧ Stw ⟨Y, [], w0⟩ [(b3, [.bool x19, .int .i64 x20, .int .i64 x21, .int .i64 x22]), (b2, [.int .i64 x23, .int .i64 x24, v6]), (b1, [.bool false, .int .i64 0, .int .i64 0, .int .i64 0])] [row v6 80 R80 x25] w) ?_ ?_
        ·
          have H := G3
          clear G3 K3
          refine wp_block ?_
          refine c_seq ?_
          refine reg_list ?_
          refine ls hF hW rfl ((y_move hF rfl).q) (fun a w hF hW => ?_)
          refine ls hF hW rfl ((y_move hF rfl).q) (fun a w hF hW => ?_)
          obtain ⟨x26, h2, H⟩ := bindE H
          refine ls hF hW rfl ((y_index (r := R73) L47 hF rfl rfl (rdc_ro h_v1) h2).q) (fun a w hF hW => ?_)
          refine ls hF hW rfl ((y_fieldAddr Try.underlying73 rfl rfl rfl T3 hF rfl (voff v1 + (x11).toNat * 3) rfl).q) (fun a w hF hW => ?_)
          refine ls hF hW rfl ((y_load_el (y := Value.int .i64 x26.1) (j := 0) (i := x11) hF rfl rfl (rdc_ro h_v1) h2 F73.to T3 rfl).q) (fun a w hF hW => ?_)
          refine ls_nil ?_
          refine c_then ?_
          refine wp_block ?_
          obtain ⟨o4, G4, K4⟩ := bindE H
          refine c_seqJ (fun a w => ∃ x27 : Bool, some (x27) = some o4 ∧ Fr 97 [] [(1, .int .i64 p1), (2, v1), (6, .pointer none), (7, .pointer (some ⟨b1, 0, none⟩)), (8, .bool false), (9, .pointer (some ⟨b2, 0, none⟩)), (11, .pointer (some ⟨b3, 0, none⟩)), (12, .int .i64 x11), (40, .int .i64 x26.1), (41, .bool x27)] a ∧ Stw ⟨Y, [], w0⟩ [(b3, [.bool x12, .int .i64 x13, .int .i64 x14, .int .i64 x15]), (b2, [.int .i64 x16, .int .i64 x17, v5]), (b1, [.bool false, .int .i64 0, .int .i64 0, .int .i64 0])] [row v5 80 R80 x18] w) ?_ ?_
          ·
            have H := G4
            clear G4 K4
            refine c_seq ?_
            refine reg_list ?_
            refine ls hF hW rfl ((y_eql hF rfl rfl).q) (fun a w hF hW => ?_)
            refine ls hF hW rfl ((y_assign hF rfl).q) (fun a w hF hW => ?_)
            refine ls_nil ?_
            refine c_then ?_
            refine c_cond hF rfl (fun hb => ?_) (fun hb => ?_)
            ·
              have H := iteT (of_decide_eq_true hb) H
              rw [hb] at hF
              clear hb
              refine wp_skip ?_
              refine c_then ?_
              have hW := hW.frontM (i := 2) rfl rfl
              have hW := hW.frontM (i := 2) rfl rfl
              have hW := hW.frontM (i := 2) rfl rfl
              exact ⟨_, H, hF.re ⟨rfl, rfl, rfl, rfl, rfl, rfl, rfl, rfl, rfl, rfl, trivial⟩, hW⟩
            ·
              have H := iteF (of_decide_eq_false hb) H
              rw [hb] at hF
              clear hb
              refine reg_list ?_
              refine ls hF hW rfl ((y_eql hF rfl rfl).q) (fun a w hF hW => ?_)
              refine ls hF hW rfl ((y_assign hF rfl).q) (fun a w hF hW => ?_)
              refine ls_nil ?_
              refine c_then ?_
              have hW := hW.frontM (i := 2) rfl rfl
              have hW := hW.frontM (i := 2) rfl rfl
              have hW := hW.frontM (i := 2) rfl rfl
              exact ⟨_, H, hF.re ⟨rfl, rfl, rfl, rfl, rfl, rfl, rfl, rfl, rfl, rfl, trivial⟩, hW⟩
          rintro a w ⟨x27, hj, hF, hW⟩
          have hj := Option.some.inj hj
          subst hj
          have H := K4
          clear G4 K4
          refine c_cond hF rfl (fun hb => ?_) (fun hb => ?_)
          ·
            have H := iteT hb H
            rw [hb] at hF
            clear hb
            refine reg_list ?_
            refine ls hF hW rfl ((y_move hF rfl).q) (fun a w hF hW => ?_)
            refine ls hF hW rfl ((y_move hF rfl).q) (fun a w hF hW => ?_)
            refine ls hF hW rfl ((y_move hF rfl).q) (fun a w hF hW => ?_)
            obtain ⟨x28, h3, H⟩ := bindE H
            refine ls hF hW rfl ((y_index (r := R73) L47 hF rfl rfl (rdc_ro h_v1) h3).q) (fun a w hF hW => ?_)
            refine ls hF hW rfl ((y_fieldAddr Try.underlying73 rfl rfl rfl T3 hF rfl (voff v1 + (x11).toNat * 3 + 1) rfl).q) (fun a w hF hW => ?_)
            refine ls hF hW rfl ((y_load_el (y := Value.int .i64 x28.2.1) (j := 1) (i := x11) hF rfl rfl (rdc_ro h_v1) h3 F73.to T3 rfl).q) (fun a w hF hW => ?_)
            obtain ⟨x29, h4, H⟩ := bindE H
            have hW := hW.frontM (i := 1) rfl rfl
            refine l_callG (Ml := [(b2, [.int .i64 x16, .int .i64 x17, v5])]) (Zl := [row v5 80 R80 x18]) (M := [(b3, [.bool x12, .int .i64 x13, .int .i64 x14, .int .i64 x15]), (b1, [.bool false, .int .i64 0, .int .i64 0, .int .i64 0])]) (Z := []) (β := Value) (rv := fun x => .tuple #[]) (MM := fun x => [(b2, [.int .i64 x29.1, .int .i64 x29.2.1, x])]) (ZZ := fun x => [row x 80 R80 x29.2.2]) hF hW H27 rfl rfl (fun hL => clock_Clocks_Tick_c _ _ w b2 (v5) (x16, x17, x18) x28.2.1 _ h4 hL) (fun x a w hF hW => ?_)
            obtain ⟨v7, rfl⟩ : ∃ y, y = x := ⟨x, rfl⟩
            have hW : Stw ⟨Y, [], w0⟩ [(b2, [.int .i64 x29.1, .int .i64 x29.2.1, v7]), (b3, [.bool x12, .int .i64 x13, .int .i64 x14, .int .i64 x15]), (b1, [.bool false, .int .i64 0, .int .i64 0, .int .i64 0])] [row v7 80 R80 x29.2.2] w := hW
            refine ls_nil ?_
            refine b_normal ?_
            refine b_normal ?_
            refine c_then ?_
            have hW := hW.frontM (i := 2) rfl rfl
            have hW := hW.frontM (i := 1) rfl rfl
            have hW := hW.frontM (i := 2) rfl rfl
            exact ⟨_, _, _, _, _, _, _, (v7), H, hF.re ⟨rfl, rfl, rfl, rfl, rfl, rfl, rfl, rfl, trivial⟩, hW⟩
          ·
            have H := iteF (by rw [hb]; decide) H
            rw [hb] at hF
            clear hb
            refine c_seq ?_
            refine reg_list ?_
            refine ls hF hW rfl ((y_eql hF rfl rfl).q) (fun a w hF hW => ?_)
            refine ls hF hW rfl ((y_assign hF rfl).q) (fun a w hF hW => ?_)
            refine ls_nil ?_
            refine c_then ?_
            refine c_cond hF rfl (fun hb => ?_) (fun hb => ?_)
            ·
              have H := iteT (of_decide_eq_true hb) H
              rw [hb] at hF
              clear hb
              refine reg_list ?_
              refine ls hF hW rfl ((y_move hF rfl).q) (fun a w hF hW => ?_)
              refine ls hF hW rfl ((y_move hF rfl).q) (fun a w hF hW => ?_)
              refine ls hF hW rfl ((y_move hF rfl).q) (fun a w hF hW => ?_)
              obtain ⟨x30, h5, H⟩ := bindE H
              refine ls hF hW rfl ((y_index (r := R73) L47 hF rfl rfl (rdc_ro h_v1) h5).q) (fun a w hF hW => ?_)
              refine ls hF hW rfl ((y_fieldAddr Try.underlying73 rfl rfl rfl T3 hF rfl (voff v1 + (x11).toNat * 3 + 1) rfl).q) (fun a w hF hW => ?_)
              refine ls hF hW rfl ((y_load_el (y := Value.int .i64 x30.2.1) (j := 1) (i := x11) hF rfl rfl (rdc_ro h_v1) h5 F73.to T3 rfl).q) (fun a w hF hW => ?_)
              obtain ⟨x31, h6, H⟩ := bindE H
              have hW := hW.frontM (i := 1) rfl rfl
              refine l_callG (Ml := [(b2, [.int .i64 x16, .int .i64 x17, v5])]) (Zl := [row v5 80 R80 x18]) (M := [(b3, [.bool x12, .int .i64 x13, .int .i64 x14, .int .i64 x15]), (b1, [.bool false, .int .i64 0, .int .i64 0, .int .i64 0])]) (Z := []) (β := Value) (rv := fun x => .int .i64 x31.1) (MM := fun x => [(b2, [.int .i64 x31.2.1, .int .i64 x31.2.2.1, x])]) (ZZ := fun x => [row x 80 R80 x31.2.2.2]) hF hW H26 rfl rfl (fun hL => clock_Clocks_Rate_c _ _ w b2 (v5) (x16, x17, x18) 0 x30.2.1 _ h6 hL) (fun x a w hF hW => ?_)
              obtain ⟨v8, rfl⟩ : ∃ y, y = x := ⟨x, rfl⟩
              have hW : Stw ⟨Y, [], w0⟩ [(b2, [.int .i64 x31.2.1, .int .i64 x31.2.2.1, v8]), (b3, [.bool x12, .int .i64 x13, .int .i64 x14, .int .i64 x15]), (b1, [.bool false, .int .i64 0, .int .i64 0, .int .i64 0])] [row v8 80 R80 x31.2.2.2] w := hW
              refine ls_nil ?_
              refine b_normal ?_
              refine b_normal ?_
              refine c_then ?_
              have hW := hW.frontM (i := 2) rfl rfl
              have hW := hW.frontM (i := 1) rfl rfl
              have hW := hW.frontM (i := 2) rfl rfl
              exact ⟨_, _, _, _, _, _, _, (v8), H, hF.re ⟨rfl, rfl, rfl, rfl, rfl, rfl, rfl, rfl, trivial⟩, hW⟩
            ·
              have H := iteF (of_decide_eq_false hb) H
              rw [hb] at hF
              clear hb
              obtain ⟨o5, G5, K5⟩ := bindE H
              refine c_seqJ (fun a w => ∃ x32 : Bool, some (x32) = some o5 ∧ Fr 97 [] [(1, .int .i64 p1), (2, v1), (6, .pointer none), (7, .pointer (some ⟨b1, 0, none⟩)), (8, .bool false), (9, .pointer (some ⟨b2, 0, none⟩)), (11, .pointer (some ⟨b3, 0, none⟩)), (12, .int .i64 x11), (60, .bool x32)] a ∧ Stw ⟨Y, [], w0⟩ [(b3, [.bool x12, .int .i64 x13, .int .i64 x14, .int .i64 x15]), (b2, [.int .i64 x16, .int .i64 x17, v5]), (b1, [.bool false, .int .i64 0, .int .i64 0, .int .i64 0])] [row v5 80 R80 x18] w) ?_ ?_
              ·
                have H := G5
                clear G5 K5
                refine c_seq ?_
                refine reg_list ?_
                refine ls hF hW rfl ((y_eql hF rfl rfl).q) (fun a w hF hW => ?_)
                refine ls hF hW rfl ((y_assign hF rfl).q) (fun a w hF hW => ?_)
                refine ls_nil ?_
                refine c_then ?_
                refine c_cond hF rfl (fun hb => ?_) (fun hb => ?_)
                ·
                  have H := iteT (of_decide_eq_true hb) H
                  rw [hb] at hF
                  clear hb
                  refine wp_skip ?_
                  refine c_then ?_
                  have hW := hW.frontM (i := 2) rfl rfl
                  have hW := hW.frontM (i := 2) rfl rfl
                  have hW := hW.frontM (i := 2) rfl rfl
                  exact ⟨_, H, hF.re ⟨rfl, rfl, rfl, rfl, rfl, rfl, rfl, rfl, rfl, trivial⟩, hW⟩
                ·
                  have H := iteF (of_decide_eq_false hb) H
                  rw [hb] at hF
                  clear hb
                  refine reg_list ?_
                  refine ls hF hW rfl ((y_eql hF rfl rfl).q) (fun a w hF hW => ?_)
                  refine ls hF hW rfl ((y_assign hF rfl).q) (fun a w hF hW => ?_)
                  refine ls_nil ?_
                  refine c_then ?_
                  have hW := hW.frontM (i := 2) rfl rfl
                  have hW := hW.frontM (i := 2) rfl rfl
                  have hW := hW.frontM (i := 2) rfl rfl
                  exact ⟨_, H, hF.re ⟨rfl, rfl, rfl, rfl, rfl, rfl, rfl, rfl, rfl, trivial⟩, hW⟩
              rintro a w ⟨x32, hj, hF, hW⟩
              have hj := Option.some.inj hj
              subst hj
              have H := K5
              clear G5 K5
              refine c_cond hF rfl (fun hb => ?_) (fun hb => ?_)
              ·
                have H := iteT hb H
                rw [hb] at hF
                clear hb
                refine c_seq ?_
                refine reg_list ?_
                refine ls hF hW rfl ((y_move hF rfl).q) (fun a w hF hW => ?_)
                refine ls hF hW rfl (y_call (v := Value.int .i64 (clock_Clocks_Real (x16, x17, x18))) hF H21 rfl (fun w hW => clock_Clocks_Real_c any w b2 (v5) (x16, x17, x18) _ rfl (((rdc_row 0 rfl) : Rdc _ _ _ _ _ _) w hW).nx (at_M hW 1 rfl))) (fun a w hF hW => ?_)
                refine ls hF hW rfl ((y_assign hF rfl).q) (fun a w hF hW => ?_)
                refine ls_nil ?_
                refine c_then ?_
                refine c_seq ?_
                refine reg_list ?_
                refine ls hF hW rfl ((y_move hF rfl).q) (fun a w hF hW => ?_)
                refine ls hF hW rfl ((y_move hF rfl).q) (fun a w hF hW => ?_)
                refine ls hF hW rfl ((y_move hF rfl).q) (fun a w hF hW => ?_)
                obtain ⟨x33, h7, H⟩ := bindE H
                refine ls hF hW rfl ((y_index (r := R73) L47 hF rfl rfl (rdc_ro h_v1) h7).q) (fun a w hF hW => ?_)
                refine ls hF hW rfl ((y_fieldAddr Try.underlying73 rfl rfl rfl T3 hF rfl (voff v1 + (x11).toNat * 3 + 1) rfl).q) (fun a w hF hW => ?_)
                refine ls hF hW rfl ((y_load_el (y := Value.int .i64 x33.2.1) (j := 1) (i := x11) hF rfl rfl (rdc_ro h_v1) h7 F73.to T3 rfl).q) (fun a w hF hW => ?_)
                obtain ⟨x34, h8, H⟩ := bindE H
                have hW := hW.frontM (i := 1) rfl rfl
                refine l_callG (Ml := [(b2, [.int .i64 x16, .int .i64 x17, v5])]) (Zl := [row v5 80 R80 x18]) (M := [(b3, [.bool x12, .int .i64 x13, .int .i64 x14, .int .i64 x15]), (b1, [.bool false, .int .i64 0, .int .i64 0, .int .i64 0])]) (Z := []) (β := Value) (rv := fun x => .tuple #[]) (MM := fun x => [(b2, [.int .i64 x34.1, .int .i64 x34.2.1, x])]) (ZZ := fun x => [row x 80 R80 x34.2.2]) hF hW H27 rfl rfl (fun hL => clock_Clocks_Tick_c _ _ w b2 (v5) (x16, x17, x18) x33.2.1 _ h8 hL) (fun x a w hF hW => ?_)
                obtain ⟨v9, rfl⟩ : ∃ y, y = x := ⟨x, rfl⟩
                have hW : Stw ⟨Y, [], w0⟩ [(b2, [.int .i64 x34.1, .int .i64 x34.2.1, v9]), (b3, [.bool x12, .int .i64 x13, .int .i64 x14, .int .i64 x15]), (b1, [.bool false, .int .i64 0, .int .i64 0, .int .i64 0])] [row v9 80 R80 x34.2.2] w := hW
                refine ls_nil ?_
                refine c_then ?_
                refine c_seq ?_
                refine reg_list ?_
                refine ls hF hW rfl ((y_move hF rfl).q) (fun a w hF hW => ?_)
                obtain ⟨x35, h9, H⟩ := bindE H
                refine ls hF hW rfl (y_call (v := Value.int .i64 x35) hF H25 rfl (fun w hW => clock_Clocks_Read_c any w b2 (v9) x34 0 _ h9 (((rdc_row 0 rfl) : Rdc _ _ _ _ _ _) w hW).nx (at_M hW 0 rfl))) (fun a w hF hW => ?_)
                refine ls hF hW rfl ((y_assign hF rfl).q) (fun a w hF hW => ?_)
                refine ls_nil ?_
                refine c_then ?_
                refine c_seq ?_
                refine reg_list ?_
                refine ls hF hW rfl ((y_move hF rfl).q) (fun a w hF hW => ?_)
                refine ls hF hW rfl ((y_move hF rfl).q) (fun a w hF hW => ?_)
                refine ls hF hW rfl ((y_move hF rfl).q) (fun a w hF hW => ?_)
                obtain ⟨x36, h10, H⟩ := bindE H
                refine ls hF hW rfl ((y_index (r := R73) L47 hF rfl rfl (rdc_ro h_v1) h10).q) (fun a w hF hW => ?_)
                refine ls hF hW rfl ((y_fieldAddr Try.underlying73 rfl rfl rfl T3 hF rfl (voff v1 + (x11).toNat * 3 + 2) rfl).q) (fun a w hF hW => ?_)
                refine ls hF hW rfl ((y_load_el (y := Value.int .i64 x36.2.2) (j := 2) (i := x11) hF rfl rfl (rdc_ro h_v1) h10 F73.to T3 rfl).q) (fun a w hF hW => ?_)
                obtain ⟨x37, h11, H⟩ := bindE H
                refine l_callG (Ml := [(b2, [.int .i64 x34.1, .int .i64 x34.2.1, v9])]) (Zl := [row v9 80 R80 x34.2.2]) (M := [(b3, [.bool x12, .int .i64 x13, .int .i64 x14, .int .i64 x15]), (b1, [.bool false, .int .i64 0, .int .i64 0, .int .i64 0])]) (Z := []) (β := Value) (rv := fun x => .tuple #[]) (MM := fun x => [(b2, [.int .i64 x37.1, .int .i64 x37.2.1, x])]) (ZZ := fun x => [row x 80 R80 x37.2.2]) hF hW H27 rfl rfl (fun hL => clock_Clocks_Tick_c _ _ w b2 (v9) x34 x36.2.2 _ h11 hL) (fun x a w hF hW => ?_)
                obtain ⟨v10, rfl⟩ : ∃ y, y = x := ⟨x, rfl⟩
                have hW : Stw ⟨Y, [], w0⟩ [(b2, [.int .i64 x37.1, .int .i64 x37.2.1, v10]), (b3, [.bool x12, .int .i64 x13, .int .i64 x14, .int .i64 x15]), (b1, [.bool false, .int .i64 0, .int .i64 0, .int .i64 0])] [row v10 80 R80 x37.2.2] w := hW
                refine ls_nil ?_
                refine c_then ?_
                refine c_seq ?_
                refine reg_list ?_
                refine ls hF hW rfl ((y_assign hF rfl).q) (fun a w hF hW => ?_)
                refine ls_nil ?_
                refine c_then ?_
                refine c_seq ?_
                refine reg_plan [(true, 0), (true, 1), (true, 2), (true, 3), (true, 5), (false, 4), (false, 6), (true, 7), (true, 8), (true, 9), (false, 10), (false, 11)] (CN ⟨Y, [], w0⟩ [(some 6, b3, [.bool x12, .int .i64 x13, .int .i64 x14, .int .i64 x15])] []) (fun ch a d v w h => by cases d <;> exact h) MO (by kernel_rfl) hW (fun w hW => ⟨_, _, hW, (all_cons (fun _ => (.tail _ (.head _))) all_nil), all_nil⟩) (fun w hW => ?_)
                refine pl_t (R := [6]) hF rfl rfl (yC fun M Z hN hZ => y_load_m (cs := [.bool x12, .int .i64 x13, .int .i64 x14, .int .i64 x15]) (v := Value.agg #[.bool x12, .int .i64 x13, .int .i64 x14, .int .i64 x15]) hF rfl (hN ((some 6), b3, [.bool x12, .int .i64 x13, .int .i64 x14, .int .i64 x15]) (.head _) rfl) T30 rfl) (by kernel_rfl) rfl (fun a hF => ?_)
                refine pl_t (R := []) hF rfl rfl (yC fun M Z hN hZ => y_move hF rfl) rfl rfl (fun a hF => ?_)
                refine pl_t (R := []) hF rfl rfl (yC fun M Z hN hZ => y_move hF rfl) rfl rfl (fun a hF => ?_)
                refine pl_t (R := []) hF rfl rfl (yC fun M Z hN hZ => y_move hF rfl) rfl rfl (fun a hF => ?_)
                refine pl_t (R := []) hF rfl rfl (yC fun M Z hN hZ => y_move hF rfl) rfl rfl (fun a hF => ?_)
                refine pl_f rfl ?_
                refine ls hF hW rfl (y_call (v := Value.int .i64 (clock_Clocks_Real x37)) hF H21 rfl (fun w hW => clock_Clocks_Real_c any w b2 (v10) x37 _ rfl (((rdc_row 0 rfl) : Rdc _ _ _ _ _ _) w hW).nx (at_M hW 0 rfl))) (fun a w hF hW => ?_)
                refine pl_next (N2 := []) (NZ2 := []) (N3 := [(some 6, b3, [.bool x12, .int .i64 x13, .int .i64 x14, .int .i64 x15])]) (NZ3 := []) hW rfl rfl (all_cons (fun _ => (.tail _ (.head _))) all_nil) all_nil ?_
                refine pl_f rfl ?_
                obtain ⟨x38, h12, H⟩ := bindE H
                refine ls hF hW rfl (y_call (v := Value.tuple #[.agg #[.bool x38.1.1, .int .i64 x38.1.2.1.1, .int .i64 x38.1.2.1.2, .int .i64 x38.1.2.2], .int .i64 x38.2]) hF H8 rfl (fun w hW => skew_Meet_c any w (x12, (x13, x14), x15) (clock_Clocks_Real (x16, x17, x18)) x35 (clock_Clocks_Real x37) p1 _ h12)) (fun a w hF hW => ?_)
                refine pl_next (N2 := []) (NZ2 := []) (N3 := [(some 6, b3, [.bool x12, .int .i64 x13, .int .i64 x14, .int .i64 x15])]) (NZ3 := []) hW rfl rfl (all_cons (fun h => rel_dead (by kernel_rfl) h) all_nil) all_nil ?_
                refine pl_t (R := []) hF rfl rfl (yC fun M Z hN hZ => y_move hF rfl) rfl rfl (fun a hF => ?_)
                refine pl_t (R := []) hF rfl rfl (yC fun M Z hN hZ => y_extract (v := Value.agg #[.bool x38.1.1, .int .i64 x38.1.2.1.1, .int .i64 x38.1.2.1.2, .int .i64 x38.1.2.2]) hF rfl rfl) rfl rfl (fun a hF => ?_)
                refine pl_t (R := []) hF rfl rfl (yC fun M Z hN hZ => y_extract (v := Value.int .i64 x38.2) hF rfl rfl) rfl rfl (fun a hF => ?_)
                refine pl_f rfl ?_
                refine l_store (vs := [.bool x38.1.1, .int .i64 x38.1.2.1.1, .int .i64 x38.1.2.1.2, .int .i64 x38.1.2.2]) (M' := [(b2, [.int .i64 x37.1, .int .i64 x37.2.1, v10]), (b3, [.bool x38.1.1, .int .i64 x38.1.2.1.1, .int .i64 x38.1.2.1.2, .int .i64 x38.1.2.2]), (b1, [.bool false, .int .i64 0, .int .i64 0, .int .i64 0])]) 1 hF hW rfl rfl rfl T30 rfl rfl rfl rfl rfl (fun w hW => ?_)
                refine pl_next (N2 := []) (NZ2 := []) (N3 := [(some 6, b3, [.bool x12, .int .i64 x13, .int .i64 x14, .int .i64 x15])]) (NZ3 := []) hW rfl rfl (all_cons (fun h => rel_dead (by kernel_rfl) h) all_nil) all_nil ?_
                refine pl_f rfl ?_
                refine ls hF hW rfl ((y_assign hF rfl).q) (fun a w hF hW => ?_)
                refine pl_next (N2 := []) (NZ2 := []) (N3 := [(some 6, b3, [.bool x12, .int .i64 x13, .int .i64 x14, .int .i64 x15])]) (NZ3 := []) hW rfl rfl (all_cons (fun h => rel_dead (by kernel_rfl) h) all_nil) all_nil ?_
                refine pl_end ?_
                refine c_then ?_
                refine c_seq ?_
                refine reg_list ?_
                refine ls hF hW rfl ((y_move hF rfl).q) (fun a w hF hW => ?_)
                refine ls hF hW rfl ((y_neq hF rfl rfl).q) (fun a w hF hW => ?_)
                refine ls_nil ?_
                refine c_then ?_
                refine c_cond hF rfl (fun hb => ?_) (fun hb => ?_)
                ·
                  have H := iteT (of_decide_eq_true hb) H
                  rw [hb] at hF
                  clear hb
                  refine c_seq ?_
                  refine reg_tail 3 hW MO (by kernel_rfl) ?_
                  refine qs hF rfl ((y_move hF rfl).q) (fun a hF => ?_)
                  refine qs hF rfl ((y_load (v := Value.agg #[.bool x38.1.1, .int .i64 x38.1.2.1.1, .int .i64 x38.1.2.1.2, .int .i64 x38.1.2.2]) 1 hF rfl rfl T30 rfl).q) (fun a hF => ?_)
                  refine qs hF rfl ((y_assign hF rfl).q) (fun a hF => ?_)
                  refine quiet_end (fun w hW => ?_)
                  refine l_store (vs := [.bool x38.1.1, .int .i64 x38.1.2.1.1, .int .i64 x38.1.2.1.2, .int .i64 x38.1.2.2]) (M' := [(b2, [.int .i64 x37.1, .int .i64 x37.2.1, v10]), (b3, [.bool x38.1.1, .int .i64 x38.1.2.1.1, .int .i64 x38.1.2.1.2, .int .i64 x38.1.2.2]), (b1, [.bool x38.1.1, .int .i64 x38.1.2.1.1, .int .i64 x38.1.2.1.2, .int .i64 x38.1.2.2])]) 2 hF hW rfl rfl rfl T30 rfl rfl rfl rfl rfl (fun w hW => ?_)
                  refine ls hF hW rfl ((y_assign hF rfl).q) (fun a w hF hW => ?_)
                  refine ls_nil ?_
                  refine c_then ?_
                  refine wp_ret ?_
                  refine r_block ?_
                  refine r_block ?_
                  refine r_then ?_
                  refine r_then ?_
                  refine r_block ?_
                  refine r_then ?_
                  have H := L3 _ H
                  have H := L2 _ H
                  have H := L1 _ H
                  have H := Option.some.inj H
                  subst H
                  refine post3 (.inl rfl) hF hW rfl (rv_tmp hF rfl) (rv_cell 2 hF rfl rfl T30 rfl) (rv_tmp hF rfl) ?_
                  have hW := hW.sub (M' := [(b2, [.int .i64 x37.1, .int .i64 x37.2.1, v10])]) (Z' := [row v10 80 R80 x37.2.2]) (List.Sublist.cons_cons _ (List.nil_sublist _)) (List.Sublist.refl _)
                  exact ⟨(b2, (v10)), rfl, hW⟩
                ·
                  have H := iteF (of_decide_eq_false hb) H
                  rw [hb] at hF
                  clear hb
                  refine wp_skip ?_
                  refine b_normal ?_
                  refine b_normal ?_
                  refine c_then ?_
                  have hW := hW.frontM (i := 2) rfl rfl
                  have hW := hW.frontM (i := 1) rfl rfl
                  have hW := hW.frontM (i := 2) rfl rfl
                  exact ⟨_, _, _, _, _, _, _, (v10), H, hF.re ⟨rfl, rfl, rfl, rfl, rfl, rfl, rfl, rfl, trivial⟩, hW⟩
              ·
                have H := iteF (by rw [hb]; decide) H
                rw [hb] at hF
                clear hb
                refine wp_skip ?_
                refine b_normal ?_
                refine b_normal ?_
                refine c_then ?_
                have hW := hW.frontM (i := 2) rfl rfl
                have hW := hW.frontM (i := 2) rfl rfl
                have hW := hW.frontM (i := 2) rfl rfl
                exact ⟨_, _, _, _, _, _, _, (v5), H, hF.re ⟨rfl, rfl, rfl, rfl, rfl, rfl, rfl, rfl, trivial⟩, hW⟩
        rintro a w ⟨x19, x20, x21, x22, x23, x24, x25, v6, hj, hF, hW⟩
        have H := K3 _ hj
        clear hj G3 K3 L3
        refine reg_list ?_
        refine ls hF hW rfl ((y_move hF rfl).q) (fun a w hF hW => ?_)
        refine ls hF hW rfl ((y_add hF rfl rfl rfl).q) (fun a w hF hW => ?_)
        refine ls hF hW rfl ((y_assign hF rfl).q) (fun a w hF hW => ?_)
        refine ls_nil ?_
        refine c_then ?_
        have hW := hW.frontM (i := 2) rfl rfl
        have hW := hW.frontM (i := 2) rfl rfl
        have hW := hW.frontM (i := 2) rfl rfl
        exact ⟨_, H, (v6), hF.re ⟨rfl, rfl, rfl, rfl, rfl, rfl, rfl, rfl, trivial⟩, hW⟩
      ·
        have H := iteF (by rw [hb]; decide) H
        rw [hb] at hF
        clear hb
        refine wp_exit ?_
        refine e_then ?_
        refine e_then ?_
        refine e_block ?_
        refine c_then ?_
        have hW := hW.frontM (i := 2) rfl rfl
        have hW := hW.frontM (i := 2) rfl rfl
        have hW := hW.frontM (i := 2) rfl rfl
        have H := L2 _ H
        exact ⟨_, _, _, _, _, _, _, (v5), H, hF.re ⟨rfl, rfl, rfl, rfl, rfl, trivial⟩, hW⟩
    rintro a w ⟨x4, x5, x6, x7, x8, x9, x10, v4, hj, hF, hW⟩
    have H := K1 _ hj
    clear hj G1 K1 L1
    refine c_seq ?_
    refine reg_tail 3 hW MO (by kernel_rfl) ?_
    refine qs hF rfl ((y_move hF rfl).q) (fun a hF => ?_)
    refine qs hF rfl ((y_load (v := Value.agg #[.bool x4, .int .i64 x5, .int .i64 x6, .int .i64 x7]) 0 hF rfl rfl T30 rfl).q) (fun a hF => ?_)
    refine qs hF rfl ((y_assign hF rfl).q) (fun a hF => ?_)
    refine quiet_end (fun w hW => ?_)
    refine l_store (vs := [.bool x4, .int .i64 x5, .int .i64 x6, .int .i64 x7]) (M' := [(b3, [.bool x4, .int .i64 x5, .int .i64 x6, .int .i64 x7]), (b2, [.int .i64 x8, .int .i64 x9, v4]), (b1, [.bool x4, .int .i64 x5, .int .i64 x6, .int .i64 x7])]) 2 hF hW rfl rfl rfl T30 rfl rfl rfl rfl rfl (fun w hW => ?_)
    refine ls hF hW rfl ((y_assign hF rfl).q) (fun a w hF hW => ?_)
    refine ls_nil ?_
    refine c_then ?_
    refine wp_ret ?_
    have H := Option.some.inj H
    subst H
    refine post3 (.inl rfl) hF hW rfl (rv_tmp hF rfl) (rv_cell 2 hF rfl rfl T30 rfl) (rv_tmp hF rfl) ?_
    have hW := hW.frontM (i := 1) rfl rfl
    have hW := hW.sub (M' := [(b2, [.int .i64 x8, .int .i64 x9, v4])]) (Z' := [row v4 80 R80 x10]) (List.Sublist.cons_cons _ (List.nil_sublist _)) (List.Sublist.refl _)
    exact ⟨(b2, (v4)), rfl, hW⟩
  ·
    have H := altR H
    refine l_callG (Ml := []) (Zl := []) (M := [(b1, [.bool false, .int .i64 0, .int .i64 0, .int .i64 0])]) (Z := [row v2 3 (Rp.int .i64) ([p0] : List Int)]) (β := Unit) (rv := fun x => .tuple #[.pointer none, .int .i64 2]) (MM := fun x => []) (ZZ := fun x => []) hF hW H42 rfl rfl (fun hL => clock_New_c _ w (v2) ([p0] : List Int) p1 _ h1 ((rdc_row 0 rfl) w hW).nx) (fun x a w hF hW => ?_)
    have hW : Stw ⟨Y, [], w0⟩ [(b1, [.bool false, .int .i64 0, .int .i64 0, .int .i64 0])] [row v2 3 (Rp.int .i64) ([p0] : List Int)] w := hW
    refine ls hF hW rfl ((y_move hF rfl).q) (fun a w hF hW => ?_)
    refine ls hF hW rfl ((y_extract (v := Value.pointer none) hF rfl rfl).q) (fun a w hF hW => ?_)
    refine ls hF hW rfl ((y_extract (v := Value.int .i64 2) hF rfl rfl).q) (fun a w hF hW => ?_)
    refine ls hF hW rfl ((y_assign hF rfl).q) (fun a w hF hW => ?_)
    refine ls hF hW rfl ((y_assign hF rfl).q) (fun a w hF hW => ?_)
    refine ls_nil ?_
    refine c_then ?_
    refine c_seq ?_
    refine c_seq ?_
    refine reg_list ?_
    refine ls hF hW rfl ((y_move hF rfl).q) (fun a w hF hW => ?_)
    refine ls hF hW rfl ((y_neq hF rfl rfl).q) (fun a w hF hW => ?_)
    rw [show decide ((2 : Int) ≠ 0) = true from by decide] at hF
    refine ls_nil ?_
    refine c_then ?_
    refine c_cond_t hF rfl ?_
    refine c_seq ?_
    refine reg_list ?_
    refine ls hF hW rfl ((y_build (v := Value.agg #[.bool false, .int .i64 0, .int .i64 0, .int .i64 0]) B30 hF rfl rfl rfl).q) (fun a w hF hW => ?_)
    refine ls hF hW rfl ((y_assign hF rfl).q) (fun a w hF hW => ?_)
    refine l_store (vs := [.bool false, .int .i64 0, .int .i64 0, .int .i64 0]) (M' := [(b1, [.bool false, .int .i64 0, .int .i64 0, .int .i64 0])]) 0 hF hW rfl rfl rfl T30 rfl rfl rfl rfl rfl (fun w hW => ?_)
    refine ls hF hW rfl ((y_assign hF rfl).q) (fun a w hF hW => ?_)
    refine ls_nil ?_
    refine c_then ?_
    refine wp_ret ?_
    refine r_then ?_
    have H := Option.some.inj H
    subst H
    refine post3 (.inl rfl) hF hW rfl (rv_tmp hF rfl) (rv_cell 0 hF rfl rfl T30 rfl) (rv_tmp hF rfl) ?_
    have hW := hW.sub (M' := []) (Z' := []) (List.nil_sublist _) (List.nil_sublist _)
    exact ⟨(), rfl, hW⟩

theorem H20 : Has Try.prog 20 := ⟨fun args w => run_callFunc_body Try.func20 rfl (by decide) args w⟩
def span_Has (p0 : Int × Int) (p1 : Int) : Bool := (decide (((span_Clean p0).1) ≤ (span_limited p1)) && decide ((span_limited p1) ≤ ((span_Clean p0).2)))
theorem span_Has_c (Y : Nat → Prop) (w0 : World)  (p0 : Int × Int) (p1 : Int) (r : Bool) (H : span_Has p0 p1 = r)  :
    Calls Try.prog 23 #[.agg #[.int .i64 p0.1, .int .i64 p0.2], .int .i64 p1] w0 fun e w' => e = .returned (.bool r) ∧ Below w0.heap.size w0 w' := by
  refine enter Try.func23 rfl Try.ntmps23 rfl (fun a hF => ?_)
  have hW := Stw.start Y w0
  unfold span_Has at H
  refine c_seq ?_
  refine reg_list ?_
  refine l_box (cs := [.int .i64 p0.1, .int .i64 p0.2]) hF hW rfl rfl rfl (fun b1 a w hF hW => ?_)
  refine ls hF hW rfl ((y_assign hF rfl).q) (fun a w hF hW => ?_)
  refine ls_nil ?_
  refine c_then ?_
  refine c_seq ?_
  refine reg_list ?_
  refine ls hF hW rfl ((y_load (v := Value.agg #[.int .i64 p0.1, .int .i64 p0.2]) 0 hF rfl rfl T28 rfl).q) (fun a w hF hW => ?_)
  refine ls hF hW rfl (y_call (v := Value.agg #[.int .i64 ((span_Clean p0).1), .int .i64 ((span_Clean p0).2)]) hF H43 rfl (fun w hW => span_Clean_c any w p0 _ rfl)) (fun a w hF hW => ?_)
  refine ls hF hW rfl ((y_move hF rfl).q) (fun a w hF hW => ?_)
  refine ls hF hW rfl (y_call (v := Value.int .i64 (span_limited p1)) hF H44 rfl (fun w hW => span_limited_c any w p1 _ rfl)) (fun a w hF hW => ?_)
  refine l_store (vs := [.int .i64 ((span_Clean p0).1), .int .i64 ((span_Clean p0).2)]) (M' := [(b1, [.int .i64 ((span_Clean p0).1), .int .i64 ((span_Clean p0).2)])]) 0 hF hW rfl rfl rfl T28 rfl rfl rfl rfl rfl (fun w hW => ?_)
  refine ls hF hW rfl ((y_assign hF rfl).q) (fun a w hF hW => ?_)
  refine ls_nil ?_
  refine c_then ?_
  refine c_seqJ (fun a w => Fr 19 [] [(4, .bool (decide (((span_Clean p0).1) ≤ (span_limited p1)) && decide ((span_limited p1) ≤ ((span_Clean p0).2))))] a ∧ Stw ⟨Y, [], w0⟩ [(b1, [.int .i64 ((span_Clean p0).1), .int .i64 ((span_Clean p0).2)])] [] w) ?_ ?_
  ·
    refine reg_list ?_
    refine ls hF hW rfl ((y_fieldAddr Try.underlying28 rfl rfl rfl T3 hF rfl 0 rfl).q) (fun a w hF hW => ?_)
    refine ls hF hW rfl ((y_load (v := Value.int .i64 ((span_Clean p0).1)) 0 hF rfl rfl T3 rfl).q) (fun a w hF hW => ?_)
    refine ls hF hW rfl ((y_move hF rfl).q) (fun a w hF hW => ?_)
    refine ls hF hW rfl ((y_leq hF rfl rfl).q) (fun a w hF hW => ?_)
    refine ls hF hW rfl ((y_move hF rfl).q) (fun a w hF hW => ?_)
    rcases Bool.eq_false_or_eq_true (decide (((span_Clean p0).1) ≤ (span_limited p1))) with hb0 | hb0
    ·
      rw [hb0] at hF
      refine ls_w hF hW (wanted_y hF rfl rfl rfl rfl) rfl (Nat.le_of_ble_eq_true rfl) ((y_move hF rfl).q) (fun a w hF hW => ?_)
      refine ls_w hF hW (wanted_y hF rfl rfl rfl rfl) rfl (Nat.le_of_ble_eq_true rfl) ((y_fieldAddr Try.underlying28 rfl rfl rfl T3 hF rfl 1 rfl).q) (fun a w hF hW => ?_)
      refine ls_w hF hW (wanted_y hF rfl rfl rfl rfl) rfl (Nat.le_of_ble_eq_true rfl) ((y_load (v := Value.int .i64 ((span_Clean p0).2)) 0 hF rfl rfl T3 rfl).q) (fun a w hF hW => ?_)
      refine ls_w hF hW (wanted_y hF rfl rfl rfl rfl) rfl (Nat.le_of_ble_eq_true rfl) ((y_leq hF rfl rfl).q) (fun a w hF hW => ?_)
      refine ls hF hW rfl ((y_pick_t hF rfl rfl rfl).q) (fun a w hF hW => ?_)
      refine ls hF hW rfl ((y_assign hF rfl).q) (fun a w hF hW => ?_)
      refine ls_nil ?_
      refine c_then ?_
      exact ⟨hF.re ⟨(by show some (Value.bool (decide ((span_limited p1) ≤ ((span_Clean p0).2)))) = some (Value.bool (decide (((span_Clean p0).1) ≤ (span_limited p1)) && decide ((span_limited p1) ≤ ((span_Clean p0).2)))); try rw [hb0]; all_goals simp only [Bool.not_true, Bool.not_false, Bool.true_and, Bool.false_and, Bool.true_or, Bool.false_or, Bool.and_true, Bool.or_false, cond_true, cond_false]), trivial⟩, hW⟩
    ·
      rw [hb0] at hF
      refine ls_skip hF (wanted_n hF rfl rfl rfl rfl rfl) rfl rfl (fun a hF => ?_)
      refine ls_skip hF (wanted_n hF rfl rfl rfl rfl rfl) rfl rfl (fun a hF => ?_)
      refine ls_skip hF (wanted_n hF rfl rfl rfl rfl rfl) rfl rfl (fun a hF => ?_)
      refine ls_skip hF (wanted_n hF rfl rfl rfl rfl rfl) rfl rfl (fun a hF => ?_)
      refine ls hF hW rfl ((y_pick_f hF rfl rfl rfl).q) (fun a w hF hW => ?_)
      refine ls hF hW rfl ((y_assign hF rfl).q) (fun a w hF hW => ?_)
      refine ls_nil ?_
      refine c_then ?_
      exact ⟨hF.re ⟨(by show some (Value.bool false) = some (Value.bool (decide (((span_Clean p0).1) ≤ (span_limited p1)) && decide ((span_limited p1) ≤ ((span_Clean p0).2)))); try rw [hb0]; all_goals simp only [Bool.not_true, Bool.not_false, Bool.true_and, Bool.false_and, Bool.true_or, Bool.false_or, Bool.and_true, Bool.or_false, cond_true, cond_false]), trivial⟩, hW⟩
  rintro a w ⟨hF, hW⟩
  refine wp_ret ?_
  subst H
  refine post1 (.inl rfl) hF hW rfl (rv_tmp hF rfl) ?_
  exact ⟨rfl, hW.done⟩

theorem H23 : Has Try.prog 23 := ⟨fun args w => run_callFunc_body Try.func23 rfl (by decide) args w⟩
noncomputable def L15_SkewHolds (p0 : Int) (p1 : Int) (p2 : List (Int × Int × Int)) : Option Bool := (L15_played p0 p1 p2).bind fun x1 => altS x1 (fun x2 => (if (!x2.2.2) = true then some false else (skew_On x2.2.1 (clock_Clocks_Real x2.1) p1).bind fun x4 => (if x2.2.1.1 = (!(span_Empty x4)) then (if (!x2.2.1.1) = true then (L15_awake).bind fun x6 => some x6 else (clock_Clocks_Apart x2.1 0).bind fun x7 => (if (span_Has x4 x7) = true then (if x2.2.1.2.2 ≤ (clock_Clocks_Real x2.1) then (L15_awake).bind fun x8 => some x8 else some false) else some false)) else some false).bind fun x5 => some x5)) (fun x3 => (L15_awake).bind fun x9 => some x9)
theorem L15_SkewHolds_c (Y : Nat → Prop) (w0 : World) (v1 : Value) (p0 : Int) (p1 : Int) (p2 : List (Int × Int × Int)) (r : Bool) (H : L15_SkewHolds p0 p1 p2 = some r) (h_v1 : Sl w0 (NX []) R73 v1 p2) :
    Calls Try.prog 4 #[.int .i64 p0, .int .i64 p1, v1] w0 fun e w' => e = .returned (.bool r) ∧ Below w0.heap.size w0 w' := by
  refine enter Try.func4 rfl Try.ntmps4 rfl (fun a hF => ?_)
  have hW := Stw.start Y w0
  unfold L15_SkewHolds at H
  refine c_seq ?_
  refine reg_list ?_
  refine ls hF hW rfl ((y_assign hF rfl).q) (fun a w hF hW => ?_)
  refine ls_nil ?_
  refine c_then ?_
  refine c_seq ?_
  refine reg_list ?_
  refine ls hF hW rfl ((y_move hF rfl).q) (fun a w hF hW => ?_)
  refine ls hF hW rfl ((y_move hF rfl).q) (fun a w hF hW => ?_)
  refine ls hF hW rfl ((y_move hF rfl).q) (fun a w hF hW => ?_)
  obtain ⟨x1, h1, H⟩ := bindE H
  rcases x1 with x2 | x3
  ·
    have H := altL H
    refine l_callG (Ml := []) (Zl := []) (M := []) (Z := []) (β := Nat × Value) (rv := fun x => .tuple #[.pointer (some ⟨x.1, 0, none⟩), .agg #[.bool x2.2.1.1, .int .i64 x2.2.1.2.1.1, .int .i64 x2.2.1.2.1.2, .int .i64 x2.2.1.2.2], .bool x2.2.2]) (MM := fun x => [(x.1, [.int .i64 x2.1.1, .int .i64 x2.1.2.1, x.2])]) (ZZ := fun x => [row x.2 80 R80 x2.1.2.2]) hF hW H20 rfl rfl (fun hL => L15_played_c _ w (v1) p0 p1 p2 _ h1 ((rdc_ro h_v1) w hW).nx) (fun x a w hF hW => ?_)
    obtain ⟨b1, v2⟩ := x
    have hW : Stw ⟨Y, [], w0⟩ [(b1, [.int .i64 x2.1.1, .int .i64 x2.1.2.1, v2])] [row v2 80 R80 x2.1.2.2] w := hW
    refine ls hF hW rfl ((y_move hF rfl).q) (fun a w hF hW => ?_)
    refine ls hF hW rfl ((y_extract (v := Value.pointer (some ⟨b1, 0, none⟩)) hF rfl rfl).q) (fun a w hF hW => ?_)
    refine ls hF hW rfl ((y_extract (v := Value.agg #[.bool x2.2.1.1, .int .i64 x2.2.1.2.1.1, .int .i64 x2.2.1.2.1.2, .int .i64 x2.2.1.2.2]) hF rfl rfl).q) (fun a w hF hW => ?_)
    refine ls hF hW rfl ((y_extract (v := Value.bool x2.2.2) hF rfl rfl).q) (fun a w hF hW => ?_)
    refine l_alloc (cs := [.bool false, .int .i64 0, .int .i64 0, .int .i64 0]) hF hW rfl Z30 rfl (fun b2 a w hF hW => ?_)
    refine ls hF hW rfl ((y_assign hF rfl).q) (fun a w hF hW => ?_)
    refine l_store (vs := [.bool x2.2.1.1, .int .i64 x2.2.1.2.1.1, .int .i64 x2.2.1.2.1.2, .int .i64 x2.2.1.2.2]) (M' := [(b2, [.bool x2.2.1.1, .int .i64 x2.2.1.2.1.1, .int .i64 x2.2.1.2.1.2, .int .i64 x2.2.1.2.2]), (b1, [.int .i64 x2.1.1, .int .i64 x2.1.2.1, v2])]) 0 hF hW rfl rfl rfl T30 rfl rfl rfl rfl rfl (fun w hW => ?_)
    refine ls hF hW rfl ((y_assign hF rfl).q) (fun a w hF hW => ?_)
    refine ls_nil ?_
    refine c_then ?_
    refine c_seq ?_
    refine c_seq ?_
    refine reg_list ?_
    refine ls hF hW rfl ((y_move hF rfl).q) (fun a w hF hW => ?_)
    refine ls hF hW rfl ((y_peq_some_nil Try.underlying48 hF rfl rfl).q) (fun a w hF hW => ?_)
    refine ls_nil ?_
    refine c_then ?_
    refine c_cond_f hF rfl ?_
    refine wp_skip ?_
    refine c_then ?_
    refine c_seq ?_
    refine c_seq ?_
    refine reg_list ?_
    refine ls hF hW rfl ((y_move hF rfl).q) (fun a w hF hW => ?_)
    refine ls hF hW rfl ((y_not hF rfl).q) (fun a w hF hW => ?_)
    refine ls_nil ?_
    refine c_then ?_
    refine c_cond hF rfl (fun hb => ?_) (fun hb => ?_)
    ·
      have H := iteT hb H
      rw [hb] at hF
      clear hb
      refine c_seq ?_
      refine reg_list ?_
      refine ls hF hW rfl ((y_assign hF rfl).q) (fun a w hF hW => ?_)
      refine ls_nil ?_
      refine c_then ?_
      refine wp_ret ?_
      refine r_then ?_
      have H := Option.some.inj H
      subst H
      refine post1 (.inl rfl) hF hW rfl (rv_tmp hF rfl) ?_
      exact ⟨rfl, hW.done⟩
    ·
      have H := iteF (by rw [hb]; decide) H
      rw [hb] at hF
      clear hb
      refine wp_skip ?_
      refine c_then ?_
      refine c_seq ?_
      refine reg_ord 6 [] [0, 1, 2, 3, 4, 5] (fun ch a d v w h => by cases d <;> exact h) hW MO (by kernel_rfl) ?_
      refine hm_end ?_
      refine hs hF rfl rfl rfl ((y_load (v := Value.agg #[.bool x2.2.1.1, .int .i64 x2.2.1.2.1.1, .int .i64 x2.2.1.2.1.2, .int .i64 x2.2.1.2.2]) 0 hF rfl rfl T30 rfl).q) (fun a hF => ?_)
      refine hs hF rfl rfl rfl ((y_move hF rfl).q) (fun a hF => ?_)
      refine hs hF rfl rfl rfl (y_call (v := Value.int .i64 (clock_Clocks_Real x2.1)) hF H21 rfl (fun w hW => clock_Clocks_Real_c any w b1 (v2) x2.1 _ rfl (((rdc_row 0 rfl) : Rdc _ _ _ _ _ _) w hW).nx (at_M hW 1 rfl))) (fun a hF => ?_)
      refine hs hF rfl rfl rfl ((y_move hF rfl).q) (fun a hF => ?_)
      obtain ⟨x4, h2, H⟩ := bindE H
      refine hs hF rfl rfl rfl (y_call (v := Value.agg #[.int .i64 x4.1, .int .i64 x4.2]) hF H12 rfl (fun w hW => skew_On_c any w x2.2.1 (clock_Clocks_Real x2.1) p1 _ h2)) (fun a hF => ?_)
      refine ha (cs := [.int .i64 0, .int .i64 0]) hF rfl rfl Z28 rfl (fun b3 a hF => ?_)
      refine h_end (fun w hW => ?_)
      have hW : Stw ⟨Y, [], w0⟩ [(b3, [.int .i64 0, .int .i64 0]), (b2, [.bool x2.2.1.1, .int .i64 x2.2.1.2.1.1, .int .i64 x2.2.1.2.1.2, .int .i64 x2.2.1.2.2]), (b1, [.int .i64 x2.1.1, .int .i64 x2.1.2.1, v2])] [row v2 80 R80 x2.1.2.2] w := hW
      refine l_store (vs := [.int .i64 x4.1, .int .i64 x4.2]) (M' := [(b3, [.int .i64 x4.1, .int .i64 x4.2]), (b2, [.bool x2.2.1.1, .int .i64 x2.2.1.2.1.1, .int .i64 x2.2.1.2.1.2, .int .i64 x2.2.1.2.2]), (b1, [.int .i64 x2.1.1, .int .i64 x2.1.2.1, v2])]) 0 hF hW rfl rfl rfl T28 rfl rfl rfl rfl rfl (fun w hW => ?_)
      refine ls_nil ?_
      refine c_then ?_
      obtain ⟨o1, G1, K1⟩ := bindE H
      refine c_seqJ (fun a w => ∃ x5 : Bool, some (x5) = some o1 ∧ Fr 59 [] [(6, .bool x5)] a ∧ Stw ⟨Y, [], w0⟩ [(b3, [.int .i64 x4.1, .int .i64 x4.2]), (b2, [.bool x2.2.1.1, .int .i64 x2.2.1.2.1.1, .int .i64 x2.2.1.2.1.2, .int .i64 x2.2.1.2.2]), (b1, [.int .i64 x2.1.1, .int .i64 x2.1.2.1, v2])] [row v2 80 R80 x2.1.2.2] w) ?_ ?_
      ·
        have H := G1
        clear G1 K1
        refine reg_quiet hW MO (by kernel_rfl) ?_
        refine qs hF rfl ((y_fieldAddr Try.underlying30 rfl rfl rfl T4 hF rfl 0 rfl).q) (fun a hF => ?_)
        refine qs hF rfl ((y_load (v := Value.bool x2.2.1.1) 1 hF rfl rfl T4 rfl).q) (fun a hF => ?_)
        refine qs hF rfl ((y_load (v := Value.agg #[.int .i64 x4.1, .int .i64 x4.2]) 0 hF rfl rfl T28 rfl).q) (fun a hF => ?_)
        refine qs hF rfl (y_call (v := Value.bool (span_Empty x4)) hF H22 rfl (fun w hW => span_Empty_c any w x4 _ rfl)) (fun a hF => ?_)
        refine qs hF rfl ((y_not hF rfl).q) (fun a hF => ?_)
        refine qs hF rfl ((y_eqb Try.underlying4 hF rfl rfl).q) (fun a hF => ?_)
        refine qs hF rfl ((y_move hF rfl).q) (fun a hF => ?_)
        rcases Bool.eq_false_or_eq_true (decide (x2.2.1.1 = (!(span_Empty x4)))) with hb | hb
        ·
          have H := iteT (of_decide_eq_true hb) H
          rw [hb] at hF
          clear hb
          refine qs_w hF (wanted_y hF rfl rfl rfl rfl) rfl (Nat.le_of_ble_eq_true rfl) ((y_fieldAddr Try.underlying30 rfl rfl rfl T4 hF rfl 0 rfl).q) (fun a hF => ?_)
          refine qs_w hF (wanted_y hF rfl rfl rfl rfl) rfl (Nat.le_of_ble_eq_true rfl) ((y_load (v := Value.bool x2.2.1.1) 1 hF rfl rfl T4 rfl).q) (fun a hF => ?_)
          refine qs_w hF (wanted_y hF rfl rfl rfl rfl) rfl (Nat.le_of_ble_eq_true rfl) ((y_not hF rfl).q) (fun a hF => ?_)
          refine qs_w hF (wanted_y hF rfl rfl rfl rfl) rfl (Nat.le_of_ble_eq_true rfl) ((y_move hF rfl).q) (fun a hF => ?_)
          rcases Bool.eq_false_or_eq_true (!x2.2.1.1) with hb | hb
          ·
            have H := iteT hb H
            rw [hb] at hF
            clear hb
            refine qs_skip hF (wanted_n hF rfl rfl rfl rfl rfl) rfl rfl (fun a hF => ?_)
            refine qs_skip hF (wanted_n hF rfl rfl rfl rfl rfl) rfl rfl (fun a hF => ?_)
            refine qs_skip hF (wanted_n hF rfl rfl rfl rfl rfl) rfl rfl (fun a hF => ?_)
            refine qs_skip hF (wanted_n hF rfl rfl rfl rfl rfl) rfl rfl (fun a hF => ?_)
            refine qs_skip hF (wanted_n hF rfl rfl rfl rfl rfl) rfl rfl (fun a hF => ?_)
            refine qs_skip hF (wanted_undef hF rfl rfl rfl rfl) rfl rfl (fun a hF => ?_)
            refine qs_skip hF (wanted_undef hF rfl rfl rfl rfl) rfl rfl (fun a hF => ?_)
            refine qs_skip hF (wanted_undef hF rfl rfl rfl rfl) rfl rfl (fun a hF => ?_)
            refine qs_skip hF (wanted_undef hF rfl rfl rfl rfl) rfl rfl (fun a hF => ?_)
            refine qs_skip hF (wanted_undef hF rfl rfl rfl rfl) rfl rfl (fun a hF => ?_)
            refine qs_skip hF (wanted_n hF rfl rfl rfl rfl rfl) rfl rfl (fun a hF => ?_)
            refine qs_w hF (wanted_y hF rfl rfl rfl rfl) rfl (Nat.le_of_ble_eq_true rfl) ((y_pick_t hF rfl rfl rfl).q) (fun a hF => ?_)
            refine qs hF rfl ((y_pick_t hF rfl rfl rfl).q) (fun a hF => ?_)
            refine qs hF rfl ((y_move hF rfl).q) (fun a hF => ?_)
            obtain ⟨x6, h3, H⟩ := bindE H
            refine qs_w hF (wanted_y hF rfl rfl rfl rfl) rfl (Nat.le_of_ble_eq_true rfl) (y_call (v := Value.bool x6) hF H7 rfl (fun w hW => L15_awake_c any w _ h3)) (fun a hF => ?_)
            refine qs hF rfl ((y_pick_t hF rfl rfl rfl).q) (fun a hF => ?_)
            refine qs hF rfl ((y_assign hF rfl).q) (fun a hF => ?_)
            refine quiet_end (fun w hW => ?_)
            refine c_then ?_
            have hW := hW.frontM (i := 2) rfl rfl
            have hW := hW.frontM (i := 2) rfl rfl
            have hW := hW.frontM (i := 2) rfl rfl
            exact ⟨_, H, hF.re ⟨rfl, trivial⟩, hW⟩
          ·
            have H := iteF (by rw [hb]; decide) H
            rw [hb] at hF
            clear hb
            refine qs_w hF (wanted_y hF rfl rfl rfl rfl) rfl (Nat.le_of_ble_eq_true rfl) ((y_load (v := Value.agg #[.int .i64 x4.1, .int .i64 x4.2]) 0 hF rfl rfl T28 rfl).q) (fun a hF => ?_)
            refine qs_w hF (wanted_y hF rfl rfl rfl rfl) rfl (Nat.le_of_ble_eq_true rfl) ((y_move hF rfl).q) (fun a hF => ?_)
            obtain ⟨x7, h4, H⟩ := bindE H
            refine qs_w hF (wanted_y hF rfl rfl rfl rfl) rfl (Nat.le_of_ble_eq_true rfl) (y_call (v := Value.int .i64 x7) hF H24 rfl (fun w hW => clock_Clocks_Apart_c any w b1 (v2) x2.1 0 _ h4 (((rdc_row 0 rfl) : Rdc _ _ _ _ _ _) w hW).nx (at_M hW 2 rfl))) (fun a hF => ?_)
            refine qs_w hF (wanted_y hF rfl rfl rfl rfl) rfl (Nat.le_of_ble_eq_true rfl) (y_call (v := Value.bool (span_Has x4 x7)) hF H23 rfl (fun w hW => span_Has_c any w x4 x7 _ rfl)) (fun a hF => ?_)
            refine qs_w hF (wanted_y hF rfl rfl rfl rfl) rfl (Nat.le_of_ble_eq_true rfl) ((y_move hF rfl).q) (fun a hF => ?_)
            rcases Bool.eq_false_or_eq_true (span_Has x4 x7) with hb | hb
            ·
              have H := iteT hb H
              rw [hb] at hF
              clear hb
              refine qs_w hF (wanted_y hF rfl rfl rfl rfl) rfl (Nat.le_of_ble_eq_true rfl) ((y_fieldAddr Try.underlying30 rfl rfl rfl T3 hF rfl 3 rfl).q) (fun a hF => ?_)
              refine qs_w hF (wanted_y hF rfl rfl rfl rfl) rfl (Nat.le_of_ble_eq_true rfl) ((y_load (v := Value.int .i64 x2.2.1.2.2) 1 hF rfl rfl T3 rfl).q) (fun a hF => ?_)
              refine qs_w hF (wanted_y hF rfl rfl rfl rfl) rfl (Nat.le_of_ble_eq_true rfl) ((y_move hF rfl).q) (fun a hF => ?_)
              refine qs_w hF (wanted_y hF rfl rfl rfl rfl) rfl (Nat.le_of_ble_eq_true rfl) (y_call (v := Value.int .i64 (clock_Clocks_Real x2.1)) hF H21 rfl (fun w hW => clock_Clocks_Real_c any w b1 (v2) x2.1 _ rfl (((rdc_row 0 rfl) : Rdc _ _ _ _ _ _) w hW).nx (at_M hW 2 rfl))) (fun a hF => ?_)
              refine qs_w hF (wanted_y hF rfl rfl rfl rfl) rfl (Nat.le_of_ble_eq_true rfl) ((y_leq hF rfl rfl).q) (fun a hF => ?_)
              refine qs_w hF (wanted_y hF rfl rfl rfl rfl) rfl (Nat.le_of_ble_eq_true rfl) ((y_pick_t hF rfl rfl rfl).q) (fun a hF => ?_)
              refine qs_w hF (wanted_y hF rfl rfl rfl rfl) rfl (Nat.le_of_ble_eq_true rfl) ((y_pick_f hF rfl rfl rfl).q) (fun a hF => ?_)
              refine qs hF rfl ((y_pick_t hF rfl rfl rfl).q) (fun a hF => ?_)
              refine qs hF rfl ((y_move hF rfl).q) (fun a hF => ?_)
              rcases Bool.eq_false_or_eq_true (decide (x2.2.1.2.2 ≤ (clock_Clocks_Real x2.1))) with hb | hb
              ·
                have H := iteT (of_decide_eq_true hb) H
                rw [hb] at hF
                clear hb
                obtain ⟨x8, h5, H⟩ := bindE H
                refine qs_w hF (wanted_y hF rfl rfl rfl rfl) rfl (Nat.le_of_ble_eq_true rfl) (y_call (v := Value.bool x8) hF H7 rfl (fun w hW => L15_awake_c any w _ h5)) (fun a hF => ?_)
                refine qs hF rfl ((y_pick_t hF rfl rfl rfl).q) (fun a hF => ?_)
                refine qs hF rfl ((y_assign hF rfl).q) (fun a hF => ?_)
                refine quiet_end (fun w hW => ?_)
                refine c_then ?_
                have hW := hW.frontM (i := 2) rfl rfl
                have hW := hW.frontM (i := 2) rfl rfl
                have hW := hW.frontM (i := 2) rfl rfl
                exact ⟨_, H, hF.re ⟨rfl, trivial⟩, hW⟩
              ·
                have H := iteF (of_decide_eq_false hb) H
                rw [hb] at hF
                clear hb
                refine qs_skip hF (wanted_n hF rfl rfl rfl rfl rfl) rfl rfl (fun a hF => ?_)
                refine qs hF rfl ((y_pick_f hF rfl rfl rfl).q) (fun a hF => ?_)
                refine qs hF rfl ((y_assign hF rfl).q) (fun a hF => ?_)
                refine quiet_end (fun w hW => ?_)
                refine c_then ?_
                have hW := hW.frontM (i := 2) rfl rfl
                have hW := hW.frontM (i := 2) rfl rfl
                have hW := hW.frontM (i := 2) rfl rfl
                exact ⟨_, H, hF.re ⟨rfl, trivial⟩, hW⟩
            ·
              have H := iteF (by rw [hb]; decide) H
              rw [hb] at hF
              clear hb
              refine qs_skip hF (wanted_n hF rfl rfl rfl rfl rfl) rfl rfl (fun a hF => ?_)
              refine qs_skip hF (wanted_n hF rfl rfl rfl rfl rfl) rfl rfl (fun a hF => ?_)
              refine qs_skip hF (wanted_n hF rfl rfl rfl rfl rfl) rfl rfl (fun a hF => ?_)
              refine qs_skip hF (wanted_n hF rfl rfl rfl rfl rfl) rfl rfl (fun a hF => ?_)
              refine qs_skip hF (wanted_n hF rfl rfl rfl rfl rfl) rfl rfl (fun a hF => ?_)
              refine qs_w hF (wanted_y hF rfl rfl rfl rfl) rfl (Nat.le_of_ble_eq_true rfl) ((y_pick_f hF rfl rfl rfl).q) (fun a hF => ?_)
              refine qs_w hF (wanted_y hF rfl rfl rfl rfl) rfl (Nat.le_of_ble_eq_true rfl) ((y_pick_f hF rfl rfl rfl).q) (fun a hF => ?_)
              refine qs hF rfl ((y_pick_t hF rfl rfl rfl).q) (fun a hF => ?_)
              refine qs hF rfl ((y_move hF rfl).q) (fun a hF => ?_)
              refine qs_skip hF (wanted_n hF rfl rfl rfl rfl rfl) rfl rfl (fun a hF => ?_)
              refine qs hF rfl ((y_pick_f hF rfl rfl rfl).q) (fun a hF => ?_)
              refine qs hF rfl ((y_assign hF rfl).q) (fun a hF => ?_)
              refine quiet_end (fun w hW => ?_)
              refine c_then ?_
              have hW := hW.frontM (i := 2) rfl rfl
              have hW := hW.frontM (i := 2) rfl rfl
              have hW := hW.frontM (i := 2) rfl rfl
              exact ⟨_, H, hF.re ⟨rfl, trivial⟩, hW⟩
        ·
          have H := iteF (of_decide_eq_false hb) H
          rw [hb] at hF
          clear hb
          refine qs_skip hF (wanted_n hF rfl rfl rfl rfl rfl) rfl rfl (fun a hF => ?_)
          refine qs_skip hF (wanted_n hF rfl rfl rfl rfl rfl) rfl rfl (fun a hF => ?_)
          refine qs_skip hF (wanted_n hF rfl rfl rfl rfl rfl) rfl rfl (fun a hF => ?_)
          refine qs_skip hF (wanted_n hF rfl rfl rfl rfl rfl) rfl rfl (fun a hF => ?_)
          refine qs_skip hF (wanted_undef hF rfl rfl rfl rfl) rfl rfl (fun a hF => ?_)
          refine qs_skip hF (wanted_undef hF rfl rfl rfl rfl) rfl rfl (fun a hF => ?_)
          refine qs_skip hF (wanted_undef hF rfl rfl rfl rfl) rfl rfl (fun a hF => ?_)
          refine qs_skip hF (wanted_undef hF rfl rfl rfl rfl) rfl rfl (fun a hF => ?_)
          refine qs_skip hF (wanted_undef hF rfl rfl rfl rfl) rfl rfl (fun a hF => ?_)
          refine qs_skip hF (wanted_undef hF rfl rfl rfl rfl) rfl rfl (fun a hF => ?_)
          refine qs_skip hF (wanted_undef hF rfl rfl rfl rfl) rfl rfl (fun a hF => ?_)
          refine qs_skip hF (wanted_undef hF rfl rfl rfl rfl) rfl rfl (fun a hF => ?_)
          refine qs_skip hF (wanted_undef hF rfl rfl rfl rfl) rfl rfl (fun a hF => ?_)
          refine qs_skip hF (wanted_undef hF rfl rfl rfl rfl) rfl rfl (fun a hF => ?_)
          refine qs_skip hF (wanted_undef hF rfl rfl rfl rfl) rfl rfl (fun a hF => ?_)
          refine qs_skip hF (wanted_n hF rfl rfl rfl rfl rfl) rfl rfl (fun a hF => ?_)
          refine qs hF rfl ((y_pick_f hF rfl rfl rfl).q) (fun a hF => ?_)
          refine qs hF rfl ((y_move hF rfl).q) (fun a hF => ?_)
          refine qs_skip hF (wanted_n hF rfl rfl rfl rfl rfl) rfl rfl (fun a hF => ?_)
          refine qs hF rfl ((y_pick_f hF rfl rfl rfl).q) (fun a hF => ?_)
          refine qs hF rfl ((y_assign hF rfl).q) (fun a hF => ?_)
          refine quiet_end (fun w hW => ?_)
          refine c_then ?_
          have hW := hW.frontM (i := 2) rfl rfl
          have hW := hW.frontM (i := 2) rfl rfl
          have hW := hW.frontM (i := 2) rfl rfl
          exact ⟨_, H, hF.re ⟨rfl, trivial⟩, hW⟩
      rintro a w ⟨x5, hj, hF, hW⟩
      have hj := Option.some.inj hj
      subst hj
      have H := K1
      clear G1 K1
      refine wp_ret ?_
      have H := Option.some.inj H
      subst H
      refine post1 (.inl rfl) hF hW rfl (rv_tmp hF rfl) ?_
      exact ⟨rfl, hW.done⟩
  ·
    have H := altR H
    refine l_callG (Ml := []) (Zl := []) (M := []) (Z := []) (β := Unit) (rv := fun x => .tuple #[.pointer none, .agg #[.bool false, .int .i64 0, .int .i64 0, .int .i64 0], .bool true]) (MM := fun x => []) (ZZ := fun x => []) hF hW H20 rfl rfl (fun hL => L15_played_c _ w (v1) p0 p1 p2 _ h1 ((rdc_ro h_v1) w hW).nx) (fun x a w hF hW => ?_)
    have hW : Stw ⟨Y, [], w0⟩ [] [] w := hW
    refine ls hF hW rfl ((y_move hF rfl).q) (fun a w hF hW => ?_)
    refine ls hF hW rfl ((y_extract (v := Value.pointer none) hF rfl rfl).q) (fun a w hF hW => ?_)
    refine ls hF hW rfl ((y_extract (v := Value.agg #[.bool false, .int .i64 0, .int .i64 0, .int .i64 0]) hF rfl rfl).q) (fun a w hF hW => ?_)
    refine ls hF hW rfl ((y_extract (v := Value.bool true) hF rfl rfl).q) (fun a w hF hW => ?_)
    refine l_alloc (cs := [.bool false, .int .i64 0, .int .i64 0, .int .i64 0]) hF hW rfl Z30 rfl (fun b4 a w hF hW => ?_)
    refine ls hF hW rfl ((y_assign hF rfl).q) (fun a w hF hW => ?_)
    refine l_store (vs := [.bool false, .int .i64 0, .int .i64 0, .int .i64 0]) (M' := [(b4, [.bool false, .int .i64 0, .int .i64 0, .int .i64 0])]) 0 hF hW rfl rfl rfl T30 rfl rfl rfl rfl rfl (fun w hW => ?_)
    refine ls hF hW rfl ((y_assign hF rfl).q) (fun a w hF hW => ?_)
    refine ls_nil ?_
    refine c_then ?_
    refine c_seq ?_
    refine c_seq ?_
    refine reg_list ?_
    refine ls hF hW rfl ((y_move hF rfl).q) (fun a w hF hW => ?_)
    refine ls hF hW rfl ((y_peq_nil_nil Try.underlying48 hF rfl rfl).q) (fun a w hF hW => ?_)
    refine ls_nil ?_
    refine c_then ?_
    refine c_cond_t hF rfl ?_
    refine c_seq ?_
    refine reg_list ?_
    refine ls hF hW rfl ((y_move hF rfl).q) (fun a w hF hW => ?_)
    refine ls hF hW rfl ((y_move hF rfl).q) (fun a w hF hW => ?_)
    refine ls_g (wanted_y hF rfl rfl rfl rfl) ?_
    obtain ⟨x9, h6, H⟩ := bindE H
    refine ls hF hW rfl (y_call (v := Value.bool x9) hF H7 rfl (fun w hW => L15_awake_c any w _ h6)) (fun a w hF hW => ?_)
    refine ls hF hW rfl ((y_pick_t hF rfl rfl rfl).q) (fun a w hF hW => ?_)
    refine ls hF hW rfl ((y_assign hF rfl).q) (fun a w hF hW => ?_)
    refine ls_nil ?_
    refine c_then ?_
    refine wp_ret ?_
    refine r_then ?_
    have H := Option.some.inj H
    subst H
    refine post1 (.inl rfl) hF hW rfl (rv_tmp hF rfl) ?_
    exact ⟨rfl, hW.done⟩

end Go.Proofs.Ytlapejeadapiiaa
