/- The functions of layer 10, lifted. Conditions: none. -/
import Derived.Test.YteeioghoidjbpaaDoorA2
namespace Go.Proofs.YteeioghoidjbpaaDoor
open Go Go.RowKit
set_option linter.unusedVariables false
set_option linter.unusedSimpArgs false
set_option maxRecDepth 20000
theorem H15 : Has Tryd.prog 15 := ⟨fun args w => run_callFunc_body Tryd.func15 rfl (by decide) args w⟩
noncomputable def r08_Meet_l2 (p0 : Int × (Int × Int × Int × Int) × (Int × Int × Int × Int)) (p1 : Int × (Int × Int × Int × Int) × (Int × Int × Int × Int)) (x10 : Int) : (Int × Int × Int × Int × Int × Int × Int × Int × Int × Int) → Option ((Int × Int × Int × Int × Int × Int × Int × Int × Int × Int) ⊕ ((Int × Int × Int × Int × Int × Int × Int × Int) ⊕ ((Int × Int × Int × Int × Int × Int × Int × Int × Int) ⊕ ((Int × Int × Int × Int × Int × Int × Int × Int) ⊕ ((Int × (Int × Int × Int × Int) × (Int × Int × Int × Int)) × Bool)))))
  | (x27, x28, x29, x30, x31, x32, x33, x34, x35, x36) => (if x28 < 8 then ((ix ([p1.2.2.1, p1.2.2.2.1, p1.2.2.2.2.1, p1.2.2.2.2.2] : List Int) x10).bind fun x38 => (r08_Bit x38 x28).bind fun x39 => (if x39 = 1 then (ix ([p0.2.2.1, p0.2.2.2.1, p0.2.2.2.2.1, p0.2.2.2.2.2] : List Int) x10).bind fun x40 => (r08_Bit x40 x28).bind fun x41 => (if x41 = 1 then (ix ([p0.2.1.1, p0.2.1.2.1, p0.2.1.2.2.1, p0.2.1.2.2.2] : List Int) x10).bind fun x42 => (r08_Bit x42 x28).bind fun x43 => (ix ([p1.2.1.1, p1.2.1.2.1, p1.2.1.2.2.1, p1.2.1.2.2.2] : List Int) x10).bind fun x44 => (r08_Bit x44 x28).bind fun x45 => some (decide (x43 ≠ x45)) else some false) else some false)).bind fun x37 => (if x37 = true then some (.inr (.inr (.inr (.inr ((0, (0, 0, 0, 0), (0, 0, 0, 0)), false))))) else (((ix ([p1.2.2.1, p1.2.2.2.1, p1.2.2.2.2.1, p1.2.2.2.2.2] : List Int) x10).bind fun x55 => (r08_Bit x55 x28).bind fun x56 => (if x56 = 1 then (ix ([p0.2.2.1, p0.2.2.2.1, p0.2.2.2.2.1, p0.2.2.2.2.2] : List Int) x10).bind fun x57 => (r08_Bit x57 x28).bind fun x58 => some (decide (x58 = 0)) else some false)).bind fun x54 => (if x54 = true then (ix ([x33, x34, x35, x36] : List Int) x10).bind fun x59 => (ix ([x33, x34, x35, x36] : List Int) x10).bind fun x60 => (ix ([x29, x30, x31, x32] : List Int) x10).bind fun x61 => (ix ([p1.2.1.1, p1.2.1.2.1, p1.2.1.2.2.1, p1.2.1.2.2.2] : List Int) x10).bind fun x62 => (r08_Bit x62 x28).bind fun x63 => (ix ([x29, x30, x31, x32] : List Int) x10).bind fun x64 => some ((if x10 = 0 then w64 (x61 + (w64 (x27 * x63))) else x29), (if x10 = 1 then w64 (x61 + (w64 (x27 * x63))) else x30), (if x10 = 2 then w64 (x61 + (w64 (x27 * x63))) else x31), (if x10 = 3 then w64 (x61 + (w64 (x27 * x63))) else x32), (if x10 = 0 then w64 (x59 + x27) else x33), (if x10 = 1 then w64 (x59 + x27) else x34), (if x10 = 2 then w64 (x59 + x27) else x35), (if x10 = 3 then w64 (x59 + x27) else x36)) else some (x29, x30, x31, x32, x33, x34, x35, x36))).bind fun (x46, x47, x48, x49, x50, x51, x52, x53) => some (.inl (w64 (x27 * 2), w64 (x28 + 1), x46, x47, x48, x49, x50, x51, x52, x53))) else some (.inr (.inl (x29, x30, x31, x32, x33, x34, x35, x36))))
noncomputable def r08_Meet_l1 (p0 : Int × (Int × Int × Int × Int) × (Int × Int × Int × Int)) (p1 : Int × (Int × Int × Int × Int) × (Int × Int × Int × Int)) : (Int × Int × Int × Int × Int × Int × Int × Int × Int) → Option ((Int × Int × Int × Int × Int × Int × Int × Int × Int) ⊕ ((Int × Int × Int × Int × Int × Int × Int × Int) ⊕ ((Int × (Int × Int × Int × Int) × (Int × Int × Int × Int)) × Bool)))
  | (x10, x11, x12, x13, x14, x15, x16, x17, x18) => (if x10 < 4 then orR (loopW (r08_Meet_l2 p0 p1 x10) (1, 0, x11, x12, x13, x14, x15, x16, x17, x18)) fun (x19, x20, x21, x22, x23, x24, x25, x26) => some (.inl (w64 (x10 + 1), x19, x20, x21, x22, x23, x24, x25, x26)) else some (.inr (.inl (x11, x12, x13, x14, x15, x16, x17, x18))))
noncomputable def r08_Meet (p0 : Int × (Int × Int × Int × Int) × (Int × Int × Int × Int)) (p1 : Int × (Int × Int × Int × Int) × (Int × Int × Int × Int)) : Option ((Int × (Int × Int × Int × Int) × (Int × Int × Int × Int)) × Bool) := (if p0.1 = (-1) then some p1.1 else some p0.1).bind fun x1 => (if (decide (p1.1 ≠ (-1)) && decide (x1 ≠ p1.1)) = true then some ((0, (0, 0, 0, 0), (0, 0, 0, 0)), false) else orR (loopW (r08_Meet_l1 p0 p1) (0, p0.2.1.1, p0.2.1.2.1, p0.2.1.2.2.1, p0.2.1.2.2.2, p0.2.2.1, p0.2.2.2.1, p0.2.2.2.2.1, p0.2.2.2.2.2)) fun (x2, x3, x4, x5, x6, x7, x8, x9) => some ((x1, (x2, x3, x4, x5), (x6, x7, x8, x9)), true))
theorem r08_Meet_c (Y : Nat → Prop) (w0 : World)  (p0 : Int × (Int × Int × Int × Int) × (Int × Int × Int × Int)) (p1 : Int × (Int × Int × Int × Int) × (Int × Int × Int × Int)) (r : (Int × (Int × Int × Int × Int) × (Int × Int × Int × Int)) × Bool) (H : r08_Meet p0 p1 = some r)  :
    Calls Tryd.prog 39 #[.agg #[.int .i64 p0.1, .int .i64 p0.2.1.1, .int .i64 p0.2.1.2.1, .int .i64 p0.2.1.2.2.1, .int .i64 p0.2.1.2.2.2, .int .i64 p0.2.2.1, .int .i64 p0.2.2.2.1, .int .i64 p0.2.2.2.2.1, .int .i64 p0.2.2.2.2.2], .agg #[.int .i64 p1.1, .int .i64 p1.2.1.1, .int .i64 p1.2.1.2.1, .int .i64 p1.2.1.2.2.1, .int .i64 p1.2.1.2.2.2, .int .i64 p1.2.2.1, .int .i64 p1.2.2.2.1, .int .i64 p1.2.2.2.2.1, .int .i64 p1.2.2.2.2.2]] w0 fun e w' => e = .returned (.tuple #[.agg #[.int .i64 r.1.1, .int .i64 r.1.2.1.1, .int .i64 r.1.2.1.2.1, .int .i64 r.1.2.1.2.2.1, .int .i64 r.1.2.1.2.2.2, .int .i64 r.1.2.2.1, .int .i64 r.1.2.2.2.1, .int .i64 r.1.2.2.2.2.1, .int .i64 r.1.2.2.2.2.2], .bool r.2]) ∧ Below w0.heap.size w0 w' := by
  refine enter Tryd.func39 rfl Tryd.ntmps39 rfl (fun a hF => ?_)
  have hW := Stw.start Y w0
  unfold r08_Meet at H
  refine c_seq ?_
  refine reg_list ?_
  refine l_box (cs := [.int .i64 p0.1, .int .i64 p0.2.1.1, .int .i64 p0.2.1.2.1, .int .i64 p0.2.1.2.2.1, .int .i64 p0.2.1.2.2.2, .int .i64 p0.2.2.1, .int .i64 p0.2.2.2.1, .int .i64 p0.2.2.2.2.1, .int .i64 p0.2.2.2.2.2]) hF hW rfl rfl rfl (fun b1 a w hF hW => ?_)
  refine l_box (cs := [.int .i64 p1.1, .int .i64 p1.2.1.1, .int .i64 p1.2.1.2.1, .int .i64 p1.2.1.2.2.1, .int .i64 p1.2.1.2.2.2, .int .i64 p1.2.2.1, .int .i64 p1.2.2.2.1, .int .i64 p1.2.2.2.2.1, .int .i64 p1.2.2.2.2.2]) hF hW rfl rfl rfl (fun b2 a w hF hW => ?_)
  refine l_alloc (cs := [.int .i64 0, .int .i64 0, .int .i64 0, .int .i64 0, .int .i64 0, .int .i64 0, .int .i64 0, .int .i64 0, .int .i64 0]) hF hW rfl Z24 rfl (fun b3 a w hF hW => ?_)
  refine ls hF hW rfl ((y_assign hF rfl).q) (fun a w hF hW => ?_)
  refine ls_nil ?_
  refine c_then ?_
  refine c_seq ?_
  refine reg_list ?_
  refine ls hF hW rfl ((y_load (v := Value.agg #[.int .i64 p0.1, .int .i64 p0.2.1.1, .int .i64 p0.2.1.2.1, .int .i64 p0.2.1.2.2.1, .int .i64 p0.2.1.2.2.2, .int .i64 p0.2.2.1, .int .i64 p0.2.2.2.1, .int .i64 p0.2.2.2.2.1, .int .i64 p0.2.2.2.2.2]) 2 hF rfl rfl T24 rfl).q) (fun a w hF hW => ?_)
  refine l_alloc (cs := [.int .i64 0, .int .i64 0, .int .i64 0, .int .i64 0, .int .i64 0, .int .i64 0, .int .i64 0, .int .i64 0, .int .i64 0]) hF hW rfl Z24 rfl (fun b4 a w hF hW => ?_)
  refine l_store (vs := [.int .i64 p0.1, .int .i64 p0.2.1.1, .int .i64 p0.2.1.2.1, .int .i64 p0.2.1.2.2.1, .int .i64 p0.2.1.2.2.2, .int .i64 p0.2.2.1, .int .i64 p0.2.2.2.1, .int .i64 p0.2.2.2.2.1, .int .i64 p0.2.2.2.2.2]) (M' := [(b4, [.int .i64 p0.1, .int .i64 p0.2.1.1, .int .i64 p0.2.1.2.1, .int .i64 p0.2.1.2.2.1, .int .i64 p0.2.1.2.2.2, .int .i64 p0.2.2.1, .int .i64 p0.2.2.2.1, .int .i64 p0.2.2.2.2.1, .int .i64 p0.2.2.2.2.2]), (b3, [.int .i64 0, .int .i64 0, .int .i64 0, .int .i64 0, .int .i64 0, .int .i64 0, .int .i64 0, .int .i64 0, .int .i64 0]), (b2, [.int .i64 p1.1, .int .i64 p1.2.1.1, .int .i64 p1.2.1.2.1, .int .i64 p1.2.1.2.2.1, .int .i64 p1.2.1.2.2.2, .int .i64 p1.2.2.1, .int .i64 p1.2.2.2.1, .int .i64 p1.2.2.2.2.1, .int .i64 p1.2.2.2.2.2]), (b1, [.int .i64 p0.1, .int .i64 p0.2.1.1, .int .i64 p0.2.1.2.1, .int .i64 p0.2.1.2.2.1, .int .i64 p0.2.1.2.2.2, .int .i64 p0.2.2.1, .int .i64 p0.2.2.2.1, .int .i64 p0.2.2.2.2.1, .int .i64 p0.2.2.2.2.2])]) 0 hF hW rfl rfl rfl T24 rfl rfl rfl rfl rfl (fun w hW => ?_)
  refine ls_nil ?_
  refine c_then ?_
  obtain ⟨o1, G1, K1⟩ := bindE H
  refine c_seqJ (fun a w => ∃ x1 : Int, some (x1) = some o1 ∧ Fr 112 [] [(2, .pointer (some ⟨b1, 0, none⟩)), (3, .pointer (some ⟨b2, 0, none⟩)), (4, .pointer (some ⟨b3, 0, none⟩)), (5, .bool false), (6, .pointer (some ⟨b4, 0, none⟩))] a ∧ Stw ⟨Y, [], w0⟩ [(b4, [.int .i64 x1, .int .i64 p0.2.1.1, .int .i64 p0.2.1.2.1, .int .i64 p0.2.1.2.2.1, .int .i64 p0.2.1.2.2.2, .int .i64 p0.2.2.1, .int .i64 p0.2.2.2.1, .int .i64 p0.2.2.2.2.1, .int .i64 p0.2.2.2.2.2]), (b3, [.int .i64 0, .int .i64 0, .int .i64 0, .int .i64 0, .int .i64 0, .int .i64 0, .int .i64 0, .int .i64 0, .int .i64 0]), (b2, [.int .i64 p1.1, .int .i64 p1.2.1.1, .int .i64 p1.2.1.2.1, .int .i64 p1.2.1.2.2.1, .int .i64 p1.2.1.2.2.2, .int .i64 p1.2.2.1, .int .i64 p1.2.2.2.1, .int .i64 p1.2.2.2.2.1, .int .i64 p1.2.2.2.2.2]), (b1, [.int .i64 p0.1, .int .i64 p0.2.1.1, .int .i64 p0.2.1.2.1, .int .i64 p0.2.1.2.2.1, .int .i64 p0.2.1.2.2.2, .int .i64 p0.2.2.1, .int .i64 p0.2.2.2.1, .int .i64 p0.2.2.2.2.1, .int .i64 p0.2.2.2.2.2])] [] w) ?_ ?_
  ·
    have H := G1
    clear G1 K1
    refine c_seq ?_
    refine reg_list ?_
    refine ls hF hW rfl ((y_fieldAddr Tryd.underlying24 rfl rfl rfl T3 hF rfl 0 rfl).q) (fun a w hF hW => ?_)
    refine ls hF hW rfl ((y_load (v := Value.int .i64 p0.1) 3 hF rfl rfl T3 rfl).q) (fun a w hF hW => ?_)
    refine ls hF hW rfl ((y_eql hF rfl rfl).q) (fun a w hF hW => ?_)
    refine ls_nil ?_
    refine c_then ?_
    refine c_cond hF rfl (fun hb => ?_) (fun hb => ?_)
    ·
      have H := iteT (of_decide_eq_true hb) H
      rw [hb] at hF
      clear hb
      refine reg_list ?_
      refine ls hF hW rfl ((y_fieldAddr Tryd.underlying24 rfl rfl rfl T3 hF rfl 0 rfl).q) (fun a w hF hW => ?_)
      refine ls hF hW rfl ((y_load (v := Value.int .i64 p1.1) 2 hF rfl rfl T3 rfl).q) (fun a w hF hW => ?_)
      refine ls hF hW rfl ((y_fieldAddr Tryd.underlying24 rfl rfl rfl T3 hF rfl 0 rfl).q) (fun a w hF hW => ?_)
      refine l_store (vs := [.int .i64 p1.1]) (M' := [(b4, [.int .i64 p1.1, .int .i64 p0.2.1.1, .int .i64 p0.2.1.2.1, .int .i64 p0.2.1.2.2.1, .int .i64 p0.2.1.2.2.2, .int .i64 p0.2.2.1, .int .i64 p0.2.2.2.1, .int .i64 p0.2.2.2.2.1, .int .i64 p0.2.2.2.2.2]), (b3, [.int .i64 0, .int .i64 0, .int .i64 0, .int .i64 0, .int .i64 0, .int .i64 0, .int .i64 0, .int .i64 0, .int .i64 0]), (b2, [.int .i64 p1.1, .int .i64 p1.2.1.1, .int .i64 p1.2.1.2.1, .int .i64 p1.2.1.2.2.1, .int .i64 p1.2.1.2.2.2, .int .i64 p1.2.2.1, .int .i64 p1.2.2.2.1, .int .i64 p1.2.2.2.2.1, .int .i64 p1.2.2.2.2.2]), (b1, [.int .i64 p0.1, .int .i64 p0.2.1.1, .int .i64 p0.2.1.2.1, .int .i64 p0.2.1.2.2.1, .int .i64 p0.2.1.2.2.2, .int .i64 p0.2.2.1, .int .i64 p0.2.2.2.1, .int .i64 p0.2.2.2.2.1, .int .i64 p0.2.2.2.2.2])]) 0 hF hW rfl rfl rfl T3 rfl rfl rfl rfl rfl (fun w hW => ?_)
      refine ls_nil ?_
      refine c_then ?_
      have hW := hW.frontM (i := 3) rfl rfl
      have hW := hW.frontM (i := 3) rfl rfl
      have hW := hW.frontM (i := 3) rfl rfl
      have hW := hW.frontM (i := 3) rfl rfl
      exact ⟨_, H, hF.re ⟨rfl, rfl, rfl, rfl, rfl, trivial⟩, hW⟩
    ·
      have H := iteF (of_decide_eq_false hb) H
      rw [hb] at hF
      clear hb
      refine wp_skip ?_
      refine c_then ?_
      have hW := hW.frontM (i := 3) rfl rfl
      have hW := hW.frontM (i := 3) rfl rfl
      have hW := hW.frontM (i := 3) rfl rfl
      have hW := hW.frontM (i := 3) rfl rfl
      exact ⟨_, H, hF.re ⟨rfl, rfl, rfl, rfl, rfl, trivial⟩, hW⟩
  rintro a w ⟨x1, hj, hF, hW⟩
  have hj := Option.some.inj hj
  subst hj
  have H := K1
  clear G1 K1
  refine c_seq ?_
  refine c_seqJ (fun a w => Fr 112 [] [(2, .pointer (some ⟨b1, 0, none⟩)), (3, .pointer (some ⟨b2, 0, none⟩)), (4, .pointer (some ⟨b3, 0, none⟩)), (5, .bool false), (6, .pointer (some ⟨b4, 0, none⟩)), (26, .bool (decide (p1.1 ≠ (-1)) && decide (x1 ≠ p1.1)))] a ∧ Stw ⟨Y, [], w0⟩ [(b4, [.int .i64 x1, .int .i64 p0.2.1.1, .int .i64 p0.2.1.2.1, .int .i64 p0.2.1.2.2.1, .int .i64 p0.2.1.2.2.2, .int .i64 p0.2.2.1, .int .i64 p0.2.2.2.1, .int .i64 p0.2.2.2.2.1, .int .i64 p0.2.2.2.2.2]), (b3, [.int .i64 0, .int .i64 0, .int .i64 0, .int .i64 0, .int .i64 0, .int .i64 0, .int .i64 0, .int .i64 0, .int .i64 0]), (b2, [.int .i64 p1.1, .int .i64 p1.2.1.1, .int .i64 p1.2.1.2.1, .int .i64 p1.2.1.2.2.1, .int .i64 p1.2.1.2.2.2, .int .i64 p1.2.2.1, .int .i64 p1.2.2.2.1, .int .i64 p1.2.2.2.2.1, .int .i64 p1.2.2.2.2.2]), (b1, [.int .i64 p0.1, .int .i64 p0.2.1.1, .int .i64 p0.2.1.2.1, .int .i64 p0.2.1.2.2.1, .int .i64 p0.2.1.2.2.2, .int .i64 p0.2.2.1, .int .i64 p0.2.2.2.1, .int .i64 p0.2.2.2.2.1, .int .i64 p0.2.2.2.2.2])] [] w) ?_ ?_
  ·
    refine reg_list ?_
    refine ls hF hW rfl ((y_fieldAddr Tryd.underlying24 rfl rfl rfl T3 hF rfl 0 rfl).q) (fun a w hF hW => ?_)
    refine ls hF hW rfl ((y_load (v := Value.int .i64 p1.1) 2 hF rfl rfl T3 rfl).q) (fun a w hF hW => ?_)
    refine ls hF hW rfl ((y_neq hF rfl rfl).q) (fun a w hF hW => ?_)
    refine ls hF hW rfl ((y_move hF rfl).q) (fun a w hF hW => ?_)
    rcases Bool.eq_false_or_eq_true (decide (p1.1 ≠ (-1))) with hb0 | hb0
    ·
      rw [hb0] at hF
      refine ls_w hF hW (wanted_y hF rfl rfl rfl rfl) rfl (Nat.le_of_ble_eq_true rfl) ((y_fieldAddr Tryd.underlying24 rfl rfl rfl T3 hF rfl 0 rfl).q) (fun a w hF hW => ?_)
      refine ls_w hF hW (wanted_y hF rfl rfl rfl rfl) rfl (Nat.le_of_ble_eq_true rfl) ((y_load (v := Value.int .i64 x1) 0 hF rfl rfl T3 rfl).q) (fun a w hF hW => ?_)
      refine ls_w hF hW (wanted_y hF rfl rfl rfl rfl) rfl (Nat.le_of_ble_eq_true rfl) ((y_fieldAddr Tryd.underlying24 rfl rfl rfl T3 hF rfl 0 rfl).q) (fun a w hF hW => ?_)
      refine ls_w hF hW (wanted_y hF rfl rfl rfl rfl) rfl (Nat.le_of_ble_eq_true rfl) ((y_load (v := Value.int .i64 p1.1) 2 hF rfl rfl T3 rfl).q) (fun a w hF hW => ?_)
      refine ls_w hF hW (wanted_y hF rfl rfl rfl rfl) rfl (Nat.le_of_ble_eq_true rfl) ((y_neq hF rfl rfl).q) (fun a w hF hW => ?_)
      refine ls hF hW rfl ((y_pick_t hF rfl rfl rfl).q) (fun a w hF hW => ?_)
      refine ls_nil ?_
      refine c_then ?_
      exact ⟨hF.re ⟨rfl, rfl, rfl, rfl, rfl, (by show some (Value.bool (decide (x1 ≠ p1.1))) = some (Value.bool (decide (p1.1 ≠ (-1)) && decide (x1 ≠ p1.1))); try rw [hb0]; all_goals simp only [Bool.not_true, Bool.not_false, Bool.true_and, Bool.false_and, Bool.true_or, Bool.false_or, Bool.and_true, Bool.or_false, cond_true, cond_false]), trivial⟩, hW⟩
    ·
      rw [hb0] at hF
      refine ls_skip hF (wanted_n hF rfl rfl rfl rfl rfl) rfl rfl (fun a hF => ?_)
      refine ls_skip hF (wanted_n hF rfl rfl rfl rfl rfl) rfl rfl (fun a hF => ?_)
      refine ls_skip hF (wanted_n hF rfl rfl rfl rfl rfl) rfl rfl (fun a hF => ?_)
      refine ls_skip hF (wanted_n hF rfl rfl rfl rfl rfl) rfl rfl (fun a hF => ?_)
      refine ls_skip hF (wanted_n hF rfl rfl rfl rfl rfl) rfl rfl (fun a hF => ?_)
      refine ls hF hW rfl ((y_pick_f hF rfl rfl rfl).q) (fun a w hF hW => ?_)
      refine ls_nil ?_
      refine c_then ?_
      exact ⟨hF.re ⟨rfl, rfl, rfl, rfl, rfl, (by show some (Value.bool false) = some (Value.bool (decide (p1.1 ≠ (-1)) && decide (x1 ≠ p1.1))); try rw [hb0]; all_goals simp only [Bool.not_true, Bool.not_false, Bool.true_and, Bool.false_and, Bool.true_or, Bool.false_or, Bool.and_true, Bool.or_false, cond_true, cond_false]), trivial⟩, hW⟩
  rintro a w ⟨hF, hW⟩
  refine c_cond hF rfl (fun hb => ?_) (fun hb => ?_)
  ·
    have H := iteT hb H
    rw [hb] at hF
    clear hb
    refine c_seq ?_
    refine reg_list ?_
    refine ls hF hW rfl ((y_build (v := Value.agg #[.int .i64 0, .int .i64 0, .int .i64 0, .int .i64 0, .int .i64 0, .int .i64 0, .int .i64 0, .int .i64 0, .int .i64 0]) B24 hF rfl rfl rfl).q) (fun a w hF hW => ?_)
    refine l_store (vs := [.int .i64 0, .int .i64 0, .int .i64 0, .int .i64 0, .int .i64 0, .int .i64 0, .int .i64 0, .int .i64 0, .int .i64 0]) (M' := [(b4, [.int .i64 x1, .int .i64 p0.2.1.1, .int .i64 p0.2.1.2.1, .int .i64 p0.2.1.2.2.1, .int .i64 p0.2.1.2.2.2, .int .i64 p0.2.2.1, .int .i64 p0.2.2.2.1, .int .i64 p0.2.2.2.2.1, .int .i64 p0.2.2.2.2.2]), (b3, [.int .i64 0, .int .i64 0, .int .i64 0, .int .i64 0, .int .i64 0, .int .i64 0, .int .i64 0, .int .i64 0, .int .i64 0]), (b2, [.int .i64 p1.1, .int .i64 p1.2.1.1, .int .i64 p1.2.1.2.1, .int .i64 p1.2.1.2.2.1, .int .i64 p1.2.1.2.2.2, .int .i64 p1.2.2.1, .int .i64 p1.2.2.2.1, .int .i64 p1.2.2.2.2.1, .int .i64 p1.2.2.2.2.2]), (b1, [.int .i64 p0.1, .int .i64 p0.2.1.1, .int .i64 p0.2.1.2.1, .int .i64 p0.2.1.2.2.1, .int .i64 p0.2.1.2.2.2, .int .i64 p0.2.2.1, .int .i64 p0.2.2.2.1, .int .i64 p0.2.2.2.2.1, .int .i64 p0.2.2.2.2.2])]) 1 hF hW rfl rfl rfl T24 rfl rfl rfl rfl rfl (fun w hW => ?_)
    refine ls hF hW rfl ((y_assign hF rfl).q) (fun a w hF hW => ?_)
    refine ls_nil ?_
    refine c_then ?_
    refine wp_ret ?_
    refine r_then ?_
    have H := Option.some.inj H
    subst H
    refine post2 (.inl rfl) hF hW rfl (rv_cell 1 hF rfl rfl T24 rfl) (rv_tmp hF rfl) ?_
    exact ⟨rfl, hW.done⟩
  ·
    have H := iteF (by rw [hb]; decide) H
    rw [hb] at hF
    clear hb
    refine wp_skip ?_
    refine c_then ?_
    obtain ⟨o2, G2, K2, L2⟩ := orE H
    refine c_seqJ (fun a w => ∃ x2 : Int, ∃ x3 : Int, ∃ x4 : Int, ∃ x5 : Int, ∃ x6 : Int, ∃ x7 : Int, ∃ x8 : Int, ∃ x9 : Int, some (Sum.inl (x2, x3, x4, x5, x6, x7, x8, x9)) = some o2 ∧ Fr 112 [] [(4, .pointer (some ⟨b3, 0, none⟩)), (5, .bool false), (6, .pointer (some ⟨b4, 0, none⟩))] a ∧ Stw ⟨Y, [], w0⟩ [(b4, [.int .i64 x1, .int .i64 x2, .int .i64 x3, .int .i64 x4, .int .i64 x5, .int .i64 x6, .int .i64 x7, .int .i64 x8, .int .i64 x9]), (b3, [.int .i64 0, .int .i64 0, .int .i64 0, .int .i64 0, .int .i64 0, .int .i64 0, .int .i64 0, .int .i64 0, .int .i64 0]), (b2, [.int .i64 p1.1, .int .i64 p1.2.1.1, .int .i64 p1.2.1.2.1, .int .i64 p1.2.1.2.2.1, .int .i64 p1.2.1.2.2.2, .int .i64 p1.2.2.1, .int .i64 p1.2.2.2.1, .int .i64 p1.2.2.2.2.1, .int .i64 p1.2.2.2.2.2]), (b1, [.int .i64 p0.1, .int .i64 p0.2.1.1, .int .i64 p0.2.1.2.1, .int .i64 p0.2.1.2.2.1, .int .i64 p0.2.1.2.2.2, .int .i64 p0.2.2.1, .int .i64 p0.2.2.2.1, .int .i64 p0.2.2.2.2.1, .int .i64 p0.2.2.2.2.2])] [] w) ?_ ?_
    ·
      have H := G2
      clear G2 K2
      refine c_seq ?_
      refine reg_list ?_
      refine ls hF hW rfl ((y_assign hF rfl).q) (fun a w hF hW => ?_)
      refine ls_nil ?_
      refine c_then ?_
      refine wp_block ?_
      have hW := hW.frontM (i := 3) rfl rfl
      have hW := hW.frontM (i := 3) rfl rfl
      have hW := hW.frontM (i := 3) rfl rfl
      have hW := hW.frontM (i := 3) rfl rfl
      refine c_loopW H (fun s a w => Fr 112 [] [(2, .pointer (some ⟨b1, 0, none⟩)), (3, .pointer (some ⟨b2, 0, none⟩)), (4, .pointer (some ⟨b3, 0, none⟩)), (5, .bool false), (6, .pointer (some ⟨b4, 0, none⟩)), (7, .int .i64 s.1)] a ∧ Stw ⟨Y, [], w0⟩ [(b4, [.int .i64 x1, .int .i64 s.2.1, .int .i64 s.2.2.1, .int .i64 s.2.2.2.1, .int .i64 s.2.2.2.2.1, .int .i64 s.2.2.2.2.2.1, .int .i64 s.2.2.2.2.2.2.1, .int .i64 s.2.2.2.2.2.2.2.1, .int .i64 s.2.2.2.2.2.2.2.2]), (b3, [.int .i64 0, .int .i64 0, .int .i64 0, .int .i64 0, .int .i64 0, .int .i64 0, .int .i64 0, .int .i64 0, .int .i64 0]), (b2, [.int .i64 p1.1, .int .i64 p1.2.1.1, .int .i64 p1.2.1.2.1, .int .i64 p1.2.1.2.2.1, .int .i64 p1.2.1.2.2.2, .int .i64 p1.2.2.1, .int .i64 p1.2.2.2.1, .int .i64 p1.2.2.2.2.1, .int .i64 p1.2.2.2.2.2]), (b1, [.int .i64 p0.1, .int .i64 p0.2.1.1, .int .i64 p0.2.1.2.1, .int .i64 p0.2.1.2.2.1, .int .i64 p0.2.1.2.2.2, .int .i64 p0.2.2.1, .int .i64 p0.2.2.2.1, .int .i64 p0.2.2.2.2.1, .int .i64 p0.2.2.2.2.2])] [] w) ⟨hF.re ⟨rfl, rfl, rfl, rfl, rfl, rfl, trivial⟩, hW⟩ (fun s o a w H L3 hR => ?_)
      obtain ⟨x10, x11, x12, x13, x14, x15, x16, x17, x18⟩ := s
      obtain ⟨hF, hW⟩ := hR
      have hF : Fr 112 [] [(2, .pointer (some ⟨b1, 0, none⟩)), (3, .pointer (some ⟨b2, 0, none⟩)), (4, .pointer (some ⟨b3, 0, none⟩)), (5, .bool false), (6, .pointer (some ⟨b4, 0, none⟩)), (7, .int .i64 x10)] a := hF
      have hW : Stw ⟨Y, [], w0⟩ [(b4, [.int .i64 x1, .int .i64 x11, .int .i64 x12, .int .i64 x13, .int .i64 x14, .int .i64 x15, .int .i64 x16, .int .i64 x17, .int .i64 x18]), (b3, [.int .i64 0, .int .i64 0, .int .i64 0, .int .i64 0, .int .i64 0, .int .i64 0, .int .i64 0, .int .i64 0, .int .i64 0]), (b2, [.int .i64 p1.1, .int .i64 p1.2.1.1, .int .i64 p1.2.1.2.1, .int .i64 p1.2.1.2.2.1, .int .i64 p1.2.1.2.2.2, .int .i64 p1.2.2.1, .int .i64 p1.2.2.2.1, .int .i64 p1.2.2.2.2.1, .int .i64 p1.2.2.2.2.2]), (b1, [.int .i64 p0.1, .int .i64 p0.2.1.1, .int .i64 p0.2.1.2.1, .int .i64 p0.2.1.2.2.1, .int .i64 p0.2.1.2.2.2, .int .i64 p0.2.2.1, .int .i64 p0.2.2.2.1, .int .i64 p0.2.2.2.2.1, .int .i64 p0.2.2.2.2.2])] [] w := hW
      rw [r08_Meet_l1] at H
      refine c_seq ?_
      refine c_seq ?_
      refine reg_list ?_
      refine ls hF hW rfl ((y_move hF rfl).q) (fun a w hF hW => ?_)
      refine ls hF hW rfl ((y_lss hF rfl rfl).q) (fun a w hF hW => ?_)
      refine ls_nil ?_
      refine c_then ?_
      refine c_cond hF rfl (fun hb => ?_) (fun hb => ?_)
      ·
        have H := iteT (of_decide_eq_true hb) H
        rw [hb] at hF
        clear hb
        refine wp_skip ?_
        refine c_then ?_
        obtain ⟨o4, G4, K4, L4⟩ := orE H
        refine c_seqJ (fun a w => ∃ x19 : Int, ∃ x20 : Int, ∃ x21 : Int, ∃ x22 : Int, ∃ x23 : Int, ∃ x24 : Int, ∃ x25 : Int, ∃ x26 : Int, some (Sum.inl (x19, x20, x21, x22, x23, x24, x25, x26)) = some o4 ∧ Fr 112 [] [(2, .pointer (some ⟨b1, 0, none⟩)), (3, .pointer (some ⟨b2, 0, none⟩)), (4, .pointer (some ⟨b3, 0, none⟩)), (5, .bool false), (6, .pointer (some ⟨b4, 0, none⟩)), (7, .int .i64 x10)] a ∧ Stw ⟨Y, [], w0⟩ [(b4, [.int .i64 x1, .int .i64 x19, .int .i64 x20, .int .i64 x21, .int .i64 x22, .int .i64 x23, .int .i64 x24, .int .i64 x25, .int .i64 x26]), (b3, [.int .i64 0, .int .i64 0, .int .i64 0, .int .i64 0, .int .i64 0, .int .i64 0, .int .i64 0, .int .i64 0, .int .i64 0]), (b2, [.int .i64 p1.1, .int .i64 p1.2.1.1, .int .i64 p1.2.1.2.1, .int .i64 p1.2.1.2.2.1, .int .i64 p1.2.1.2.2.2, .int .i64 p1.2.2.1, .int .i64 p1.2.2.2.1, .int .i64 p1.2.2.2.2.1, .int .i64 p1.2.2.2.2.2]), (b1, [.int .i64 p0.1, .int .i64 p0.2.1.1, .int .i64 p0.2.1.2.1, .int .i64 p0.2.1.2.2.1, .int .i64 p0.2.1.2.2.2, .int .i64 p0.2.2.1, .int .i64 p0.2.2.2.1, .int .i64 p0.2.2.2.2.1, .int .i64 p0.2.2.2.2.2])] [] w) ?_ ?_
        ·
          have H := G4
          clear G4 K4
          refine wp_block ?_
          refine c_seq ?_
          refine reg_list ?_
          refine ls hF hW rfl ((y_assign hF rfl).q) (fun a w hF hW => ?_)
          refine ls_nil ?_
          refine c_then ?_
          refine c_seq ?_
          refine reg_list ?_
          refine ls hF hW rfl ((y_assign hF rfl).q) (fun a w hF hW => ?_)
          refine ls_nil ?_
          refine c_then ?_
          refine wp_block ?_
          have hW := hW.frontM (i := 3) rfl rfl
          have hW := hW.frontM (i := 3) rfl rfl
          have hW := hW.frontM (i := 3) rfl rfl
          have hW := hW.frontM (i := 3) rfl rfl
          refine c_loopW H (fun s a w => Fr 112 [] [(2, .pointer (some ⟨b1, 0, none⟩)), (3, .pointer (some ⟨b2, 0, none⟩)), (4, .pointer (some ⟨b3, 0, none⟩)), (5, .bool false), (6, .pointer (some ⟨b4, 0, none⟩)), (7, .int .i64 x10), (8, .int .i64 s.1), (9, .int .i64 s.2.1)] a ∧ Stw ⟨Y, [], w0⟩ [(b4, [.int .i64 x1, .int .i64 s.2.2.1, .int .i64 s.2.2.2.1, .int .i64 s.2.2.2.2.1, .int .i64 s.2.2.2.2.2.1, .int .i64 s.2.2.2.2.2.2.1, .int .i64 s.2.2.2.2.2.2.2.1, .int .i64 s.2.2.2.2.2.2.2.2.1, .int .i64 s.2.2.2.2.2.2.2.2.2]), (b3, [.int .i64 0, .int .i64 0, .int .i64 0, .int .i64 0, .int .i64 0, .int .i64 0, .int .i64 0, .int .i64 0, .int .i64 0]), (b2, [.int .i64 p1.1, .int .i64 p1.2.1.1, .int .i64 p1.2.1.2.1, .int .i64 p1.2.1.2.2.1, .int .i64 p1.2.1.2.2.2, .int .i64 p1.2.2.1, .int .i64 p1.2.2.2.1, .int .i64 p1.2.2.2.2.1, .int .i64 p1.2.2.2.2.2]), (b1, [.int .i64 p0.1, .int .i64 p0.2.1.1, .int .i64 p0.2.1.2.1, .int .i64 p0.2.1.2.2.1, .int .i64 p0.2.1.2.2.2, .int .i64 p0.2.2.1, .int .i64 p0.2.2.2.1, .int .i64 p0.2.2.2.2.1, .int .i64 p0.2.2.2.2.2])] [] w) ⟨hF.re ⟨rfl, rfl, rfl, rfl, rfl, rfl, rfl, rfl, trivial⟩, hW⟩ (fun s o a w H L5 hR => ?_)
          obtain ⟨x27, x28, x29, x30, x31, x32, x33, x34, x35, x36⟩ := s
          obtain ⟨hF, hW⟩ := hR
          have hF : Fr 112 [] [(2, .pointer (some ⟨b1, 0, none⟩)), (3, .pointer (some ⟨b2, 0, none⟩)), (4, .pointer (some ⟨b3, 0, none⟩)), (5, .bool false), (6, .pointer (some ⟨b4, 0, none⟩)), (7, .int .i64 x10), (8, .int .i64 x27), (9, .int .i64 x28)] a := hF
          have hW : Stw ⟨Y, [], w0⟩ [(b4, [.int .i64 x1, .int .i64 x29, .int .i64 x30, .int .i64 x31, .int .i64 x32, .int .i64 x33, .int .i64 x34, .int .i64 x35, .int .i64 x36]), (b3, [.int .i64 0, .int .i64 0, .int .i64 0, .int .i64 0, .int .i64 0, .int .i64 0, .int .i64 0, .int .i64 0, .int .i64 0]), (b2, [.int .i64 p1.1, .int .i64 p1.2.1.1, .int .i64 p1.2.1.2.1, .int .i64 p1.2.1.2.2.1, .int .i64 p1.2.1.2.2.2, .int .i64 p1.2.2.1, .int .i64 p1.2.2.2.1, .int .i64 p1.2.2.2.2.1, .int .i64 p1.2.2.2.2.2]), (b1, [.int .i64 p0.1, .int .i64 p0.2.1.1, .int .i64 p0.2.1.2.1, .int .i64 p0.2.1.2.2.1, .int .i64 p0.2.1.2.2.2, .int .i64 p0.2.2.1, .int .i64 p0.2.2.2.1, .int .i64 p0.2.2.2.2.1, .int .i64 p0.2.2.2.2.2])] [] w := hW
          rw [r08_Meet_l2] at H
          refine c_seq ?_
          refine c_seq ?_
          refine reg_list ?_
          refine ls hF hW rfl ((y_move hF rfl).q) (fun a w hF hW => ?_)
          refine ls hF hW rfl ((y_lss hF rfl rfl).q) (fun a w hF hW => ?_)
          refine ls_nil ?_
          refine c_then ?_
          refine c_cond hF rfl (fun hb => ?_) (fun hb => ?_)
          ·
            have H := iteT (of_decide_eq_true hb) H
            rw [hb] at hF
            clear hb
            refine wp_skip ?_
            refine c_then ?_
            refine c_seq ?_
            refine wp_block ?_
            refine c_seq ?_
            obtain ⟨o6, G6, K6⟩ := bindE H
            refine c_seqJ (fun a w => ∃ x37 : Bool, some (x37) = some o6 ∧ Fr 112 [] [(2, .pointer (some ⟨b1, 0, none⟩)), (3, .pointer (some ⟨b2, 0, none⟩)), (4, .pointer (some ⟨b3, 0, none⟩)), (5, .bool false), (6, .pointer (some ⟨b4, 0, none⟩)), (7, .int .i64 x10), (8, .int .i64 x27), (9, .int .i64 x28), (66, .bool x37)] a ∧ Stw ⟨Y, [], w0⟩ [(b4, [.int .i64 x1, .int .i64 x29, .int .i64 x30, .int .i64 x31, .int .i64 x32, .int .i64 x33, .int .i64 x34, .int .i64 x35, .int .i64 x36]), (b3, [.int .i64 0, .int .i64 0, .int .i64 0, .int .i64 0, .int .i64 0, .int .i64 0, .int .i64 0, .int .i64 0, .int .i64 0]), (b2, [.int .i64 p1.1, .int .i64 p1.2.1.1, .int .i64 p1.2.1.2.1, .int .i64 p1.2.1.2.2.1, .int .i64 p1.2.1.2.2.2, .int .i64 p1.2.2.1, .int .i64 p1.2.2.2.1, .int .i64 p1.2.2.2.2.1, .int .i64 p1.2.2.2.2.2]), (b1, [.int .i64 p0.1, .int .i64 p0.2.1.1, .int .i64 p0.2.1.2.1, .int .i64 p0.2.1.2.2.1, .int .i64 p0.2.1.2.2.2, .int .i64 p0.2.2.1, .int .i64 p0.2.2.2.1, .int .i64 p0.2.2.2.2.1, .int .i64 p0.2.2.2.2.2])] [] w) ?_ ?_
            ·
              have H := G6
              clear G6 K6
              refine reg_quiet hW MO (by kernel_rfl) ?_
              refine qs hF rfl ((y_move hF rfl).q) (fun a hF => ?_)
              refine qs hF rfl ((y_fieldAddr Tryd.underlying24 rfl rfl rfl T22 hF rfl 5 rfl).q) (fun a hF => ?_)
              obtain ⟨x38, h1, H⟩ := bindE H
              refine qs hF rfl ((y_indexP (5 + (x10).toNat * 1) Ar22 hF rfl rfl rfl h1 rfl).q) (fun a hF => ?_)
              refine qs hF rfl ((y_load (v := Value.int .i64 x38) 2 hF rfl rfl T3 (rdv_dyn (base := 5) (m := 4) (l := [p1.2.2.1, p1.2.2.2.1, p1.2.2.2.2.1, p1.2.2.2.2.2]) (enc := Value.int .i64) rfl h1)).q) (fun a hF => ?_)
              refine qs hF rfl ((y_move hF rfl).q) (fun a hF => ?_)
              obtain ⟨x39, h2, H⟩ := bindE H
              refine qs hF rfl (y_call (v := Value.int .i64 x39) hF H65 rfl (fun w hW => r08_Bit_c any w x38 x28 _ h2)) (fun a hF => ?_)
              refine qs hF rfl ((y_eql hF rfl rfl).q) (fun a hF => ?_)
              refine qs hF rfl ((y_move hF rfl).q) (fun a hF => ?_)
              rcases Bool.eq_false_or_eq_true (decide (x39 = 1)) with hb | hb
              ·
                have H := iteT (of_decide_eq_true hb) H
                rw [hb] at hF
                clear hb
                refine qs_w hF (wanted_y hF rfl rfl rfl rfl) rfl (Nat.le_of_ble_eq_true rfl) ((y_move hF rfl).q) (fun a hF => ?_)
                refine qs_w hF (wanted_y hF rfl rfl rfl rfl) rfl (Nat.le_of_ble_eq_true rfl) ((y_fieldAddr Tryd.underlying24 rfl rfl rfl T22 hF rfl 5 rfl).q) (fun a hF => ?_)
                obtain ⟨x40, h3, H⟩ := bindE H
                refine qs_w hF (wanted_y hF rfl rfl rfl rfl) rfl (Nat.le_of_ble_eq_true rfl) ((y_indexP (5 + (x10).toNat * 1) Ar22 hF rfl rfl rfl h3 rfl).q) (fun a hF => ?_)
                refine qs_w hF (wanted_y hF rfl rfl rfl rfl) rfl (Nat.le_of_ble_eq_true rfl) ((y_load (v := Value.int .i64 x40) 3 hF rfl rfl T3 (rdv_dyn (base := 5) (m := 4) (l := [p0.2.2.1, p0.2.2.2.1, p0.2.2.2.2.1, p0.2.2.2.2.2]) (enc := Value.int .i64) rfl h3)).q) (fun a hF => ?_)
                refine qs_w hF (wanted_y hF rfl rfl rfl rfl) rfl (Nat.le_of_ble_eq_true rfl) ((y_move hF rfl).q) (fun a hF => ?_)
                obtain ⟨x41, h4, H⟩ := bindE H
                refine qs_w hF (wanted_y hF rfl rfl rfl rfl) rfl (Nat.le_of_ble_eq_true rfl) (y_call (v := Value.int .i64 x41) hF H65 rfl (fun w hW => r08_Bit_c any w x40 x28 _ h4)) (fun a hF => ?_)
                refine qs_w hF (wanted_y hF rfl rfl rfl rfl) rfl (Nat.le_of_ble_eq_true rfl) ((y_eql hF rfl rfl).q) (fun a hF => ?_)
                refine qs hF rfl ((y_pick_t hF rfl rfl rfl).q) (fun a hF => ?_)
                refine qs hF rfl ((y_move hF rfl).q) (fun a hF => ?_)
                rcases Bool.eq_false_or_eq_true (decide (x41 = 1)) with hb | hb
                ·
                  have H := iteT (of_decide_eq_true hb) H
                  rw [hb] at hF
                  clear hb
                  refine qs_w hF (wanted_y hF rfl rfl rfl rfl) rfl (Nat.le_of_ble_eq_true rfl) ((y_move hF rfl).q) (fun a hF => ?_)
                  refine qs_w hF (wanted_y hF rfl rfl rfl rfl) rfl (Nat.le_of_ble_eq_true rfl) ((y_fieldAddr Tryd.underlying24 rfl rfl rfl T22 hF rfl 1 rfl).q) (fun a hF => ?_)
                  obtain ⟨x42, h5, H⟩ := bindE H
                  refine qs_w hF (wanted_y hF rfl rfl rfl rfl) rfl (Nat.le_of_ble_eq_true rfl) ((y_indexP (1 + (x10).toNat * 1) Ar22 hF rfl rfl rfl h5 rfl).q) (fun a hF => ?_)
                  refine qs_w hF (wanted_y hF rfl rfl rfl rfl) rfl (Nat.le_of_ble_eq_true rfl) ((y_load (v := Value.int .i64 x42) 3 hF rfl rfl T3 (rdv_dyn (base := 1) (m := 4) (l := [p0.2.1.1, p0.2.1.2.1, p0.2.1.2.2.1, p0.2.1.2.2.2]) (enc := Value.int .i64) rfl h5)).q) (fun a hF => ?_)
                  refine qs_w hF (wanted_y hF rfl rfl rfl rfl) rfl (Nat.le_of_ble_eq_true rfl) ((y_move hF rfl).q) (fun a hF => ?_)
                  obtain ⟨x43, h6, H⟩ := bindE H
                  refine qs_w hF (wanted_y hF rfl rfl rfl rfl) rfl (Nat.le_of_ble_eq_true rfl) (y_call (v := Value.int .i64 x43) hF H65 rfl (fun w hW => r08_Bit_c any w x42 x28 _ h6)) (fun a hF => ?_)
                  refine qs_w hF (wanted_y hF rfl rfl rfl rfl) rfl (Nat.le_of_ble_eq_true rfl) ((y_move hF rfl).q) (fun a hF => ?_)
                  refine qs_w hF (wanted_y hF rfl rfl rfl rfl) rfl (Nat.le_of_ble_eq_true rfl) ((y_fieldAddr Tryd.underlying24 rfl rfl rfl T22 hF rfl 1 rfl).q) (fun a hF => ?_)
                  obtain ⟨x44, h7, H⟩ := bindE H
                  refine qs_w hF (wanted_y hF rfl rfl rfl rfl) rfl (Nat.le_of_ble_eq_true rfl) ((y_indexP (1 + (x10).toNat * 1) Ar22 hF rfl rfl rfl h7 rfl).q) (fun a hF => ?_)
                  refine qs_w hF (wanted_y hF rfl rfl rfl rfl) rfl (Nat.le_of_ble_eq_true rfl) ((y_load (v := Value.int .i64 x44) 2 hF rfl rfl T3 (rdv_dyn (base := 1) (m := 4) (l := [p1.2.1.1, p1.2.1.2.1, p1.2.1.2.2.1, p1.2.1.2.2.2]) (enc := Value.int .i64) rfl h7)).q) (fun a hF => ?_)
                  refine qs_w hF (wanted_y hF rfl rfl rfl rfl) rfl (Nat.le_of_ble_eq_true rfl) ((y_move hF rfl).q) (fun a hF => ?_)
                  obtain ⟨x45, h8, H⟩ := bindE H
                  refine qs_w hF (wanted_y hF rfl rfl rfl rfl) rfl (Nat.le_of_ble_eq_true rfl) (y_call (v := Value.int .i64 x45) hF H65 rfl (fun w hW => r08_Bit_c any w x44 x28 _ h8)) (fun a hF => ?_)
                  refine qs_w hF (wanted_y hF rfl rfl rfl rfl) rfl (Nat.le_of_ble_eq_true rfl) ((y_neq hF rfl rfl).q) (fun a hF => ?_)
                  refine qs hF rfl ((y_pick_t hF rfl rfl rfl).q) (fun a hF => ?_)
                  refine quiet_end (fun w hW => ?_)
                  refine c_then ?_
                  have hW := hW.frontM (i := 3) rfl rfl
                  have hW := hW.frontM (i := 3) rfl rfl
                  have hW := hW.frontM (i := 3) rfl rfl
                  have hW := hW.frontM (i := 3) rfl rfl
                  exact ⟨_, H, hF.re ⟨rfl, rfl, rfl, rfl, rfl, rfl, rfl, rfl, rfl, trivial⟩, hW⟩
                ·
                  have H := iteF (of_decide_eq_false hb) H
                  rw [hb] at hF
                  clear hb
                  refine qs_skip hF (wanted_n hF rfl rfl rfl rfl rfl) rfl rfl (fun a hF => ?_)
                  refine qs_skip hF (wanted_n hF rfl rfl rfl rfl rfl) rfl rfl (fun a hF => ?_)
                  refine qs_skip hF (wanted_n hF rfl rfl rfl rfl rfl) rfl rfl (fun a hF => ?_)
                  refine qs_skip hF (wanted_n hF rfl rfl rfl rfl rfl) rfl rfl (fun a hF => ?_)
                  refine qs_skip hF (wanted_n hF rfl rfl rfl rfl rfl) rfl rfl (fun a hF => ?_)
                  refine qs_skip hF (wanted_n hF rfl rfl rfl rfl rfl) rfl rfl (fun a hF => ?_)
                  refine qs_skip hF (wanted_n hF rfl rfl rfl rfl rfl) rfl rfl (fun a hF => ?_)
                  refine qs_skip hF (wanted_n hF rfl rfl rfl rfl rfl) rfl rfl (fun a hF => ?_)
                  refine qs_skip hF (wanted_n hF rfl rfl rfl rfl rfl) rfl rfl (fun a hF => ?_)
                  refine qs_skip hF (wanted_n hF rfl rfl rfl rfl rfl) rfl rfl (fun a hF => ?_)
                  refine qs_skip hF (wanted_n hF rfl rfl rfl rfl rfl) rfl rfl (fun a hF => ?_)
                  refine qs_skip hF (wanted_n hF rfl rfl rfl rfl rfl) rfl rfl (fun a hF => ?_)
                  refine qs_skip hF (wanted_n hF rfl rfl rfl rfl rfl) rfl rfl (fun a hF => ?_)
                  refine qs hF rfl ((y_pick_f hF rfl rfl rfl).q) (fun a hF => ?_)
                  refine quiet_end (fun w hW => ?_)
                  refine c_then ?_
                  have hW := hW.frontM (i := 3) rfl rfl
                  have hW := hW.frontM (i := 3) rfl rfl
                  have hW := hW.frontM (i := 3) rfl rfl
                  have hW := hW.frontM (i := 3) rfl rfl
                  exact ⟨_, H, hF.re ⟨rfl, rfl, rfl, rfl, rfl, rfl, rfl, rfl, rfl, trivial⟩, hW⟩
              ·
                have H := iteF (of_decide_eq_false hb) H
                rw [hb] at hF
                clear hb
                refine qs_skip hF (wanted_n hF rfl rfl rfl rfl rfl) rfl rfl (fun a hF => ?_)
                refine qs_skip hF (wanted_n hF rfl rfl rfl rfl rfl) rfl rfl (fun a hF => ?_)
                refine qs_skip hF (wanted_n hF rfl rfl rfl rfl rfl) rfl rfl (fun a hF => ?_)
                refine qs_skip hF (wanted_n hF rfl rfl rfl rfl rfl) rfl rfl (fun a hF => ?_)
                refine qs_skip hF (wanted_n hF rfl rfl rfl rfl rfl) rfl rfl (fun a hF => ?_)
                refine qs_skip hF (wanted_n hF rfl rfl rfl rfl rfl) rfl rfl (fun a hF => ?_)
                refine qs_skip hF (wanted_n hF rfl rfl rfl rfl rfl) rfl rfl (fun a hF => ?_)
                refine qs hF rfl ((y_pick_f hF rfl rfl rfl).q) (fun a hF => ?_)
                refine qs hF rfl ((y_move hF rfl).q) (fun a hF => ?_)
                refine qs_skip hF (wanted_n hF rfl rfl rfl rfl rfl) rfl rfl (fun a hF => ?_)
                refine qs_skip hF (wanted_n hF rfl rfl rfl rfl rfl) rfl rfl (fun a hF => ?_)
                refine qs_skip hF (wanted_n hF rfl rfl rfl rfl rfl) rfl rfl (fun a hF => ?_)
                refine qs_skip hF (wanted_n hF rfl rfl rfl rfl rfl) rfl rfl (fun a hF => ?_)
                refine qs_skip hF (wanted_n hF rfl rfl rfl rfl rfl) rfl rfl (fun a hF => ?_)
                refine qs_skip hF (wanted_n hF rfl rfl rfl rfl rfl) rfl rfl (fun a hF => ?_)
                refine qs_skip hF (wanted_n hF rfl rfl rfl rfl rfl) rfl rfl (fun a hF => ?_)
                refine qs_skip hF (wanted_n hF rfl rfl rfl rfl rfl) rfl rfl (fun a hF => ?_)
                refine qs_skip hF (wanted_n hF rfl rfl rfl rfl rfl) rfl rfl (fun a hF => ?_)
                refine qs_skip hF (wanted_n hF rfl rfl rfl rfl rfl) rfl rfl (fun a hF => ?_)
                refine qs_skip hF (wanted_n hF rfl rfl rfl rfl rfl) rfl rfl (fun a hF => ?_)
                refine qs_skip hF (wanted_n hF rfl rfl rfl rfl rfl) rfl rfl (fun a hF => ?_)
                refine qs_skip hF (wanted_n hF rfl rfl rfl rfl rfl) rfl rfl (fun a hF => ?_)
                refine qs hF rfl ((y_pick_f hF rfl rfl rfl).q) (fun a hF => ?_)
                refine quiet_end (fun w hW => ?_)
                refine c_then ?_
                have hW := hW.frontM (i := 3) rfl rfl
                have hW := hW.frontM (i := 3) rfl rfl
                have hW := hW.frontM (i := 3) rfl rfl
                have hW := hW.frontM (i := 3) rfl rfl
                exact ⟨_, H, hF.re ⟨rfl, rfl, rfl, rfl, rfl, rfl, rfl, rfl, rfl, trivial⟩, hW⟩
            rintro a w ⟨x37, hj, hF, hW⟩
            have hj := Option.some.inj hj
            subst hj
            have H := K6
            clear G6 K6
            refine c_cond hF rfl (fun hb => ?_) (fun hb => ?_)
            ·
              have H := iteT hb H
              rw [hb] at hF
              clear hb
              refine c_seq ?_
              refine reg_list ?_
              refine ls hF hW rfl ((y_build (v := Value.agg #[.int .i64 0, .int .i64 0, .int .i64 0, .int .i64 0, .int .i64 0, .int .i64 0, .int .i64 0, .int .i64 0, .int .i64 0]) B24 hF rfl rfl rfl).q) (fun a w hF hW => ?_)
              refine l_store (vs := [.int .i64 0, .int .i64 0, .int .i64 0, .int .i64 0, .int .i64 0, .int .i64 0, .int .i64 0, .int .i64 0, .int .i64 0]) (M' := [(b4, [.int .i64 x1, .int .i64 x29, .int .i64 x30, .int .i64 x31, .int .i64 x32, .int .i64 x33, .int .i64 x34, .int .i64 x35, .int .i64 x36]), (b3, [.int .i64 0, .int .i64 0, .int .i64 0, .int .i64 0, .int .i64 0, .int .i64 0, .int .i64 0, .int .i64 0, .int .i64 0]), (b2, [.int .i64 p1.1, .int .i64 p1.2.1.1, .int .i64 p1.2.1.2.1, .int .i64 p1.2.1.2.2.1, .int .i64 p1.2.1.2.2.2, .int .i64 p1.2.2.1, .int .i64 p1.2.2.2.1, .int .i64 p1.2.2.2.2.1, .int .i64 p1.2.2.2.2.2]), (b1, [.int .i64 p0.1, .int .i64 p0.2.1.1, .int .i64 p0.2.1.2.1, .int .i64 p0.2.1.2.2.1, .int .i64 p0.2.1.2.2.2, .int .i64 p0.2.2.1, .int .i64 p0.2.2.2.1, .int .i64 p0.2.2.2.2.1, .int .i64 p0.2.2.2.2.2])]) 1 hF hW rfl rfl rfl T24 rfl rfl rfl rfl rfl (fun w hW => ?_)
              refine ls hF hW rfl ((y_assign hF rfl).q) (fun a w hF hW => ?_)
              refine ls_nil ?_
              refine c_then ?_
              refine wp_ret ?_
              refine r_then ?_
              refine r_block ?_
              refine r_then ?_
              refine r_then ?_
              refine r_block ?_
              refine r_block ?_
              refine r_then ?_
              refine r_then ?_
              refine r_block ?_
              refine r_then ?_
              have H := L5 _ H
              have H := L4 _ H
              have H := L3 _ H
              have H := L2 _ H
              have H := Option.some.inj H
              subst H
              refine post2 (.inl rfl) hF hW rfl (rv_cell 1 hF rfl rfl T24 rfl) (rv_tmp hF rfl) ?_
              exact ⟨rfl, hW.done⟩
            ·
              have H := iteF (by rw [hb]; decide) H
              rw [hb] at hF
              clear hb
              refine wp_skip ?_
              refine c_then ?_
              obtain ⟨o7, G7, K7⟩ := bindE H
              refine c_seqJ (fun a w => ∃ x46 : Int, ∃ x47 : Int, ∃ x48 : Int, ∃ x49 : Int, ∃ x50 : Int, ∃ x51 : Int, ∃ x52 : Int, ∃ x53 : Int, some ((x46, x47, x48, x49, x50, x51, x52, x53)) = some o7 ∧ Fr 112 [] [(2, .pointer (some ⟨b1, 0, none⟩)), (3, .pointer (some ⟨b2, 0, none⟩)), (4, .pointer (some ⟨b3, 0, none⟩)), (5, .bool false), (6, .pointer (some ⟨b4, 0, none⟩)), (7, .int .i64 x10), (8, .int .i64 x27), (9, .int .i64 x28)] a ∧ Stw ⟨Y, [], w0⟩ [(b4, [.int .i64 x1, .int .i64 x46, .int .i64 x47, .int .i64 x48, .int .i64 x49, .int .i64 x50, .int .i64 x51, .int .i64 x52, .int .i64 x53]), (b3, [.int .i64 0, .int .i64 0, .int .i64 0, .int .i64 0, .int .i64 0, .int .i64 0, .int .i64 0, .int .i64 0, .int .i64 0]), (b2, [.int .i64 p1.1, .int .i64 p1.2.1.1, .int .i64 p1.2.1.2.1, .int .i64 p1.2.1.2.2.1, .int .i64 p1.2.1.2.2.2, .int .i64 p1.2.2.1, .int .i64 p1.2.2.2.1, .int .i64 p1.2.2.2.2.1, .int .i64 p1.2.2.2.2.2]), (b1, [.int .i64 p0.1, .int .i64 p0.2.1.1, .int .i64 p0.2.1.2.1, .int .i64 p0.2.1.2.2.1, .int .i64 p0.2.1.2.2.2, .int .i64 p0.2.2.1, .int .i64 p0.2.2.2.1, .int .i64 p0.2.2.2.2.1, .int .i64 p0.2.2.2.2.2])] [] w) ?_ ?_
              ·
                have H := G7
                clear G7 K7
                obtain ⟨o8, G8, K8⟩ := bindE H
                refine c_seqJ (fun a w => ∃ x54 : Bool, some (x54) = some o8 ∧ Fr 112 [] [(2, .pointer (some ⟨b1, 0, none⟩)), (3, .pointer (some ⟨b2, 0, none⟩)), (4, .pointer (some ⟨b3, 0, none⟩)), (5, .bool false), (6, .pointer (some ⟨b4, 0, none⟩)), (7, .int .i64 x10), (8, .int .i64 x27), (9, .int .i64 x28), (83, .bool x54)] a ∧ Stw ⟨Y, [], w0⟩ [(b4, [.int .i64 x1, .int .i64 x29, .int .i64 x30, .int .i64 x31, .int .i64 x32, .int .i64 x33, .int .i64 x34, .int .i64 x35, .int .i64 x36]), (b3, [.int .i64 0, .int .i64 0, .int .i64 0, .int .i64 0, .int .i64 0, .int .i64 0, .int .i64 0, .int .i64 0, .int .i64 0]), (b2, [.int .i64 p1.1, .int .i64 p1.2.1.1, .int .i64 p1.2.1.2.1, .int .i64 p1.2.1.2.2.1, .int .i64 p1.2.1.2.2.2, .int .i64 p1.2.2.1, .int .i64 p1.2.2.2.1, .int .i64 p1.2.2.2.2.1, .int .i64 p1.2.2.2.2.2]), (b1, [.int .i64 p0.1, .int .i64 p0.2.1.1, .int .i64 p0.2.1.2.1, .int .i64 p0.2.1.2.2.1, .int .i64 p0.2.1.2.2.2, .int .i64 p0.2.2.1, .int .i64 p0.2.2.2.1, .int .i64 p0.2.2.2.2.1, .int .i64 p0.2.2.2.2.2])] [] w) ?_ ?_
                ·
                  have H := G8
                  clear G8 K8
                  refine reg_list ?_
                  refine ls hF hW rfl ((y_move hF rfl).q) (fun a w hF hW => ?_)
                  refine ls hF hW rfl ((y_fieldAddr Tryd.underlying24 rfl rfl rfl T22 hF rfl 5 rfl).q) (fun a w hF hW => ?_)
                  obtain ⟨x55, h9, H⟩ := bindE H
                  refine ls hF hW rfl ((y_indexP (5 + (x10).toNat * 1) Ar22 hF rfl rfl rfl h9 rfl).q) (fun a w hF hW => ?_)
                  refine ls hF hW rfl ((y_load (v := Value.int .i64 x55) 2 hF rfl rfl T3 (rdv_dyn (base := 5) (m := 4) (l := [p1.2.2.1, p1.2.2.2.1, p1.2.2.2.2.1, p1.2.2.2.2.2]) (enc := Value.int .i64) rfl h9)).q) (fun a w hF hW => ?_)
                  refine ls hF hW rfl ((y_move hF rfl).q) (fun a w hF hW => ?_)
                  obtain ⟨x56, h10, H⟩ := bindE H
                  refine ls hF hW rfl (y_call (v := Value.int .i64 x56) hF H65 rfl (fun w hW => r08_Bit_c any w x55 x28 _ h10)) (fun a w hF hW => ?_)
                  refine ls hF hW rfl ((y_eql hF rfl rfl).q) (fun a w hF hW => ?_)
                  refine ls hF hW rfl ((y_move hF rfl).q) (fun a w hF hW => ?_)
                  rcases Bool.eq_false_or_eq_true (decide (x56 = 1)) with hb | hb
                  ·
                    have H := iteT (of_decide_eq_true hb) H
                    rw [hb] at hF
                    clear hb
                    refine ls_w hF hW (wanted_y hF rfl rfl rfl rfl) rfl (Nat.le_of_ble_eq_true rfl) ((y_move hF rfl).q) (fun a w hF hW => ?_)
                    refine ls_w hF hW (wanted_y hF rfl rfl rfl rfl) rfl (Nat.le_of_ble_eq_true rfl) ((y_fieldAddr Tryd.underlying24 rfl rfl rfl T22 hF rfl 5 rfl).q) (fun a w hF hW => ?_)
                    obtain ⟨x57, h11, H⟩ := bindE H
                    refine ls_w hF hW (wanted_y hF rfl rfl rfl rfl) rfl (Nat.le_of_ble_eq_true rfl) ((y_indexP (5 + (x10).toNat * 1) Ar22 hF rfl rfl rfl h11 rfl).q) (fun a w hF hW => ?_)
                    refine ls_w hF hW (wanted_y hF rfl rfl rfl rfl) rfl (Nat.le_of_ble_eq_true rfl) ((y_load (v := Value.int .i64 x57) 3 hF rfl rfl T3 (rdv_dyn (base := 5) (m := 4) (l := [p0.2.2.1, p0.2.2.2.1, p0.2.2.2.2.1, p0.2.2.2.2.2]) (enc := Value.int .i64) rfl h11)).q) (fun a w hF hW => ?_)
                    refine ls_w hF hW (wanted_y hF rfl rfl rfl rfl) rfl (Nat.le_of_ble_eq_true rfl) ((y_move hF rfl).q) (fun a w hF hW => ?_)
                    refine ls_g (wanted_y hF rfl rfl rfl rfl) ?_
                    obtain ⟨x58, h12, H⟩ := bindE H
                    refine ls hF hW rfl (y_call (v := Value.int .i64 x58) hF H65 rfl (fun w hW => r08_Bit_c any w x57 x28 _ h12)) (fun a w hF hW => ?_)
                    refine ls_w hF hW (wanted_y hF rfl rfl rfl rfl) rfl (Nat.le_of_ble_eq_true rfl) ((y_eql hF rfl rfl).q) (fun a w hF hW => ?_)
                    refine ls hF hW rfl ((y_pick_t hF rfl rfl rfl).q) (fun a w hF hW => ?_)
                    refine ls_nil ?_
                    refine c_then ?_
                    have hW := hW.frontM (i := 3) rfl rfl
                    have hW := hW.frontM (i := 3) rfl rfl
                    have hW := hW.frontM (i := 3) rfl rfl
                    have hW := hW.frontM (i := 3) rfl rfl
                    exact ⟨_, H, hF.re ⟨rfl, rfl, rfl, rfl, rfl, rfl, rfl, rfl, rfl, trivial⟩, hW⟩
                  ·
                    have H := iteF (of_decide_eq_false hb) H
                    rw [hb] at hF
                    clear hb
                    refine ls_skip hF (wanted_n hF rfl rfl rfl rfl rfl) rfl rfl (fun a hF => ?_)
                    refine ls_skip hF (wanted_n hF rfl rfl rfl rfl rfl) rfl rfl (fun a hF => ?_)
                    refine ls_skip hF (wanted_n hF rfl rfl rfl rfl rfl) rfl rfl (fun a hF => ?_)
                    refine ls_skip hF (wanted_n hF rfl rfl rfl rfl rfl) rfl rfl (fun a hF => ?_)
                    refine ls_skip hF (wanted_n hF rfl rfl rfl rfl rfl) rfl rfl (fun a hF => ?_)
                    refine ls_skip hF (wanted_n hF rfl rfl rfl rfl rfl) rfl rfl (fun a hF => ?_)
                    refine ls_skip hF (wanted_n hF rfl rfl rfl rfl rfl) rfl rfl (fun a hF => ?_)
                    refine ls hF hW rfl ((y_pick_f hF rfl rfl rfl).q) (fun a w hF hW => ?_)
                    refine ls_nil ?_
                    refine c_then ?_
                    have hW := hW.frontM (i := 3) rfl rfl
                    have hW := hW.frontM (i := 3) rfl rfl
                    have hW := hW.frontM (i := 3) rfl rfl
                    have hW := hW.frontM (i := 3) rfl rfl
                    exact ⟨_, H, hF.re ⟨rfl, rfl, rfl, rfl, rfl, rfl, rfl, rfl, rfl, trivial⟩, hW⟩
                rintro a w ⟨x54, hj, hF, hW⟩
                have hj := Option.some.inj hj
                subst hj
                have H := K8
                clear G8 K8
                refine c_cond hF rfl (fun hb => ?_) (fun hb => ?_)
                ·
                  have H := iteT hb H
                  rw [hb] at hF
                  clear hb
                  refine c_seq ?_
                  refine reg_list ?_
                  refine ls hF hW rfl ((y_move hF rfl).q) (fun a w hF hW => ?_)
                  refine ls hF hW rfl ((y_move hF rfl).q) (fun a w hF hW => ?_)
                  refine ls hF hW rfl ((y_fieldAddr Tryd.underlying24 rfl rfl rfl T22 hF rfl 5 rfl).q) (fun a w hF hW => ?_)
                  obtain ⟨x59, h13, H⟩ := bindE H
                  refine ls hF hW rfl ((y_indexP (5 + (x10).toNat * 1) Ar22 hF rfl rfl rfl h13 rfl).q) (fun a w hF hW => ?_)
                  refine ls hF hW rfl ((y_load (v := Value.int .i64 x59) 0 hF rfl rfl T3 (rdv_dyn (base := 5) (m := 4) (l := [x33, x34, x35, x36]) (enc := Value.int .i64) rfl h13)).q) (fun a w hF hW => ?_)
                  refine ls hF hW rfl ((y_move hF rfl).q) (fun a w hF hW => ?_)
                  refine ls hF hW rfl ((y_add hF rfl rfl rfl).q) (fun a w hF hW => ?_)
                  refine ls hF hW rfl ((y_fieldAddr Tryd.underlying24 rfl rfl rfl T22 hF rfl 5 rfl).q) (fun a w hF hW => ?_)
                  obtain ⟨x60, h14, H⟩ := bindE H
                  refine ls hF hW rfl ((y_indexP (5 + (x10).toNat * 1) Ar22 hF rfl rfl rfl h14 rfl).q) (fun a w hF hW => ?_)
                  refine l_store_dyn (o := 5) (m := 4) (i := x10) (l := ([x33, x34, x35, x36] : List Int)) (x := x60) (cs := [.int .i64 x1, .int .i64 x29, .int .i64 x30, .int .i64 x31, .int .i64 x32, .int .i64 x33, .int .i64 x34, .int .i64 x35, .int .i64 x36]) (cs' := [.int .i64 x1, .int .i64 x29, .int .i64 x30, .int .i64 x31, .int .i64 x32, .int .i64 (if x10 = 0 then w64 (x59 + x27) else x33), .int .i64 (if x10 = 1 then w64 (x59 + x27) else x34), .int .i64 (if x10 = 2 then w64 (x59 + x27) else x35), .int .i64 (if x10 = 3 then w64 (x59 + x27) else x36)]) 0 hF hW rfl rfl rfl T3 rfl rfl rfl rfl h14 (by intro k hk hn; rw [hk]; match k, hn with | 0, _ => rfl | 1, _ => rfl | 2, _ => rfl | 3, _ => rfl | (z + 4), h => exact absurd h (by omega)) (fun w hW => ?_)
                  have hW : Stw ⟨Y, [], w0⟩ [(b4, [.int .i64 x1, .int .i64 x29, .int .i64 x30, .int .i64 x31, .int .i64 x32, .int .i64 (if x10 = 0 then w64 (x59 + x27) else x33), .int .i64 (if x10 = 1 then w64 (x59 + x27) else x34), .int .i64 (if x10 = 2 then w64 (x59 + x27) else x35), .int .i64 (if x10 = 3 then w64 (x59 + x27) else x36)]), (b3, [.int .i64 0, .int .i64 0, .int .i64 0, .int .i64 0, .int .i64 0, .int .i64 0, .int .i64 0, .int .i64 0, .int .i64 0]), (b2, [.int .i64 p1.1, .int .i64 p1.2.1.1, .int .i64 p1.2.1.2.1, .int .i64 p1.2.1.2.2.1, .int .i64 p1.2.1.2.2.2, .int .i64 p1.2.2.1, .int .i64 p1.2.2.2.1, .int .i64 p1.2.2.2.2.1, .int .i64 p1.2.2.2.2.2]), (b1, [.int .i64 p0.1, .int .i64 p0.2.1.1, .int .i64 p0.2.1.2.1, .int .i64 p0.2.1.2.2.1, .int .i64 p0.2.1.2.2.2, .int .i64 p0.2.2.1, .int .i64 p0.2.2.2.1, .int .i64 p0.2.2.2.2.1, .int .i64 p0.2.2.2.2.2])] [] w := hW
                  refine ls_nil ?_
                  refine c_then ?_
                  refine reg_tail 16 hW MO (by kernel_rfl) ?_
                  refine qs hF rfl ((y_move hF rfl).q) (fun a hF => ?_)
                  refine qs hF rfl ((y_move hF rfl).q) (fun a hF => ?_)
                  refine qs hF rfl ((y_fieldAddr Tryd.underlying24 rfl rfl rfl T22 hF rfl 1 rfl).q) (fun a hF => ?_)
                  obtain ⟨x61, h15, H⟩ := bindE H
                  refine qs hF rfl ((y_indexP (1 + (x10).toNat * 1) Ar22 hF rfl rfl rfl h15 rfl).q) (fun a hF => ?_)
                  refine qs hF rfl ((y_load (v := Value.int .i64 x61) 0 hF rfl rfl T3 (rdv_dyn (base := 1) (m := 4) (l := [x29, x30, x31, x32]) (enc := Value.int .i64) rfl h15)).q) (fun a hF => ?_)
                  refine qs hF rfl ((y_move hF rfl).q) (fun a hF => ?_)
                  refine qs hF rfl ((y_move hF rfl).q) (fun a hF => ?_)
                  refine qs hF rfl ((y_fieldAddr Tryd.underlying24 rfl rfl rfl T22 hF rfl 1 rfl).q) (fun a hF => ?_)
                  obtain ⟨x62, h16, H⟩ := bindE H
                  refine qs hF rfl ((y_indexP (1 + (x10).toNat * 1) Ar22 hF rfl rfl rfl h16 rfl).q) (fun a hF => ?_)
                  refine qs hF rfl ((y_load (v := Value.int .i64 x62) 2 hF rfl rfl T3 (rdv_dyn (base := 1) (m := 4) (l := [p1.2.1.1, p1.2.1.2.1, p1.2.1.2.2.1, p1.2.1.2.2.2]) (enc := Value.int .i64) rfl h16)).q) (fun a hF => ?_)
                  refine qs hF rfl ((y_move hF rfl).q) (fun a hF => ?_)
                  obtain ⟨x63, h17, H⟩ := bindE H
                  refine qs hF rfl (y_call (v := Value.int .i64 x63) hF H65 rfl (fun w hW => r08_Bit_c any w x62 x28 _ h17)) (fun a hF => ?_)
                  refine qs hF rfl ((y_mul hF rfl rfl rfl).q) (fun a hF => ?_)
                  refine qs hF rfl ((y_add hF rfl rfl rfl).q) (fun a hF => ?_)
                  refine qs hF rfl ((y_fieldAddr Tryd.underlying24 rfl rfl rfl T22 hF rfl 1 rfl).q) (fun a hF => ?_)
                  obtain ⟨x64, h18, H⟩ := bindE H
                  refine qs hF rfl ((y_indexP (1 + (x10).toNat * 1) Ar22 hF rfl rfl rfl h18 rfl).q) (fun a hF => ?_)
                  refine quiet_end (fun w hW => ?_)
                  refine l_store_dyn (o := 1) (m := 4) (i := x10) (l := ([x29, x30, x31, x32] : List Int)) (x := x64) (cs := [.int .i64 x1, .int .i64 x29, .int .i64 x30, .int .i64 x31, .int .i64 x32, .int .i64 (if x10 = 0 then w64 (x59 + x27) else x33), .int .i64 (if x10 = 1 then w64 (x59 + x27) else x34), .int .i64 (if x10 = 2 then w64 (x59 + x27) else x35), .int .i64 (if x10 = 3 then w64 (x59 + x27) else x36)]) (cs' := [.int .i64 x1, .int .i64 (if x10 = 0 then w64 (x61 + (w64 (x27 * x63))) else x29), .int .i64 (if x10 = 1 then w64 (x61 + (w64 (x27 * x63))) else x30), .int .i64 (if x10 = 2 then w64 (x61 + (w64 (x27 * x63))) else x31), .int .i64 (if x10 = 3 then w64 (x61 + (w64 (x27 * x63))) else x32), .int .i64 (if x10 = 0 then w64 (x59 + x27) else x33), .int .i64 (if x10 = 1 then w64 (x59 + x27) else x34), .int .i64 (if x10 = 2 then w64 (x59 + x27) else x35), .int .i64 (if x10 = 3 then w64 (x59 + x27) else x36)]) 0 hF hW rfl rfl rfl T3 rfl rfl rfl rfl h18 (by intro k hk hn; rw [hk]; match k, hn with | 0, _ => rfl | 1, _ => rfl | 2, _ => rfl | 3, _ => rfl | (z + 4), h => exact absurd h (by omega)) (fun w hW => ?_)
                  have hW : Stw ⟨Y, [], w0⟩ [(b4, [.int .i64 x1, .int .i64 (if x10 = 0 then w64 (x61 + (w64 (x27 * x63))) else x29), .int .i64 (if x10 = 1 then w64 (x61 + (w64 (x27 * x63))) else x30), .int .i64 (if x10 = 2 then w64 (x61 + (w64 (x27 * x63))) else x31), .int .i64 (if x10 = 3 then w64 (x61 + (w64 (x27 * x63))) else x32), .int .i64 (if x10 = 0 then w64 (x59 + x27) else x33), .int .i64 (if x10 = 1 then w64 (x59 + x27) else x34), .int .i64 (if x10 = 2 then w64 (x59 + x27) else x35), .int .i64 (if x10 = 3 then w64 (x59 + x27) else x36)]), (b3, [.int .i64 0, .int .i64 0, .int .i64 0, .int .i64 0, .int .i64 0, .int .i64 0, .int .i64 0, .int .i64 0, .int .i64 0]), (b2, [.int .i64 p1.1, .int .i64 p1.2.1.1, .int .i64 p1.2.1.2.1, .int .i64 p1.2.1.2.2.1, .int .i64 p1.2.1.2.2.2, .int .i64 p1.2.2.1, .int .i64 p1.2.2.2.1, .int .i64 p1.2.2.2.2.1, .int .i64 p1.2.2.2.2.2]), (b1, [.int .i64 p0.1, .int .i64 p0.2.1.1, .int .i64 p0.2.1.2.1, .int .i64 p0.2.1.2.2.1, .int .i64 p0.2.1.2.2.2, .int .i64 p0.2.2.1, .int .i64 p0.2.2.2.1, .int .i64 p0.2.2.2.2.1, .int .i64 p0.2.2.2.2.2])] [] w := hW
                  refine ls_nil ?_
                  refine c_then ?_
                  have hW := hW.frontM (i := 3) rfl rfl
                  have hW := hW.frontM (i := 3) rfl rfl
                  have hW := hW.frontM (i := 3) rfl rfl
                  have hW := hW.frontM (i := 3) rfl rfl
                  exact ⟨_, _, _, _, _, _, _, _, H, hF.re ⟨rfl, rfl, rfl, rfl, rfl, rfl, rfl, rfl, trivial⟩, hW⟩
                ·
                  have H := iteF (by rw [hb]; decide) H
                  rw [hb] at hF
                  clear hb
                  refine wp_skip ?_
                  refine c_then ?_
                  have hW := hW.frontM (i := 3) rfl rfl
                  have hW := hW.frontM (i := 3) rfl rfl
                  have hW := hW.frontM (i := 3) rfl rfl
                  have hW := hW.frontM (i := 3) rfl rfl
                  exact ⟨_, _, _, _, _, _, _, _, H, hF.re ⟨rfl, rfl, rfl, rfl, rfl, rfl, rfl, rfl, trivial⟩, hW⟩
              rintro a w ⟨x46, x47, x48, x49, x50, x51, x52, x53, hj, hF, hW⟩
              have hj := Option.some.inj hj
              subst hj
              have H := K7
              clear G7 K7
              refine reg_list ?_
              refine ls hF hW rfl ((y_move hF rfl).q) (fun a w hF hW => ?_)
              refine ls hF hW rfl ((y_mul hF rfl rfl rfl).q) (fun a w hF hW => ?_)
              refine ls hF hW rfl ((y_assign hF rfl).q) (fun a w hF hW => ?_)
              refine ls_nil ?_
              refine b_normal ?_
              refine c_then ?_
              refine reg_list ?_
              refine ls hF hW rfl ((y_move hF rfl).q) (fun a w hF hW => ?_)
              refine ls hF hW rfl ((y_add hF rfl rfl rfl).q) (fun a w hF hW => ?_)
              refine ls hF hW rfl ((y_assign hF rfl).q) (fun a w hF hW => ?_)
              refine ls_nil ?_
              refine c_then ?_
              have hW := hW.frontM (i := 3) rfl rfl
              have hW := hW.frontM (i := 3) rfl rfl
              have hW := hW.frontM (i := 3) rfl rfl
              have hW := hW.frontM (i := 3) rfl rfl
              exact ⟨_, H, hF.re ⟨rfl, rfl, rfl, rfl, rfl, rfl, rfl, rfl, trivial⟩, hW⟩
          ·
            have H := iteF (of_decide_eq_false hb) H
            rw [hb] at hF
            clear hb
            refine wp_exit ?_
            refine e_then ?_
            refine e_then ?_
            refine e_block ?_
            refine b_normal ?_
            refine c_then ?_
            have hW := hW.frontM (i := 3) rfl rfl
            have hW := hW.frontM (i := 3) rfl rfl
            have hW := hW.frontM (i := 3) rfl rfl
            have hW := hW.frontM (i := 3) rfl rfl
            have H := L5 _ H
            exact ⟨_, _, _, _, _, _, _, _, H, hF.re ⟨rfl, rfl, rfl, rfl, rfl, rfl, trivial⟩, hW⟩
        rintro a w ⟨x19, x20, x21, x22, x23, x24, x25, x26, hj, hF, hW⟩
        have H := K4 _ hj
        clear hj G4 K4 L4
        refine reg_list ?_
        refine ls hF hW rfl ((y_move hF rfl).q) (fun a w hF hW => ?_)
        refine ls hF hW rfl ((y_add hF rfl rfl rfl).q) (fun a w hF hW => ?_)
        refine ls hF hW rfl ((y_assign hF rfl).q) (fun a w hF hW => ?_)
        refine ls_nil ?_
        refine c_then ?_
        have hW := hW.frontM (i := 3) rfl rfl
        have hW := hW.frontM (i := 3) rfl rfl
        have hW := hW.frontM (i := 3) rfl rfl
        have hW := hW.frontM (i := 3) rfl rfl
        exact ⟨_, H, hF.re ⟨rfl, rfl, rfl, rfl, rfl, rfl, trivial⟩, hW⟩
      ·
        have H := iteF (of_decide_eq_false hb) H
        rw [hb] at hF
        clear hb
        refine wp_exit ?_
        refine e_then ?_
        refine e_then ?_
        refine e_block ?_
        refine c_then ?_
        have hW := hW.frontM (i := 3) rfl rfl
        have hW := hW.frontM (i := 3) rfl rfl
        have hW := hW.frontM (i := 3) rfl rfl
        have hW := hW.frontM (i := 3) rfl rfl
        have H := L3 _ H
        exact ⟨_, _, _, _, _, _, _, _, H, hF.re ⟨rfl, rfl, rfl, trivial⟩, hW⟩
    rintro a w ⟨x2, x3, x4, x5, x6, x7, x8, x9, hj, hF, hW⟩
    have H := K2 _ hj
    clear hj G2 K2 L2
    refine c_seq ?_
    refine reg_list ?_
    refine ls hF hW rfl ((y_load (v := Value.agg #[.int .i64 x1, .int .i64 x2, .int .i64 x3, .int .i64 x4, .int .i64 x5, .int .i64 x6, .int .i64 x7, .int .i64 x8, .int .i64 x9]) 0 hF rfl rfl T24 rfl).q) (fun a w hF hW => ?_)
    refine l_store (vs := [.int .i64 x1, .int .i64 x2, .int .i64 x3, .int .i64 x4, .int .i64 x5, .int .i64 x6, .int .i64 x7, .int .i64 x8, .int .i64 x9]) (M' := [(b4, [.int .i64 x1, .int .i64 x2, .int .i64 x3, .int .i64 x4, .int .i64 x5, .int .i64 x6, .int .i64 x7, .int .i64 x8, .int .i64 x9]), (b3, [.int .i64 x1, .int .i64 x2, .int .i64 x3, .int .i64 x4, .int .i64 x5, .int .i64 x6, .int .i64 x7, .int .i64 x8, .int .i64 x9]), (b2, [.int .i64 p1.1, .int .i64 p1.2.1.1, .int .i64 p1.2.1.2.1, .int .i64 p1.2.1.2.2.1, .int .i64 p1.2.1.2.2.2, .int .i64 p1.2.2.1, .int .i64 p1.2.2.2.1, .int .i64 p1.2.2.2.2.1, .int .i64 p1.2.2.2.2.2]), (b1, [.int .i64 p0.1, .int .i64 p0.2.1.1, .int .i64 p0.2.1.2.1, .int .i64 p0.2.1.2.2.1, .int .i64 p0.2.1.2.2.2, .int .i64 p0.2.2.1, .int .i64 p0.2.2.2.1, .int .i64 p0.2.2.2.2.1, .int .i64 p0.2.2.2.2.2])]) 1 hF hW rfl rfl rfl T24 rfl rfl rfl rfl rfl (fun w hW => ?_)
    refine ls hF hW rfl ((y_assign hF rfl).q) (fun a w hF hW => ?_)
    refine ls_nil ?_
    refine c_then ?_
    refine wp_ret ?_
    have H := Option.some.inj H
    subst H
    refine post2 (.inl rfl) hF hW rfl (rv_cell 1 hF rfl rfl T24 rfl) (rv_tmp hF rfl) ?_
    exact ⟨rfl, hW.done⟩

theorem H39 : Has Tryd.prog 39 := ⟨fun args w => run_callFunc_body Tryd.func39 rfl (by decide) args w⟩
noncomputable def r10_Overlaps (p0 : Int × (Int × (Int × Int × Int × Int) × (Int × Int × Int × Int)) × (List (Int × Int × Int))) (p1 : Int × (Int × (Int × Int × Int × Int) × (Int × Int × Int × Int)) × (List (Int × Int × Int))) : Option Bool := (if (decide (p0.1 ≠ p1.1) || decide (p0.2.1.1 = p1.2.1.1 ∧ p0.2.1.2.1.1 = p1.2.1.2.1.1 ∧ p0.2.1.2.1.2.1 = p1.2.1.2.1.2.1 ∧ p0.2.1.2.1.2.2.1 = p1.2.1.2.1.2.2.1 ∧ p0.2.1.2.1.2.2.2 = p1.2.1.2.1.2.2.2 ∧ p0.2.1.2.2.1 = p1.2.1.2.2.1 ∧ p0.2.1.2.2.2.1 = p1.2.1.2.2.2.1 ∧ p0.2.1.2.2.2.2.1 = p1.2.1.2.2.2.2.1 ∧ p0.2.1.2.2.2.2.2 = p1.2.1.2.2.2.2.2)) = true then some false else (r08_Meet p0.2.1 p1.2.1).bind fun x1 => some x1.2)
theorem r10_Overlaps_c (Y : Nat → Prop) (w0 : World) (v1 : Value) (v2 : Value) (p0 : Int × (Int × (Int × Int × Int × Int) × (Int × Int × Int × Int)) × (List (Int × Int × Int))) (p1 : Int × (Int × (Int × Int × Int × Int) × (Int × Int × Int × Int)) × (List (Int × Int × Int))) (r : Bool) (H : r10_Overlaps p0 p1 = some r) (h_v1 : Sl w0 (NX []) R60 v1 p0.2.2) (h_v2 : Sl w0 (NX []) R60 v2 p1.2.2) :
    Calls Tryd.prog 16 #[.agg #[.int .i64 p0.1, .int .i64 p0.2.1.1, .int .i64 p0.2.1.2.1.1, .int .i64 p0.2.1.2.1.2.1, .int .i64 p0.2.1.2.1.2.2.1, .int .i64 p0.2.1.2.1.2.2.2, .int .i64 p0.2.1.2.2.1, .int .i64 p0.2.1.2.2.2.1, .int .i64 p0.2.1.2.2.2.2.1, .int .i64 p0.2.1.2.2.2.2.2, v1], .agg #[.int .i64 p1.1, .int .i64 p1.2.1.1, .int .i64 p1.2.1.2.1.1, .int .i64 p1.2.1.2.1.2.1, .int .i64 p1.2.1.2.1.2.2.1, .int .i64 p1.2.1.2.1.2.2.2, .int .i64 p1.2.1.2.2.1, .int .i64 p1.2.1.2.2.2.1, .int .i64 p1.2.1.2.2.2.2.1, .int .i64 p1.2.1.2.2.2.2.2, v2]] w0 fun e w' => e = .returned (.bool r) ∧ Below w0.heap.size w0 w' := by
  refine enter Tryd.func16 rfl Tryd.ntmps16 rfl (fun a hF => ?_)
  have hW := Stw.start Y w0
  unfold r10_Overlaps at H
  refine c_seq ?_
  refine reg_list ?_
  refine l_box (cs := [.int .i64 p0.1, .int .i64 p0.2.1.1, .int .i64 p0.2.1.2.1.1, .int .i64 p0.2.1.2.1.2.1, .int .i64 p0.2.1.2.1.2.2.1, .int .i64 p0.2.1.2.1.2.2.2, .int .i64 p0.2.1.2.2.1, .int .i64 p0.2.1.2.2.2.1, .int .i64 p0.2.1.2.2.2.2.1, .int .i64 p0.2.1.2.2.2.2.2, v1]) hF hW rfl rfl rfl (fun b1 a w hF hW => ?_)
  refine l_box (cs := [.int .i64 p1.1, .int .i64 p1.2.1.1, .int .i64 p1.2.1.2.1.1, .int .i64 p1.2.1.2.1.2.1, .int .i64 p1.2.1.2.1.2.2.1, .int .i64 p1.2.1.2.1.2.2.2, .int .i64 p1.2.1.2.2.1, .int .i64 p1.2.1.2.2.2.1, .int .i64 p1.2.1.2.2.2.2.1, .int .i64 p1.2.1.2.2.2.2.2, v2]) hF hW rfl rfl rfl (fun b2 a w hF hW => ?_)
  refine ls hF hW rfl ((y_assign hF rfl).q) (fun a w hF hW => ?_)
  refine ls_nil ?_
  refine c_then ?_
  refine c_seq ?_
  refine c_seqJ (fun a w => Fr 28 [] [(2, .pointer (some ⟨b1, 0, none⟩)), (3, .pointer (some ⟨b2, 0, none⟩)), (4, .bool false), (18, .bool (decide (p0.1 ≠ p1.1) || decide (p0.2.1.1 = p1.2.1.1 ∧ p0.2.1.2.1.1 = p1.2.1.2.1.1 ∧ p0.2.1.2.1.2.1 = p1.2.1.2.1.2.1 ∧ p0.2.1.2.1.2.2.1 = p1.2.1.2.1.2.2.1 ∧ p0.2.1.2.1.2.2.2 = p1.2.1.2.1.2.2.2 ∧ p0.2.1.2.2.1 = p1.2.1.2.2.1 ∧ p0.2.1.2.2.2.1 = p1.2.1.2.2.2.1 ∧ p0.2.1.2.2.2.2.1 = p1.2.1.2.2.2.2.1 ∧ p0.2.1.2.2.2.2.2 = p1.2.1.2.2.2.2.2)))] a ∧ Stw ⟨Y, [], w0⟩ [(b2, [.int .i64 p1.1, .int .i64 p1.2.1.1, .int .i64 p1.2.1.2.1.1, .int .i64 p1.2.1.2.1.2.1, .int .i64 p1.2.1.2.1.2.2.1, .int .i64 p1.2.1.2.1.2.2.2, .int .i64 p1.2.1.2.2.1, .int .i64 p1.2.1.2.2.2.1, .int .i64 p1.2.1.2.2.2.2.1, .int .i64 p1.2.1.2.2.2.2.2, v2]), (b1, [.int .i64 p0.1, .int .i64 p0.2.1.1, .int .i64 p0.2.1.2.1.1, .int .i64 p0.2.1.2.1.2.1, .int .i64 p0.2.1.2.1.2.2.1, .int .i64 p0.2.1.2.1.2.2.2, .int .i64 p0.2.1.2.2.1, .int .i64 p0.2.1.2.2.2.1, .int .i64 p0.2.1.2.2.2.2.1, .int .i64 p0.2.1.2.2.2.2.2, v1])] [] w) ?_ ?_
  ·
    refine reg_list ?_
    refine ls hF hW rfl ((y_fieldAddr Tryd.underlying27 rfl rfl rfl T3 hF rfl 0 rfl).q) (fun a w hF hW => ?_)
    refine ls hF hW rfl ((y_load (v := Value.int .i64 p0.1) 1 hF rfl rfl T3 rfl).q) (fun a w hF hW => ?_)
    refine ls hF hW rfl ((y_fieldAddr Tryd.underlying27 rfl rfl rfl T3 hF rfl 0 rfl).q) (fun a w hF hW => ?_)
    refine ls hF hW rfl ((y_load (v := Value.int .i64 p1.1) 0 hF rfl rfl T3 rfl).q) (fun a w hF hW => ?_)
    refine ls hF hW rfl ((y_neq hF rfl rfl).q) (fun a w hF hW => ?_)
    refine ls hF hW rfl ((y_move hF rfl).q) (fun a w hF hW => ?_)
    rcases Bool.eq_false_or_eq_true (decide (p0.1 ≠ p1.1)) with hb0 | hb0
    ·
      rw [hb0] at hF
      refine ls_skip hF (wanted_n hF rfl rfl rfl rfl rfl) rfl rfl (fun a hF => ?_)
      refine ls_skip hF (wanted_n hF rfl rfl rfl rfl rfl) rfl rfl (fun a hF => ?_)
      refine ls_skip hF (wanted_n hF rfl rfl rfl rfl rfl) rfl rfl (fun a hF => ?_)
      refine ls_skip hF (wanted_n hF rfl rfl rfl rfl rfl) rfl rfl (fun a hF => ?_)
      refine ls_skip hF (wanted_n hF rfl rfl rfl rfl rfl) rfl rfl (fun a hF => ?_)
      refine ls hF hW rfl ((y_pick_t hF rfl rfl rfl).q) (fun a w hF hW => ?_)
      refine ls_nil ?_
      refine c_then ?_
      exact ⟨hF.re ⟨rfl, rfl, rfl, (by show some (Value.bool true) = some (Value.bool (decide (p0.1 ≠ p1.1) || decide (p0.2.1.1 = p1.2.1.1 ∧ p0.2.1.2.1.1 = p1.2.1.2.1.1 ∧ p0.2.1.2.1.2.1 = p1.2.1.2.1.2.1 ∧ p0.2.1.2.1.2.2.1 = p1.2.1.2.1.2.2.1 ∧ p0.2.1.2.1.2.2.2 = p1.2.1.2.1.2.2.2 ∧ p0.2.1.2.2.1 = p1.2.1.2.2.1 ∧ p0.2.1.2.2.2.1 = p1.2.1.2.2.2.1 ∧ p0.2.1.2.2.2.2.1 = p1.2.1.2.2.2.2.1 ∧ p0.2.1.2.2.2.2.2 = p1.2.1.2.2.2.2.2))); try rw [hb0]; all_goals simp only [Bool.not_true, Bool.not_false, Bool.true_and, Bool.false_and, Bool.true_or, Bool.false_or, Bool.and_true, Bool.or_false, cond_true, cond_false]), trivial⟩, hW⟩
    ·
      rw [hb0] at hF
      refine ls_w hF hW (wanted_y hF rfl rfl rfl rfl) rfl (Nat.le_of_ble_eq_true rfl) ((y_fieldAddr Tryd.underlying27 rfl rfl rfl T24 hF rfl 1 rfl).q) (fun a w hF hW => ?_)
      refine ls_w hF hW (wanted_y hF rfl rfl rfl rfl) rfl (Nat.le_of_ble_eq_true rfl) ((y_load (v := Value.agg #[.int .i64 p0.2.1.1, .int .i64 p0.2.1.2.1.1, .int .i64 p0.2.1.2.1.2.1, .int .i64 p0.2.1.2.1.2.2.1, .int .i64 p0.2.1.2.1.2.2.2, .int .i64 p0.2.1.2.2.1, .int .i64 p0.2.1.2.2.2.1, .int .i64 p0.2.1.2.2.2.2.1, .int .i64 p0.2.1.2.2.2.2.2]) 1 hF rfl rfl T24 rfl).q) (fun a w hF hW => ?_)
      refine ls_w hF hW (wanted_y hF rfl rfl rfl rfl) rfl (Nat.le_of_ble_eq_true rfl) ((y_fieldAddr Tryd.underlying27 rfl rfl rfl T24 hF rfl 1 rfl).q) (fun a w hF hW => ?_)
      refine ls_w hF hW (wanted_y hF rfl rfl rfl rfl) rfl (Nat.le_of_ble_eq_true rfl) ((y_load (v := Value.agg #[.int .i64 p1.2.1.1, .int .i64 p1.2.1.2.1.1, .int .i64 p1.2.1.2.1.2.1, .int .i64 p1.2.1.2.1.2.2.1, .int .i64 p1.2.1.2.1.2.2.2, .int .i64 p1.2.1.2.2.1, .int .i64 p1.2.1.2.2.2.1, .int .i64 p1.2.1.2.2.2.2.1, .int .i64 p1.2.1.2.2.2.2.2]) 0 hF rfl rfl T24 rfl).q) (fun a w hF hW => ?_)
      refine ls_w hF hW (wanted_y hF rfl rfl rfl rfl) rfl (Nat.le_of_ble_eq_true rfl) ((y_eqa (t := decide (p0.2.1.1 = p1.2.1.1 ∧ p0.2.1.2.1.1 = p1.2.1.2.1.1 ∧ p0.2.1.2.1.2.1 = p1.2.1.2.1.2.1 ∧ p0.2.1.2.1.2.2.1 = p1.2.1.2.1.2.2.1 ∧ p0.2.1.2.1.2.2.2 = p1.2.1.2.1.2.2.2 ∧ p0.2.1.2.2.1 = p1.2.1.2.2.1 ∧ p0.2.1.2.2.2.1 = p1.2.1.2.2.2.1 ∧ p0.2.1.2.2.2.2.1 = p1.2.1.2.2.2.2.1 ∧ p0.2.1.2.2.2.2.2 = p1.2.1.2.2.2.2.2)) G24 (Q24 _ _ _ _ _ _ _ _ _ _ _ _ _ _ _ _ _ _) hF rfl rfl).q) (fun a w hF hW => ?_)
      refine ls hF hW rfl ((y_pick_f hF rfl rfl rfl).q) (fun a w hF hW => ?_)
      refine ls_nil ?_
      refine c_then ?_
      exact ⟨hF.re ⟨rfl, rfl, rfl, (by show some (Value.bool (decide (p0.2.1.1 = p1.2.1.1 ∧ p0.2.1.2.1.1 = p1.2.1.2.1.1 ∧ p0.2.1.2.1.2.1 = p1.2.1.2.1.2.1 ∧ p0.2.1.2.1.2.2.1 = p1.2.1.2.1.2.2.1 ∧ p0.2.1.2.1.2.2.2 = p1.2.1.2.1.2.2.2 ∧ p0.2.1.2.2.1 = p1.2.1.2.2.1 ∧ p0.2.1.2.2.2.1 = p1.2.1.2.2.2.1 ∧ p0.2.1.2.2.2.2.1 = p1.2.1.2.2.2.2.1 ∧ p0.2.1.2.2.2.2.2 = p1.2.1.2.2.2.2.2))) = some (Value.bool (decide (p0.1 ≠ p1.1) || decide (p0.2.1.1 = p1.2.1.1 ∧ p0.2.1.2.1.1 = p1.2.1.2.1.1 ∧ p0.2.1.2.1.2.1 = p1.2.1.2.1.2.1 ∧ p0.2.1.2.1.2.2.1 = p1.2.1.2.1.2.2.1 ∧ p0.2.1.2.1.2.2.2 = p1.2.1.2.1.2.2.2 ∧ p0.2.1.2.2.1 = p1.2.1.2.2.1 ∧ p0.2.1.2.2.2.1 = p1.2.1.2.2.2.1 ∧ p0.2.1.2.2.2.2.1 = p1.2.1.2.2.2.2.1 ∧ p0.2.1.2.2.2.2.2 = p1.2.1.2.2.2.2.2))); try rw [hb0]; all_goals simp only [Bool.not_true, Bool.not_false, Bool.true_and, Bool.false_and, Bool.true_or, Bool.false_or, Bool.and_true, Bool.or_false, cond_true, cond_false]), trivial⟩, hW⟩
  rintro a w ⟨hF, hW⟩
  refine c_cond hF rfl (fun hb => ?_) (fun hb => ?_)
  ·
    have H := iteT hb H
    rw [hb] at hF
    clear hb
    refine c_seq ?_
    refine reg_list ?_
    refine ls hF hW rfl ((y_assign hF rfl).q) (fun a w hF hW => ?_)
    refine ls_nil ?_
    refine c_then ?_
    refine wp_ret ?_
    refine r_then ?_
    have H := Option.some.inj H
    subst H
    refine post1 (.inl rfl) hF hW rfl (rv_tmp hF rfl) ?_
    exact ⟨rfl, hW.done⟩
  ·
    have H := iteF (by rw [hb]; decide) H
    rw [hb] at hF
    clear hb
    refine wp_skip ?_
    refine c_then ?_
    refine c_seq ?_
    refine reg_list ?_
    refine ls hF hW rfl ((y_fieldAddr Tryd.underlying27 rfl rfl rfl T24 hF rfl 1 rfl).q) (fun a w hF hW => ?_)
    refine ls hF hW rfl ((y_load (v := Value.agg #[.int .i64 p0.2.1.1, .int .i64 p0.2.1.2.1.1, .int .i64 p0.2.1.2.1.2.1, .int .i64 p0.2.1.2.1.2.2.1, .int .i64 p0.2.1.2.1.2.2.2, .int .i64 p0.2.1.2.2.1, .int .i64 p0.2.1.2.2.2.1, .int .i64 p0.2.1.2.2.2.2.1, .int .i64 p0.2.1.2.2.2.2.2]) 1 hF rfl rfl T24 rfl).q) (fun a w hF hW => ?_)
    refine ls hF hW rfl ((y_fieldAddr Tryd.underlying27 rfl rfl rfl T24 hF rfl 1 rfl).q) (fun a w hF hW => ?_)
    refine ls hF hW rfl ((y_load (v := Value.agg #[.int .i64 p1.2.1.1, .int .i64 p1.2.1.2.1.1, .int .i64 p1.2.1.2.1.2.1, .int .i64 p1.2.1.2.1.2.2.1, .int .i64 p1.2.1.2.1.2.2.2, .int .i64 p1.2.1.2.2.1, .int .i64 p1.2.1.2.2.2.1, .int .i64 p1.2.1.2.2.2.2.1, .int .i64 p1.2.1.2.2.2.2.2]) 0 hF rfl rfl T24 rfl).q) (fun a w hF hW => ?_)
    obtain ⟨x1, h1, H⟩ := bindE H
    refine ls hF hW rfl (y_call (v := Value.tuple #[.agg #[.int .i64 x1.1.1, .int .i64 x1.1.2.1.1, .int .i64 x1.1.2.1.2.1, .int .i64 x1.1.2.1.2.2.1, .int .i64 x1.1.2.1.2.2.2, .int .i64 x1.1.2.2.1, .int .i64 x1.1.2.2.2.1, .int .i64 x1.1.2.2.2.2.1, .int .i64 x1.1.2.2.2.2.2], .bool x1.2]) hF H39 rfl (fun w hW => r08_Meet_c any w p0.2.1 p1.2.1 _ h1)) (fun a w hF hW => ?_)
    refine ls hF hW rfl ((y_move hF rfl).q) (fun a w hF hW => ?_)
    refine ls hF hW rfl ((y_extract (v := Value.agg #[.int .i64 x1.1.1, .int .i64 x1.1.2.1.1, .int .i64 x1.1.2.1.2.1, .int .i64 x1.1.2.1.2.2.1, .int .i64 x1.1.2.1.2.2.2, .int .i64 x1.1.2.2.1, .int .i64 x1.1.2.2.2.1, .int .i64 x1.1.2.2.2.2.1, .int .i64 x1.1.2.2.2.2.2]) hF rfl rfl).q) (fun a w hF hW => ?_)
    refine ls hF hW rfl ((y_extract (v := Value.bool x1.2) hF rfl rfl).q) (fun a w hF hW => ?_)
    refine l_alloc (cs := [.int .i64 0, .int .i64 0, .int .i64 0, .int .i64 0, .int .i64 0, .int .i64 0, .int .i64 0, .int .i64 0, .int .i64 0]) hF hW rfl Z24 rfl (fun b3 a w hF hW => ?_)
    refine l_store (vs := [.int .i64 x1.1.1, .int .i64 x1.1.2.1.1, .int .i64 x1.1.2.1.2.1, .int .i64 x1.1.2.1.2.2.1, .int .i64 x1.1.2.1.2.2.2, .int .i64 x1.1.2.2.1, .int .i64 x1.1.2.2.2.1, .int .i64 x1.1.2.2.2.2.1, .int .i64 x1.1.2.2.2.2.2]) (M' := [(b3, [.int .i64 x1.1.1, .int .i64 x1.1.2.1.1, .int .i64 x1.1.2.1.2.1, .int .i64 x1.1.2.1.2.2.1, .int .i64 x1.1.2.1.2.2.2, .int .i64 x1.1.2.2.1, .int .i64 x1.1.2.2.2.1, .int .i64 x1.1.2.2.2.2.1, .int .i64 x1.1.2.2.2.2.2]), (b2, [.int .i64 p1.1, .int .i64 p1.2.1.1, .int .i64 p1.2.1.2.1.1, .int .i64 p1.2.1.2.1.2.1, .int .i64 p1.2.1.2.1.2.2.1, .int .i64 p1.2.1.2.1.2.2.2, .int .i64 p1.2.1.2.2.1, .int .i64 p1.2.1.2.2.2.1, .int .i64 p1.2.1.2.2.2.2.1, .int .i64 p1.2.1.2.2.2.2.2, v2]), (b1, [.int .i64 p0.1, .int .i64 p0.2.1.1, .int .i64 p0.2.1.2.1.1, .int .i64 p0.2.1.2.1.2.1, .int .i64 p0.2.1.2.1.2.2.1, .int .i64 p0.2.1.2.1.2.2.2, .int .i64 p0.2.1.2.2.1, .int .i64 p0.2.1.2.2.2.1, .int .i64 p0.2.1.2.2.2.2.1, .int .i64 p0.2.1.2.2.2.2.2, v1])]) 0 hF hW rfl rfl rfl T24 rfl rfl rfl rfl rfl (fun w hW => ?_)
    refine ls hF hW rfl ((y_assign hF rfl).q) (fun a w hF hW => ?_)
    refine ls_nil ?_
    refine c_then ?_
    refine c_seq ?_
    refine reg_list ?_
    refine ls hF hW rfl ((y_move hF rfl).q) (fun a w hF hW => ?_)
    refine ls hF hW rfl ((y_assign hF rfl).q) (fun a w hF hW => ?_)
    refine ls_nil ?_
    refine c_then ?_
    refine wp_ret ?_
    have H := Option.some.inj H
    subst H
    refine post1 (.inl rfl) hF hW rfl (rv_tmp hF rfl) ?_
    exact ⟨rfl, hW.done⟩

theorem H16 : Has Tryd.prog 16 := ⟨fun args w => run_callFunc_body Tryd.func16 rfl (by decide) args w⟩
theorem L73 : Et Tryd.prog 73 5 1 1 := Et.of Tryd.underlying73 (by kernel_rfl) (by kernel_rfl) (by kernel_rfl) (by decide)
theorem Z5 : (Tryd.prog.info? 5).bind (·.zero) = some (.int .u8 0) := by kernel_rfl
theorem T5 : Ty Tryd.prog 5 false 1 := ⟨by kernel_rfl, by kernel_rfl⟩
noncomputable def octet_bigEndian_l1 (p0 : Int) (p1 : Int) : (List Int × Int) → Option ((List Int × Int) ⊕ (List Int))
  | (x3, x4) => (if x4 < p1 then (shN (shrI .i64 p0 (w64 (8 * (w64 ((w64 (p1 - 1)) - x4))))) (w64 (8 * (w64 ((w64 (p1 - 1)) - x4))))).bind fun x5 => (ix x3 x4).bind fun x6 => some (.inl ((setAt x3 x4 (IntKind.u8.wrap x5)), w64 (x4 + 1))) else some (.inr x3))
noncomputable def octet_bigEndian (p0 : Int) (p1 : Int) : Option (List UInt8) := (mk p1 (0 : Int)).bind fun x1 => (loopW (octet_bigEndian_l1 p0 p1) (x1, 0)).bind fun x2 => some (strOf x2)
theorem octet_bigEndian_c (Y : Nat → Prop) (w0 : World)  (p0 : Int) (p1 : Int) (r : List UInt8) (H : octet_bigEndian p0 p1 = some r)  :
    Calls Tryd.prog 68 #[.int .i64 p0, .int .i64 p1] w0 fun e w' => e = .returned (.string (bs r)) ∧ Below w0.heap.size w0 w' := by
  refine enter Tryd.func68 rfl Tryd.ntmps68 rfl (fun a hF => ?_)
  have hW := Stw.start Y w0
  unfold octet_bigEndian at H
  refine c_seq ?_
  refine reg_list ?_
  refine ls hF hW rfl ((y_assign (v := Value.string (bs ([] : List UInt8))) hF rfl).q) (fun a w hF hW => ?_)
  refine ls_nil ?_
  refine c_then ?_
  refine c_seq ?_
  refine reg_list ?_
  refine ls hF hW rfl ((y_move hF rfl).q) (fun a w hF hW => ?_)
  obtain ⟨x1, h1, H⟩ := bindE H
  refine l_make (r := (Rp.int .u8)) (0 : Int) hF hW rfl L73 Z5 rfl rfl (fun w A => Fl.int.mk' w A _) h1 rfl (fun v1 a w hF hW => ?_)
  refine ls hF hW rfl ((y_assign hF rfl).q) (fun a w hF hW => ?_)
  refine ls_nil ?_
  refine c_then ?_
  obtain ⟨o1, G1, K1⟩ := bindE H
  refine c_seqJ (fun a w => ∃ x2 : List Int, some (x2) = some o1 ∧ Fr 27 [] [(4, .string (bs ([] : List UInt8))), (5, v1)] a ∧ Stw ⟨Y, [], w0⟩ [] [row v1 5 (Rp.int .u8) x2] w) ?_ ?_
  ·
    have H := G1
    clear G1 K1
    refine c_seq ?_
    refine reg_list ?_
    refine ls hF hW rfl ((y_move hF rfl).q) (fun a w hF hW => ?_)
    refine ls hF hW rfl ((y_move hF rfl).q) (fun a w hF hW => ?_)
    refine ls_nil ?_
    refine c_then ?_
    refine wp_block ?_
    refine c_loopW H (fun s a w => Fr 27 [] [(0, .int .i64 p0), (1, .int .i64 p1), (4, .string (bs ([] : List UInt8))), (5, v1), (9, .int .i64 p1), (10, .int .i64 s.2)] a ∧ Stw ⟨Y, [], w0⟩ [] [row v1 5 (Rp.int .u8) s.1] w) ⟨hF.re ⟨rfl, rfl, rfl, rfl, rfl, rfl, trivial⟩, hW⟩ (fun s o a w H L2 hR => ?_)
    obtain ⟨x3, x4⟩ := s
    obtain ⟨hF, hW⟩ := hR
    have hF : Fr 27 [] [(0, .int .i64 p0), (1, .int .i64 p1), (4, .string (bs ([] : List UInt8))), (5, v1), (9, .int .i64 p1), (10, .int .i64 x4)] a := hF
    have hW : Stw ⟨Y, [], w0⟩ [] [row v1 5 (Rp.int .u8) x3] w := hW
    rw [octet_bigEndian_l1] at H
    refine c_seq ?_
    refine reg_list ?_
    refine ls hF hW rfl ((y_lss hF rfl rfl).q) (fun a w hF hW => ?_)
    refine ls_nil ?_
    refine c_then ?_
    refine c_seq ?_
    refine c_cond hF rfl (fun hb => ?_) (fun hb => ?_)
    ·
      have H := iteT (of_decide_eq_true hb) H
      rw [hb] at hF
      clear hb
      refine wp_skip ?_
      refine c_then ?_
      refine c_seq ?_
      refine wp_block ?_
      refine c_seq ?_
      refine reg_list ?_
      refine ls hF hW rfl ((y_move hF rfl).q) (fun a w hF hW => ?_)
      refine ls hF hW rfl ((y_assign hF rfl).q) (fun a w hF hW => ?_)
      refine ls_nil ?_
      refine c_then ?_
      refine reg_list ?_
      refine ls hF hW rfl ((y_move hF rfl).q) (fun a w hF hW => ?_)
      refine ls hF hW rfl ((y_move hF rfl).q) (fun a w hF hW => ?_)
      refine ls hF hW rfl ((y_move hF rfl).q) (fun a w hF hW => ?_)
      refine ls hF hW rfl ((y_move hF rfl).q) (fun a w hF hW => ?_)
      refine ls hF hW rfl ((y_sub hF rfl rfl rfl).q) (fun a w hF hW => ?_)
      refine ls hF hW rfl ((y_move hF rfl).q) (fun a w hF hW => ?_)
      refine ls hF hW rfl ((y_sub hF rfl rfl rfl).q) (fun a w hF hW => ?_)
      refine ls hF hW rfl ((y_mul hF rfl rfl rfl).q) (fun a w hF hW => ?_)
      obtain ⟨x5, h2, H⟩ := bindE H
      refine ls hF hW rfl ((y_shc (shN_some h2).2 (y_shr hF rfl rfl (shN_some h2).1)).q) (fun a w hF hW => ?_)
      refine ls hF hW rfl ((y_convI Tryd.underlying3 Tryd.underlying5 hF rfl).q) (fun a w hF hW => ?_)
      obtain ⟨x6, h3, H⟩ := bindE H
      refine ls hF hW rfl ((y_index (r := (Rp.int .u8)) L73 hF rfl rfl (rdc_row 0 rfl) h3).q) (fun a w hF hW => ?_)
      refine l_store_el (i := x4) (j := 0) (vs := [.int .u8 (IntKind.u8.wrap x5)]) (x' := IntKind.u8.wrap x5) hF hW rfl rfl rfl (k := 0) rfl rfl h3 T5 rfl rfl rfl rfl (fun A cs _ => Fl.int.sto (by rfl) _ _ _) (fun w hW => ?_)
      refine ls_nil ?_
      refine b_normal ?_
      refine c_then ?_
      refine reg_list ?_
      refine ls hF hW rfl ((y_add hF rfl rfl rfl).q) (fun a w hF hW => ?_)
      refine ls hF hW rfl ((y_move hF rfl).q) (fun a w hF hW => ?_)
      refine ls_nil ?_
      refine c_then ?_
      exact ⟨_, H, hF.re ⟨rfl, rfl, rfl, rfl, rfl, rfl, trivial⟩, hW⟩
    ·
      have H := iteF (of_decide_eq_false hb) H
      rw [hb] at hF
      clear hb
      refine wp_exit ?_
      refine e_then ?_
      refine e_then ?_
      refine e_block ?_
      refine c_then ?_
      have H := L2 _ H
      exact ⟨_, H, hF.re ⟨rfl, rfl, trivial⟩, hW⟩
  rintro a w ⟨x2, hj, hF, hW⟩
  have hj := Option.some.inj hj
  subst hj
  have H := K1
  clear G1 K1
  refine c_seq ?_
  refine reg_list ?_
  refine ls hF hW rfl ((y_move hF rfl).q) (fun a w hF hW => ?_)
  refine ls hF hW rfl ((y_convB (ns := x2) Tryd.underlying73 Tryd.underlying5 Tryd.underlying9 hF rfl (rdc_row 0 rfl)).q) (fun a w hF hW => ?_)
  refine ls hF hW rfl ((y_assign hF rfl).q) (fun a w hF hW => ?_)
  refine ls_nil ?_
  refine c_then ?_
  refine wp_ret ?_
  have H := Option.some.inj H
  subst H
  refine post1 (.inl rfl) hF hW rfl (rv_tmp hF rfl) ?_
  exact ⟨rfl, hW.done⟩

theorem H68 : Has Tryd.prog 68 := ⟨fun args w => run_callFunc_body Tryd.func68 rfl (by decide) args w⟩
noncomputable def octet_Num (p0 : Int) (p1 : Int) : Option (List UInt8) := (if p1 < 1 then some true else (if 7 < p1 then some true else (if p0 < 0 then some true else (shN (shrI .i64 p0 (w64 (8 * p1))) (w64 (8 * p1))).bind fun x2 => some (decide (x2 ≠ 0))))).bind fun x1 => (if x1 = true then some ([] : List UInt8) else (octet_bigEndian p0 p1).bind fun x3 => some x3)
theorem octet_Num_c (Y : Nat → Prop) (w0 : World)  (p0 : Int) (p1 : Int) (r : List UInt8) (H : octet_Num p0 p1 = some r)  :
    Calls Tryd.prog 40 #[.int .i64 p0, .int .i64 p1] w0 fun e w' => e = .returned (.string (bs r)) ∧ Below w0.heap.size w0 w' := by
  refine enter Tryd.func40 rfl Tryd.ntmps40 rfl (fun a hF => ?_)
  have hW := Stw.start Y w0
  unfold octet_Num at H
  refine c_seq ?_
  refine reg_list ?_
  refine ls hF hW rfl ((y_assign (v := Value.string (bs ([] : List UInt8))) hF rfl).q) (fun a w hF hW => ?_)
  refine ls_nil ?_
  refine c_then ?_
  refine c_seq ?_
  obtain ⟨o1, G1, K1⟩ := bindE H
  refine c_seqJ (fun a w => ∃ x1 : Bool, some (x1) = some o1 ∧ Fr 25 [] [(0, .int .i64 p0), (1, .int .i64 p1), (4, .string (bs ([] : List UInt8))), (21, .bool x1)] a ∧ Stw ⟨Y, [], w0⟩ [] [] w) ?_ ?_
  ·
    have H := G1
    clear G1 K1
    refine reg_list ?_
    refine ls hF hW rfl ((y_move hF rfl).q) (fun a w hF hW => ?_)
    refine ls hF hW rfl ((y_lss hF rfl rfl).q) (fun a w hF hW => ?_)
    refine ls hF hW rfl ((y_move hF rfl).q) (fun a w hF hW => ?_)
    rcases Bool.eq_false_or_eq_true (decide (p1 < 1)) with hb | hb
    ·
      have H := iteT (of_decide_eq_true hb) H
      rw [hb] at hF
      clear hb
      refine ls_skip hF (wanted_n hF rfl rfl rfl rfl rfl) rfl rfl (fun a hF => ?_)
      refine ls_skip hF (wanted_n hF rfl rfl rfl rfl rfl) rfl rfl (fun a hF => ?_)
      refine ls hF hW rfl ((y_pick_t hF rfl rfl rfl).q) (fun a w hF hW => ?_)
      refine ls hF hW rfl ((y_move hF rfl).q) (fun a w hF hW => ?_)
      refine ls_skip hF (wanted_n hF rfl rfl rfl rfl rfl) rfl rfl (fun a hF => ?_)
      refine ls_skip hF (wanted_n hF rfl rfl rfl rfl rfl) rfl rfl (fun a hF => ?_)
      refine ls hF hW rfl ((y_pick_t hF rfl rfl rfl).q) (fun a w hF hW => ?_)
      refine ls hF hW rfl ((y_move hF rfl).q) (fun a w hF hW => ?_)
      refine ls_skip hF (wanted_n hF rfl rfl rfl rfl rfl) rfl rfl (fun a hF => ?_)
      refine ls_skip hF (wanted_n hF rfl rfl rfl rfl rfl) rfl rfl (fun a hF => ?_)
      refine ls_skip hF (wanted_n hF rfl rfl rfl rfl rfl) rfl rfl (fun a hF => ?_)
      refine ls_skip hF (wanted_n hF rfl rfl rfl rfl rfl) rfl rfl (fun a hF => ?_)
      refine ls_skip hF (wanted_n hF rfl rfl rfl rfl rfl) rfl rfl (fun a hF => ?_)
      refine ls hF hW rfl ((y_pick_t hF rfl rfl rfl).q) (fun a w hF hW => ?_)
      refine ls_nil ?_
      refine c_then ?_
      exact ⟨_, H, hF.re ⟨rfl, rfl, rfl, rfl, trivial⟩, hW⟩
    ·
      have H := iteF (of_decide_eq_false hb) H
      rw [hb] at hF
      clear hb
      refine ls_w hF hW (wanted_y hF rfl rfl rfl rfl) rfl (Nat.le_of_ble_eq_true rfl) ((y_move hF rfl).q) (fun a w hF hW => ?_)
      refine ls_w hF hW (wanted_y hF rfl rfl rfl rfl) rfl (Nat.le_of_ble_eq_true rfl) ((y_gtr hF rfl rfl).q) (fun a w hF hW => ?_)
      refine ls hF hW rfl ((y_pick_f hF rfl rfl rfl).q) (fun a w hF hW => ?_)
      refine ls hF hW rfl ((y_move hF rfl).q) (fun a w hF hW => ?_)
      rcases Bool.eq_false_or_eq_true (decide (7 < p1)) with hb | hb
      ·
        have H := iteT (of_decide_eq_true hb) H
        rw [hb] at hF
        clear hb
        refine ls_skip hF (wanted_n hF rfl rfl rfl rfl rfl) rfl rfl (fun a hF => ?_)
        refine ls_skip hF (wanted_n hF rfl rfl rfl rfl rfl) rfl rfl (fun a hF => ?_)
        refine ls hF hW rfl ((y_pick_t hF rfl rfl rfl).q) (fun a w hF hW => ?_)
        refine ls hF hW rfl ((y_move hF rfl).q) (fun a w hF hW => ?_)
        refine ls_skip hF (wanted_n hF rfl rfl rfl rfl rfl) rfl rfl (fun a hF => ?_)
        refine ls_skip hF (wanted_n hF rfl rfl rfl rfl rfl) rfl rfl (fun a hF => ?_)
        refine ls_skip hF (wanted_n hF rfl rfl rfl rfl rfl) rfl rfl (fun a hF => ?_)
        refine ls_skip hF (wanted_n hF rfl rfl rfl rfl rfl) rfl rfl (fun a hF => ?_)
        refine ls_skip hF (wanted_n hF rfl rfl rfl rfl rfl) rfl rfl (fun a hF => ?_)
        refine ls hF hW rfl ((y_pick_t hF rfl rfl rfl).q) (fun a w hF hW => ?_)
        refine ls_nil ?_
        refine c_then ?_
        exact ⟨_, H, hF.re ⟨rfl, rfl, rfl, rfl, trivial⟩, hW⟩
      ·
        have H := iteF (of_decide_eq_false hb) H
        rw [hb] at hF
        clear hb
        refine ls_w hF hW (wanted_y hF rfl rfl rfl rfl) rfl (Nat.le_of_ble_eq_true rfl) ((y_move hF rfl).q) (fun a w hF hW => ?_)
        refine ls_w hF hW (wanted_y hF rfl rfl rfl rfl) rfl (Nat.le_of_ble_eq_true rfl) ((y_lss hF rfl rfl).q) (fun a w hF hW => ?_)
        refine ls hF hW rfl ((y_pick_f hF rfl rfl rfl).q) (fun a w hF hW => ?_)
        refine ls hF hW rfl ((y_move hF rfl).q) (fun a w hF hW => ?_)
        rcases Bool.eq_false_or_eq_true (decide (p0 < 0)) with hb | hb
        ·
          have H := iteT (of_decide_eq_true hb) H
          rw [hb] at hF
          clear hb
          refine ls_skip hF (wanted_n hF rfl rfl rfl rfl rfl) rfl rfl (fun a hF => ?_)
          refine ls_skip hF (wanted_n hF rfl rfl rfl rfl rfl) rfl rfl (fun a hF => ?_)
          refine ls_skip hF (wanted_n hF rfl rfl rfl rfl rfl) rfl rfl (fun a hF => ?_)
          refine ls_skip hF (wanted_n hF rfl rfl rfl rfl rfl) rfl rfl (fun a hF => ?_)
          refine ls_skip hF (wanted_n hF rfl rfl rfl rfl rfl) rfl rfl (fun a hF => ?_)
          refine ls hF hW rfl ((y_pick_t hF rfl rfl rfl).q) (fun a w hF hW => ?_)
          refine ls_nil ?_
          refine c_then ?_
          exact ⟨_, H, hF.re ⟨rfl, rfl, rfl, rfl, trivial⟩, hW⟩
        ·
          have H := iteF (of_decide_eq_false hb) H
          rw [hb] at hF
          clear hb
          refine ls_w hF hW (wanted_y hF rfl rfl rfl rfl) rfl (Nat.le_of_ble_eq_true rfl) ((y_move hF rfl).q) (fun a w hF hW => ?_)
          refine ls_w hF hW (wanted_y hF rfl rfl rfl rfl) rfl (Nat.le_of_ble_eq_true rfl) ((y_move hF rfl).q) (fun a w hF hW => ?_)
          refine ls_w hF hW (wanted_y hF rfl rfl rfl rfl) rfl (Nat.le_of_ble_eq_true rfl) ((y_mul hF rfl rfl rfl).q) (fun a w hF hW => ?_)
          obtain ⟨x2, h1, H⟩ := bindE H
          refine ls_w hF hW (wanted_y hF rfl rfl rfl rfl) rfl (Nat.le_of_ble_eq_true rfl) ((y_shc (shN_some h1).2 (y_shr hF rfl rfl (shN_some h1).1)).q) (fun a w hF hW => ?_)
          refine ls_w hF hW (wanted_y hF rfl rfl rfl rfl) rfl (Nat.le_of_ble_eq_true rfl) ((y_neq hF rfl rfl).q) (fun a w hF hW => ?_)
          refine ls hF hW rfl ((y_pick_f hF rfl rfl rfl).q) (fun a w hF hW => ?_)
          refine ls_nil ?_
          refine c_then ?_
          exact ⟨_, H, hF.re ⟨rfl, rfl, rfl, rfl, trivial⟩, hW⟩
  rintro a w ⟨x1, hj, hF, hW⟩
  have hj := Option.some.inj hj
  subst hj
  have H := K1
  clear G1 K1
  refine c_cond hF rfl (fun hb => ?_) (fun hb => ?_)
  ·
    have H := iteT hb H
    rw [hb] at hF
    clear hb
    refine c_seq ?_
    refine reg_list ?_
    refine ls hF hW rfl ((y_assign (v := Value.string (bs ([] : List UInt8))) hF rfl).q) (fun a w hF hW => ?_)
    refine ls_nil ?_
    refine c_then ?_
    refine wp_ret ?_
    refine r_then ?_
    have H := Option.some.inj H
    subst H
    refine post1 (.inl rfl) hF hW rfl (rv_tmp hF rfl) ?_
    exact ⟨rfl, hW.done⟩
  ·
    have H := iteF (by rw [hb]; decide) H
    rw [hb] at hF
    clear hb
    refine wp_skip ?_
    refine c_then ?_
    refine c_seq ?_
    refine reg_list ?_
    refine ls hF hW rfl ((y_move hF rfl).q) (fun a w hF hW => ?_)
    refine ls hF hW rfl ((y_move hF rfl).q) (fun a w hF hW => ?_)
    obtain ⟨x3, h2, H⟩ := bindE H
    refine ls hF hW rfl (y_call (v := Value.string (bs x3)) hF H68 rfl (fun w hW => octet_bigEndian_c any w p0 p1 _ h2)) (fun a w hF hW => ?_)
    refine ls hF hW rfl ((y_assign hF rfl).q) (fun a w hF hW => ?_)
    refine ls_nil ?_
    refine c_then ?_
    refine wp_ret ?_
    have H := Option.some.inj H
    subst H
    refine post1 (.inl rfl) hF hW rfl (rv_tmp hF rfl) ?_
    exact ⟨rfl, hW.done⟩

theorem H40 : Has Tryd.prog 40 := ⟨fun args w => run_callFunc_body Tryd.func40 rfl (by decide) args w⟩
theorem H69 : Has Tryd.prog 69 := ⟨fun args w => run_callFunc_body Tryd.func69 rfl (by decide) args w⟩
theorem H70 : Has Tryd.prog 70 := ⟨fun args w => run_callFunc_body Tryd.func70 rfl (by decide) args w⟩
noncomputable def match_Code_l1 (p0 : Int × (Int × Int × Int × Int) × (Int × Int × Int × Int)) : (Int × List UInt8) → Option ((Int × List UInt8) ⊕ (List UInt8))
  | (x4, x5) => (if x4 < 4 then (ix ([p0.2.2.1, p0.2.2.2.1, p0.2.2.2.2.1, p0.2.2.2.2.2] : List Int) x4).bind fun x6 => (ix ([p0.2.1.1, p0.2.1.2.1, p0.2.1.2.2.1, p0.2.1.2.2.2] : List Int) x4).bind fun x7 => (octet_Num x7 1).bind fun x8 => (app x5 x8).bind fun x9 => (octet_Num x6 1).bind fun x10 => (app x9 x10).bind fun x11 => some (.inl (w64 (x4 + 1), x11)) else some (.inr x5))
noncomputable def match_Code (p0 : Int × (Int × Int × Int × Int) × (Int × Int × Int × Int)) : Option (List UInt8) := (octet_Num (w64 (p0.1 + 1)) 1).bind fun x1 => (app ([] : List UInt8) x1).bind fun x2 => (loopW (match_Code_l1 p0) (0, x2)).bind fun x3 => (lenB x3).bind fun x12 => some x12
theorem match_Code_c (Y : Nat → Prop) (w0 : World)  (p0 : Int × (Int × Int × Int × Int) × (Int × Int × Int × Int)) (r : List UInt8) (H : match_Code p0 = some r)  :
    Calls Tryd.prog 41 #[.agg #[.int .i64 p0.1, .int .i64 p0.2.1.1, .int .i64 p0.2.1.2.1, .int .i64 p0.2.1.2.2.1, .int .i64 p0.2.1.2.2.2, .int .i64 p0.2.2.1, .int .i64 p0.2.2.2.1, .int .i64 p0.2.2.2.2.1, .int .i64 p0.2.2.2.2.2]] w0 fun e w' => e = .returned (.string (bs r)) ∧ Below w0.heap.size w0 w' := by
  refine enter Tryd.func41 rfl Tryd.ntmps41 rfl (fun a hF => ?_)
  have hW := Stw.start Y w0
  unfold match_Code at H
  refine c_seq ?_
  refine reg_list ?_
  refine l_box (cs := [.int .i64 p0.1, .int .i64 p0.2.1.1, .int .i64 p0.2.1.2.1, .int .i64 p0.2.1.2.2.1, .int .i64 p0.2.1.2.2.2, .int .i64 p0.2.2.1, .int .i64 p0.2.2.2.1, .int .i64 p0.2.2.2.2.1, .int .i64 p0.2.2.2.2.2]) hF hW rfl rfl rfl (fun b1 a w hF hW => ?_)
  refine ls hF hW rfl ((y_assign (v := Value.string (bs ([] : List UInt8))) hF rfl).q) (fun a w hF hW => ?_)
  refine ls_nil ?_
  refine c_then ?_
  refine c_seq ?_
  refine reg_list ?_
  refine l_allocB hF hW rfl (fun b2 a w hF hW => ?_)
  have hW : Stw ⟨Y, [], w0⟩ [(b1, [.int .i64 p0.1, .int .i64 p0.2.1.1, .int .i64 p0.2.1.2.1, .int .i64 p0.2.1.2.2.1, .int .i64 p0.2.1.2.2.2, .int .i64 p0.2.2.1, .int .i64 p0.2.2.2.1, .int .i64 p0.2.2.2.2.1, .int .i64 p0.2.2.2.2.2])] [bldr 75 5 b2 (Value.slice none 0 0) ([] : List UInt8)] w := hW
  refine ls_nil ?_
  refine c_then ?_
  refine c_seq ?_
  refine reg_list ?_
  refine ls hF hW rfl ((y_fieldAddr Tryd.underlying24 rfl rfl rfl T3 hF rfl 0 rfl).q) (fun a w hF hW => ?_)
  refine ls hF hW rfl ((y_load (v := Value.int .i64 p0.1) 0 hF rfl rfl T3 rfl).q) (fun a w hF hW => ?_)
  refine ls hF hW rfl ((y_add hF rfl rfl rfl).q) (fun a w hF hW => ?_)
  obtain ⟨x1, h1, H⟩ := bindE H
  refine ls hF hW rfl (y_call (v := Value.string (bs x1)) hF H40 rfl (fun w hW => octet_Num_c any w (w64 (p0.1 + 1)) 1 _ h1)) (fun a w hF hW => ?_)
  obtain ⟨x2, h2, H⟩ := bindE H
  refine l_callG (Ml := []) (Zl := [bldr 75 5 b2 (Value.slice none 0 0) ([] : List UInt8)]) (M := [(b1, [.int .i64 p0.1, .int .i64 p0.2.1.1, .int .i64 p0.2.1.2.1, .int .i64 p0.2.1.2.2.1, .int .i64 p0.2.1.2.2.2, .int .i64 p0.2.2.1, .int .i64 p0.2.2.2.1, .int .i64 p0.2.2.2.2.1, .int .i64 p0.2.2.2.2.2])]) (Z := []) (β := Value) (rv := fun x => .tuple #[.int .i64 (x1.length : Int), .nilIface]) (MM := fun x => []) (ZZ := fun x => [bldr 75 5 b2 x x2]) hF hW H69 rfl rfl (fun hL => ws_c _ _ w b2 (Value.slice none 0 0) ([] : List UInt8) x1 _ h2 hL) (fun v1 a w hF hW => ?_)
  have hW : Stw ⟨Y, [], w0⟩ [(b1, [.int .i64 p0.1, .int .i64 p0.2.1.1, .int .i64 p0.2.1.2.1, .int .i64 p0.2.1.2.2.1, .int .i64 p0.2.1.2.2.2, .int .i64 p0.2.2.1, .int .i64 p0.2.2.2.1, .int .i64 p0.2.2.2.2.1, .int .i64 p0.2.2.2.2.2])] [bldr 75 5 b2 v1 x2] w := hW
  refine ls_nil ?_
  refine c_then ?_
  obtain ⟨o1, G1, K1⟩ := bindE H
  refine c_seqJ (fun a w => ∃ x3 : List UInt8, ∃ v2 : Value, some (x3) = some o1 ∧ Fr 28 [] [(2, .string (bs ([] : List UInt8))), (3, .pointer (some ⟨b2, 0, none⟩))] a ∧ Stw ⟨Y, [], w0⟩ [(b1, [.int .i64 p0.1, .int .i64 p0.2.1.1, .int .i64 p0.2.1.2.1, .int .i64 p0.2.1.2.2.1, .int .i64 p0.2.1.2.2.2, .int .i64 p0.2.2.1, .int .i64 p0.2.2.2.1, .int .i64 p0.2.2.2.2.1, .int .i64 p0.2.2.2.2.2])] [bldr 75 5 b2 v2 x3] w) ?_ ?_
  ·
    have H := G1
    clear G1 K1
    refine c_seq ?_
    refine reg_list ?_
    refine ls hF hW rfl ((y_fieldAddr Tryd.underlying24 rfl rfl rfl T22 hF rfl 5 rfl).q) (fun a w hF hW => ?_)
    refine ls hF hW rfl ((y_load (v := Value.agg #[.int .i64 p0.2.2.1, .int .i64 p0.2.2.2.1, .int .i64 p0.2.2.2.2.1, .int .i64 p0.2.2.2.2.2]) 0 hF rfl rfl T22 rfl).q) (fun a w hF hW => ?_)
    refine ls hF hW rfl ((y_move hF rfl).q) (fun a w hF hW => ?_)
    refine ls_nil ?_
    refine c_then ?_
    refine wp_block ?_
    refine c_loopW H (fun s a w => ∃ v3 : Value, Fr 28 [] [(1, .pointer (some ⟨b1, 0, none⟩)), (2, .string (bs ([] : List UInt8))), (3, .pointer (some ⟨b2, 0, none⟩)), (12, .agg #[.int .i64 p0.2.2.1, .int .i64 p0.2.2.2.1, .int .i64 p0.2.2.2.2.1, .int .i64 p0.2.2.2.2.2]), (13, .int .i64 s.1)] a ∧ Stw ⟨Y, [], w0⟩ [(b1, [.int .i64 p0.1, .int .i64 p0.2.1.1, .int .i64 p0.2.1.2.1, .int .i64 p0.2.1.2.2.1, .int .i64 p0.2.1.2.2.2, .int .i64 p0.2.2.1, .int .i64 p0.2.2.2.1, .int .i64 p0.2.2.2.2.1, .int .i64 p0.2.2.2.2.2])] [bldr 75 5 b2 v3 s.2] w) ⟨v1, hF.re ⟨rfl, rfl, rfl, rfl, rfl, trivial⟩, hW⟩ (fun s o a w H L2 hR => ?_)
    obtain ⟨x4, x5⟩ := s
    obtain ⟨v3, hF, hW⟩ := hR
    have hF : Fr 28 [] [(1, .pointer (some ⟨b1, 0, none⟩)), (2, .string (bs ([] : List UInt8))), (3, .pointer (some ⟨b2, 0, none⟩)), (12, .agg #[.int .i64 p0.2.2.1, .int .i64 p0.2.2.2.1, .int .i64 p0.2.2.2.2.1, .int .i64 p0.2.2.2.2.2]), (13, .int .i64 x4)] a := hF
    have hW : Stw ⟨Y, [], w0⟩ [(b1, [.int .i64 p0.1, .int .i64 p0.2.1.1, .int .i64 p0.2.1.2.1, .int .i64 p0.2.1.2.2.1, .int .i64 p0.2.1.2.2.2, .int .i64 p0.2.2.1, .int .i64 p0.2.2.2.1, .int .i64 p0.2.2.2.2.1, .int .i64 p0.2.2.2.2.2])] [bldr 75 5 b2 v3 x5] w := hW
    rw [match_Code_l1] at H
    refine c_seq ?_
    refine reg_list ?_
    refine ls hF hW rfl ((y_lss hF rfl rfl).q) (fun a w hF hW => ?_)
    refine ls_nil ?_
    refine c_then ?_
    refine c_seq ?_
    refine c_cond hF rfl (fun hb => ?_) (fun hb => ?_)
    ·
      have H := iteT (of_decide_eq_true hb) H
      rw [hb] at hF
      clear hb
      refine wp_skip ?_
      refine c_then ?_
      refine c_seq ?_
      refine wp_block ?_
      refine c_seq ?_
      refine reg_list ?_
      refine ls hF hW rfl ((y_move hF rfl).q) (fun a w hF hW => ?_)
      obtain ⟨x6, h3, H⟩ := bindE H
      refine ls hF hW rfl ((y_indexA (enc := Value.int .i64) (cs := [.int .i64 p0.2.2.1, .int .i64 p0.2.2.2.1, .int .i64 p0.2.2.2.2.1, .int .i64 p0.2.2.2.2.2]) Ar22 T3 hF rfl rfl rfl rfl h3).q) (fun a w hF hW => ?_)
      refine ls hF hW rfl ((y_assign hF rfl).q) (fun a w hF hW => ?_)
      refine ls hF hW rfl ((y_assign hF rfl).q) (fun a w hF hW => ?_)
      refine ls_nil ?_
      refine c_then ?_
      refine c_seq ?_
      refine reg_list ?_
      refine ls hF hW rfl ((y_move hF rfl).q) (fun a w hF hW => ?_)
      refine ls hF hW rfl ((y_fieldAddr Tryd.underlying24 rfl rfl rfl T22 hF rfl 1 rfl).q) (fun a w hF hW => ?_)
      obtain ⟨x7, h4, H⟩ := bindE H
      refine ls hF hW rfl ((y_indexP (1 + (x4).toNat * 1) Ar22 hF rfl rfl rfl h4 rfl).q) (fun a w hF hW => ?_)
      refine ls hF hW rfl ((y_load (v := Value.int .i64 x7) 0 hF rfl rfl T3 (rdv_dyn (base := 1) (m := 4) (l := [p0.2.1.1, p0.2.1.2.1, p0.2.1.2.2.1, p0.2.1.2.2.2]) (enc := Value.int .i64) rfl h4)).q) (fun a w hF hW => ?_)
      obtain ⟨x8, h5, H⟩ := bindE H
      refine ls hF hW rfl (y_call (v := Value.string (bs x8)) hF H40 rfl (fun w hW => octet_Num_c any w x7 1 _ h5)) (fun a w hF hW => ?_)
      obtain ⟨x9, h6, H⟩ := bindE H
      refine l_callG (Ml := []) (Zl := [bldr 75 5 b2 v3 x5]) (M := [(b1, [.int .i64 p0.1, .int .i64 p0.2.1.1, .int .i64 p0.2.1.2.1, .int .i64 p0.2.1.2.2.1, .int .i64 p0.2.1.2.2.2, .int .i64 p0.2.2.1, .int .i64 p0.2.2.2.1, .int .i64 p0.2.2.2.2.1, .int .i64 p0.2.2.2.2.2])]) (Z := []) (β := Value) (rv := fun x => .tuple #[.int .i64 (x8.length : Int), .nilIface]) (MM := fun x => []) (ZZ := fun x => [bldr 75 5 b2 x x9]) hF hW H69 rfl rfl (fun hL => ws_c _ _ w b2 v3 x5 x8 _ h6 hL) (fun v4 a w hF hW => ?_)
      have hW : Stw ⟨Y, [], w0⟩ [(b1, [.int .i64 p0.1, .int .i64 p0.2.1.1, .int .i64 p0.2.1.2.1, .int .i64 p0.2.1.2.2.1, .int .i64 p0.2.1.2.2.2, .int .i64 p0.2.2.1, .int .i64 p0.2.2.2.1, .int .i64 p0.2.2.2.2.1, .int .i64 p0.2.2.2.2.2])] [bldr 75 5 b2 v4 x9] w := hW
      refine ls_nil ?_
      refine c_then ?_
      refine reg_list ?_
      refine ls hF hW rfl ((y_move hF rfl).q) (fun a w hF hW => ?_)
      obtain ⟨x10, h7, H⟩ := bindE H
      refine ls hF hW rfl (y_call (v := Value.string (bs x10)) hF H40 rfl (fun w hW => octet_Num_c any w x6 1 _ h7)) (fun a w hF hW => ?_)
      obtain ⟨x11, h8, H⟩ := bindE H
      refine l_callG (Ml := []) (Zl := [bldr 75 5 b2 v4 x9]) (M := [(b1, [.int .i64 p0.1, .int .i64 p0.2.1.1, .int .i64 p0.2.1.2.1, .int .i64 p0.2.1.2.2.1, .int .i64 p0.2.1.2.2.2, .int .i64 p0.2.2.1, .int .i64 p0.2.2.2.1, .int .i64 p0.2.2.2.2.1, .int .i64 p0.2.2.2.2.2])]) (Z := []) (β := Value) (rv := fun x => .tuple #[.int .i64 (x10.length : Int), .nilIface]) (MM := fun x => []) (ZZ := fun x => [bldr 75 5 b2 x x11]) hF hW H69 rfl rfl (fun hL => ws_c _ _ w b2 v4 x9 x10 _ h8 hL) (fun v5 a w hF hW => ?_)
      have hW : Stw ⟨Y, [], w0⟩ [(b1, [.int .i64 p0.1, .int .i64 p0.2.1.1, .int .i64 p0.2.1.2.1, .int .i64 p0.2.1.2.2.1, .int .i64 p0.2.1.2.2.2, .int .i64 p0.2.2.1, .int .i64 p0.2.2.2.1, .int .i64 p0.2.2.2.2.1, .int .i64 p0.2.2.2.2.2])] [bldr 75 5 b2 v5 x11] w := hW
      refine ls_nil ?_
      refine b_normal ?_
      refine c_then ?_
      refine reg_list ?_
      refine ls hF hW rfl ((y_add hF rfl rfl rfl).q) (fun a w hF hW => ?_)
      refine ls hF hW rfl ((y_move hF rfl).q) (fun a w hF hW => ?_)
      refine ls_nil ?_
      refine c_then ?_
      exact ⟨_, H, v5, hF.re ⟨rfl, rfl, rfl, rfl, rfl, trivial⟩, hW⟩
    ·
      have H := iteF (of_decide_eq_false hb) H
      rw [hb] at hF
      clear hb
      refine wp_exit ?_
      refine e_then ?_
      refine e_then ?_
      refine e_block ?_
      refine c_then ?_
      have H := L2 _ H
      exact ⟨_, v3, H, hF.re ⟨rfl, rfl, trivial⟩, hW⟩
  rintro a w ⟨x3, v2, hj, hF, hW⟩
  have hj := Option.some.inj hj
  subst hj
  have H := K1
  clear G1 K1
  refine c_seq ?_
  refine reg_list ?_
  obtain ⟨x12, h9, H⟩ := bindE H
  refine l_callG (Ml := []) (Zl := [bldr 75 5 b2 v2 x3]) (M := [(b1, [.int .i64 p0.1, .int .i64 p0.2.1.1, .int .i64 p0.2.1.2.1, .int .i64 p0.2.1.2.2.1, .int .i64 p0.2.1.2.2.2, .int .i64 p0.2.2.1, .int .i64 p0.2.2.2.1, .int .i64 p0.2.2.2.2.1, .int .i64 p0.2.2.2.2.2])]) (Z := []) (β := Unit) (rv := fun x => .string (bs x12)) (MM := fun x => []) (ZZ := fun x => [bldr 75 5 b2 v2 x3]) hF hW H70 rfl rfl (fun hL => st_c _ _ w b2 v2 x3 _ h9 hL) (fun _ a w hF hW => ?_)
  have hW : Stw ⟨Y, [], w0⟩ [(b1, [.int .i64 p0.1, .int .i64 p0.2.1.1, .int .i64 p0.2.1.2.1, .int .i64 p0.2.1.2.2.1, .int .i64 p0.2.1.2.2.2, .int .i64 p0.2.2.1, .int .i64 p0.2.2.2.1, .int .i64 p0.2.2.2.2.1, .int .i64 p0.2.2.2.2.2])] [bldr 75 5 b2 v2 x3] w := hW
  refine ls hF hW rfl ((y_assign hF rfl).q) (fun a w hF hW => ?_)
  refine ls_nil ?_
  refine c_then ?_
  refine wp_ret ?_
  have H := Option.some.inj H
  subst H
  refine post1 (.inl rfl) hF hW rfl (rv_tmp hF rfl) ?_
  exact ⟨rfl, hW.done⟩

theorem H41 : Has Tryd.prog 41 := ⟨fun args w => run_callFunc_body Tryd.func41 rfl (by decide) args w⟩
noncomputable def act_Code_l1 (p0 : List (Int × Int × Int)) : (Int × List UInt8) → Option ((Int × List UInt8) ⊕ (List UInt8))
  | (x4, x5) => (if x4 < (p0.length : Int) then (ix p0 x4).bind fun x6 => (octet_Num x6.1 1).bind fun x7 => (octet_Num x6.2.1 1).bind fun x8 => (app x7 x8).bind fun x9 => (octet_Num x6.2.2 1).bind fun x10 => (app x9 x10).bind fun x11 => (app x5 x11).bind fun x12 => some (.inl (w64 (x4 + 1), x12)) else some (.inr x5))
noncomputable def act_Code (p0 : List (Int × Int × Int)) : Option (List UInt8) := (octet_Num (p0.length : Int) 1).bind fun x1 => (app ([] : List UInt8) x1).bind fun x2 => (loopW (act_Code_l1 p0) (0, x2)).bind fun x3 => (lenB x3).bind fun x13 => some x13
theorem act_Code_c (Y : Nat → Prop) (w0 : World) (v1 : Value) (p0 : List (Int × Int × Int)) (r : List UInt8) (H : act_Code p0 = some r) (h_v1 : Sl w0 (NX []) R60 v1 p0) :
    Calls Tryd.prog 42 #[v1] w0 fun e w' => e = .returned (.string (bs r)) ∧ Below w0.heap.size w0 w' := by
  refine enter Tryd.func42 rfl Tryd.ntmps42 rfl (fun a hF => ?_)
  have hW := Stw.start Y w0
  unfold act_Code at H
  refine c_seq ?_
  refine reg_list ?_
  refine ls hF hW rfl ((y_assign (v := Value.string (bs ([] : List UInt8))) hF rfl).q) (fun a w hF hW => ?_)
  refine ls_nil ?_
  refine c_then ?_
  refine c_seq ?_
  refine reg_list ?_
  refine l_allocB hF hW rfl (fun b1 a w hF hW => ?_)
  have hW : Stw ⟨Y, [], w0⟩ [] [bldr 75 5 b1 (Value.slice none 0 0) ([] : List UInt8)] w := hW
  refine ls_nil ?_
  refine c_then ?_
  refine c_seq ?_
  refine reg_list ?_
  refine ls hF hW rfl ((y_move hF rfl).q) (fun a w hF hW => ?_)
  refine ls hF hW rfl ((y_len (r := R60) (l := p0) Tryd.underlying25 rfl hF rfl (rdc_ro h_v1)).q) (fun a w hF hW => ?_)
  obtain ⟨x1, h1, H⟩ := bindE H
  refine ls hF hW rfl (y_call (v := Value.string (bs x1)) hF H40 rfl (fun w hW => octet_Num_c any w (p0.length : Int) 1 _ h1)) (fun a w hF hW => ?_)
  obtain ⟨x2, h2, H⟩ := bindE H
  refine l_callG (Ml := []) (Zl := [bldr 75 5 b1 (Value.slice none 0 0) ([] : List UInt8)]) (M := []) (Z := []) (β := Value) (rv := fun x => .tuple #[.int .i64 (x1.length : Int), .nilIface]) (MM := fun x => []) (ZZ := fun x => [bldr 75 5 b1 x x2]) hF hW H69 rfl rfl (fun hL => ws_c _ _ w b1 (Value.slice none 0 0) ([] : List UInt8) x1 _ h2 hL) (fun v2 a w hF hW => ?_)
  have hW : Stw ⟨Y, [], w0⟩ [] [bldr 75 5 b1 v2 x2] w := hW
  refine ls_nil ?_
  refine c_then ?_
  obtain ⟨o1, G1, K1⟩ := bindE H
  refine c_seqJ (fun a w => ∃ x3 : List UInt8, ∃ v3 : Value, some (x3) = some o1 ∧ Fr 30 [] [(2, .string (bs ([] : List UInt8))), (3, .pointer (some ⟨b1, 0, none⟩))] a ∧ Stw ⟨Y, [], w0⟩ [] [bldr 75 5 b1 v3 x3] w) ?_ ?_
  ·
    have H := G1
    clear G1 K1
    refine c_seq ?_
    refine reg_list ?_
    refine ls hF hW rfl ((y_move hF rfl).q) (fun a w hF hW => ?_)
    refine ls hF hW rfl ((y_len (r := R60) (l := p0) Tryd.underlying25 rfl hF rfl (rdc_ro h_v1)).q) (fun a w hF hW => ?_)
    refine ls hF hW rfl ((y_move hF rfl).q) (fun a w hF hW => ?_)
    refine ls_nil ?_
    refine c_then ?_
    refine wp_block ?_
    refine c_loopW H (fun s a w => ∃ v4 : Value, Fr 30 [] [(2, .string (bs ([] : List UInt8))), (3, .pointer (some ⟨b1, 0, none⟩)), (10, v1), (11, .int .i64 (p0.length : Int)), (12, .int .i64 s.1)] a ∧ Stw ⟨Y, [], w0⟩ [] [bldr 75 5 b1 v4 s.2] w) ⟨v2, hF.re ⟨rfl, rfl, rfl, rfl, rfl, trivial⟩, hW⟩ (fun s o a w H L2 hR => ?_)
    obtain ⟨x4, x5⟩ := s
    obtain ⟨v4, hF, hW⟩ := hR
    have hF : Fr 30 [] [(2, .string (bs ([] : List UInt8))), (3, .pointer (some ⟨b1, 0, none⟩)), (10, v1), (11, .int .i64 (p0.length : Int)), (12, .int .i64 x4)] a := hF
    have hW : Stw ⟨Y, [], w0⟩ [] [bldr 75 5 b1 v4 x5] w := hW
    rw [act_Code_l1] at H
    refine c_seq ?_
    refine reg_list ?_
    refine ls hF hW rfl ((y_lss hF rfl rfl).q) (fun a w hF hW => ?_)
    refine ls_nil ?_
    refine c_then ?_
    refine c_seq ?_
    refine c_cond hF rfl (fun hb => ?_) (fun hb => ?_)
    ·
      have H := iteT (of_decide_eq_true hb) H
      rw [hb] at hF
      clear hb
      refine wp_skip ?_
      refine c_then ?_
      refine c_seq ?_
      refine wp_block ?_
      refine c_seq ?_
      refine reg_list ?_
      obtain ⟨x6, h3, H⟩ := bindE H
      refine ls hF hW rfl ((y_index (r := R60) L25 hF rfl rfl (rdc_ro h_v1) h3).q) (fun a w hF hW => ?_)
      refine ls hF hW rfl ((y_load_el (y := Value.agg #[.int .i64 x6.1, .int .i64 x6.2.1, .int .i64 x6.2.2]) (j := 0) (i := x4) hF rfl rfl (rdc_ro h_v1) h3 F60.to T60 rfl).q) (fun a w hF hW => ?_)
      refine l_alloc (cs := [.int .i64 0, .int .i64 0, .int .i64 0]) hF hW rfl Z60 rfl (fun b2 a w hF hW => ?_)
      refine l_store (vs := [.int .i64 x6.1, .int .i64 x6.2.1, .int .i64 x6.2.2]) (M' := [(b2, [.int .i64 x6.1, .int .i64 x6.2.1, .int .i64 x6.2.2])]) 0 hF hW rfl rfl rfl T60 rfl rfl rfl rfl rfl (fun w hW => ?_)
      refine ls_nil ?_
      refine c_then ?_
      refine reg_tail 11 hW MO (by kernel_rfl) ?_
      refine qs hF rfl ((y_fieldAddr Tryd.underlying60 rfl rfl rfl T3 hF rfl 0 rfl).q) (fun a hF => ?_)
      refine qs hF rfl ((y_load (v := Value.int .i64 x6.1) 0 hF rfl rfl T3 rfl).q) (fun a hF => ?_)
      obtain ⟨x7, h4, H⟩ := bindE H
      refine qs hF rfl (y_call (v := Value.string (bs x7)) hF H40 rfl (fun w hW => octet_Num_c any w x6.1 1 _ h4)) (fun a hF => ?_)
      refine qs hF rfl ((y_fieldAddr Tryd.underlying60 rfl rfl rfl T3 hF rfl 1 rfl).q) (fun a hF => ?_)
      refine qs hF rfl ((y_load (v := Value.int .i64 x6.2.1) 0 hF rfl rfl T3 rfl).q) (fun a hF => ?_)
      obtain ⟨x8, h5, H⟩ := bindE H
      refine qs hF rfl (y_call (v := Value.string (bs x8)) hF H40 rfl (fun w hW => octet_Num_c any w x6.2.1 1 _ h5)) (fun a hF => ?_)
      obtain ⟨x9, h6, H⟩ := bindE H
      refine qs hF rfl ((y_sadd (l := x7) (m := x8) hF rfl rfl h6).q) (fun a hF => ?_)
      refine qs hF rfl ((y_fieldAddr Tryd.underlying60 rfl rfl rfl T3 hF rfl 2 rfl).q) (fun a hF => ?_)
      refine qs hF rfl ((y_load (v := Value.int .i64 x6.2.2) 0 hF rfl rfl T3 rfl).q) (fun a hF => ?_)
      obtain ⟨x10, h7, H⟩ := bindE H
      refine qs hF rfl (y_call (v := Value.string (bs x10)) hF H40 rfl (fun w hW => octet_Num_c any w x6.2.2 1 _ h7)) (fun a hF => ?_)
      obtain ⟨x11, h8, H⟩ := bindE H
      refine qs hF rfl ((y_sadd (l := x9) (m := x10) hF rfl rfl h8).q) (fun a hF => ?_)
      refine quiet_end (fun w hW => ?_)
      obtain ⟨x12, h9, H⟩ := bindE H
      refine l_callG (Ml := []) (Zl := [bldr 75 5 b1 v4 x5]) (M := [(b2, [.int .i64 x6.1, .int .i64 x6.2.1, .int .i64 x6.2.2])]) (Z := []) (β := Value) (rv := fun x => .tuple #[.int .i64 (x11.length : Int), .nilIface]) (MM := fun x => []) (ZZ := fun x => [bldr 75 5 b1 x x12]) hF hW H69 rfl rfl (fun hL => ws_c _ _ w b1 v4 x5 x11 _ h9 hL) (fun v5 a w hF hW => ?_)
      have hW : Stw ⟨Y, [], w0⟩ [(b2, [.int .i64 x6.1, .int .i64 x6.2.1, .int .i64 x6.2.2])] [bldr 75 5 b1 v5 x12] w := hW
      refine ls_nil ?_
      refine b_normal ?_
      refine c_then ?_
      refine reg_list ?_
      refine ls hF hW rfl ((y_add hF rfl rfl rfl).q) (fun a w hF hW => ?_)
      refine ls hF hW rfl ((y_move hF rfl).q) (fun a w hF hW => ?_)
      refine ls_nil ?_
      refine c_then ?_
      have hW := hW.sub (M' := []) (Z' := [bldr 75 5 b1 v5 x12]) (List.nil_sublist _) (List.Sublist.refl _)
      exact ⟨_, H, v5, hF.re ⟨rfl, rfl, rfl, rfl, rfl, trivial⟩, hW⟩
    ·
      have H := iteF (of_decide_eq_false hb) H
      rw [hb] at hF
      clear hb
      refine wp_exit ?_
      refine e_then ?_
      refine e_then ?_
      refine e_block ?_
      refine c_then ?_
      have H := L2 _ H
      exact ⟨_, v4, H, hF.re ⟨rfl, rfl, trivial⟩, hW⟩
  rintro a w ⟨x3, v3, hj, hF, hW⟩
  have hj := Option.some.inj hj
  subst hj
  have H := K1
  clear G1 K1
  refine c_seq ?_
  refine reg_list ?_
  obtain ⟨x13, h10, H⟩ := bindE H
  refine l_callG (Ml := []) (Zl := [bldr 75 5 b1 v3 x3]) (M := []) (Z := []) (β := Unit) (rv := fun x => .string (bs x13)) (MM := fun x => []) (ZZ := fun x => [bldr 75 5 b1 v3 x3]) hF hW H70 rfl rfl (fun hL => st_c _ _ w b1 v3 x3 _ h10 hL) (fun _ a w hF hW => ?_)
  have hW : Stw ⟨Y, [], w0⟩ [] [bldr 75 5 b1 v3 x3] w := hW
  refine ls hF hW rfl ((y_assign hF rfl).q) (fun a w hF hW => ?_)
  refine ls_nil ?_
  refine c_then ?_
  refine wp_ret ?_
  have H := Option.some.inj H
  subst H
  refine post1 (.inl rfl) hF hW rfl (rv_tmp hF rfl) ?_
  exact ⟨rfl, hW.done⟩

theorem H42 : Has Tryd.prog 42 := ⟨fun args w => run_callFunc_body Tryd.func42 rfl (by decide) args w⟩
noncomputable def rule_Code (p0 : Int × (Int × (Int × Int × Int × Int) × (Int × Int × Int × Int)) × (List (Int × Int × Int))) : Option (List UInt8) := (octet_Num p0.1 2).bind fun x1 => (match_Code p0.2.1).bind fun x2 => (app x1 x2).bind fun x3 => (act_Code p0.2.2).bind fun x4 => (app x3 x4).bind fun x5 => some x5
theorem rule_Code_c (Y : Nat → Prop) (w0 : World) (v1 : Value) (p0 : Int × (Int × (Int × Int × Int × Int) × (Int × Int × Int × Int)) × (List (Int × Int × Int))) (r : List UInt8) (H : rule_Code p0 = some r) (h_v1 : Sl w0 (NX []) R60 v1 p0.2.2) :
    Calls Tryd.prog 17 #[.agg #[.int .i64 p0.1, .int .i64 p0.2.1.1, .int .i64 p0.2.1.2.1.1, .int .i64 p0.2.1.2.1.2.1, .int .i64 p0.2.1.2.1.2.2.1, .int .i64 p0.2.1.2.1.2.2.2, .int .i64 p0.2.1.2.2.1, .int .i64 p0.2.1.2.2.2.1, .int .i64 p0.2.1.2.2.2.2.1, .int .i64 p0.2.1.2.2.2.2.2, v1]] w0 fun e w' => e = .returned (.string (bs r)) ∧ Below w0.heap.size w0 w' := by
  refine enter Tryd.func17 rfl Tryd.ntmps17 rfl (fun a hF => ?_)
  have hW := Stw.start Y w0
  unfold rule_Code at H
  refine c_seq ?_
  refine reg_list ?_
  refine l_box (cs := [.int .i64 p0.1, .int .i64 p0.2.1.1, .int .i64 p0.2.1.2.1.1, .int .i64 p0.2.1.2.1.2.1, .int .i64 p0.2.1.2.1.2.2.1, .int .i64 p0.2.1.2.1.2.2.2, .int .i64 p0.2.1.2.2.1, .int .i64 p0.2.1.2.2.2.1, .int .i64 p0.2.1.2.2.2.2.1, .int .i64 p0.2.1.2.2.2.2.2, v1]) hF hW rfl rfl rfl (fun b1 a w hF hW => ?_)
  refine ls hF hW rfl ((y_assign (v := Value.string (bs ([] : List UInt8))) hF rfl).q) (fun a w hF hW => ?_)
  refine ls_nil ?_
  refine c_then ?_
  refine c_seq ?_
  refine reg_quiet hW MO (by kernel_rfl) ?_
  refine qs hF rfl ((y_fieldAddr Tryd.underlying27 rfl rfl rfl T3 hF rfl 0 rfl).q) (fun a hF => ?_)
  refine qs hF rfl ((y_load (v := Value.int .i64 p0.1) 0 hF rfl rfl T3 rfl).q) (fun a hF => ?_)
  obtain ⟨x1, h1, H⟩ := bindE H
  refine qs hF rfl (y_call (v := Value.string (bs x1)) hF H40 rfl (fun w hW => octet_Num_c any w p0.1 2 _ h1)) (fun a hF => ?_)
  refine qs hF rfl ((y_fieldAddr Tryd.underlying27 rfl rfl rfl T24 hF rfl 1 rfl).q) (fun a hF => ?_)
  refine qs hF rfl ((y_load (v := Value.agg #[.int .i64 p0.2.1.1, .int .i64 p0.2.1.2.1.1, .int .i64 p0.2.1.2.1.2.1, .int .i64 p0.2.1.2.1.2.2.1, .int .i64 p0.2.1.2.1.2.2.2, .int .i64 p0.2.1.2.2.1, .int .i64 p0.2.1.2.2.2.1, .int .i64 p0.2.1.2.2.2.2.1, .int .i64 p0.2.1.2.2.2.2.2]) 0 hF rfl rfl T24 rfl).q) (fun a hF => ?_)
  obtain ⟨x2, h2, H⟩ := bindE H
  refine qs hF rfl (y_call (v := Value.string (bs x2)) hF H41 rfl (fun w hW => match_Code_c any w p0.2.1 _ h2)) (fun a hF => ?_)
  obtain ⟨x3, h3, H⟩ := bindE H
  refine qs hF rfl ((y_sadd (l := x1) (m := x2) hF rfl rfl h3).q) (fun a hF => ?_)
  refine qs hF rfl ((y_fieldAddr Tryd.underlying27 rfl rfl rfl T25 hF rfl 10 rfl).q) (fun a hF => ?_)
  refine qs hF rfl ((y_load (v := v1) 0 hF rfl rfl T25 rfl).q) (fun a hF => ?_)
  obtain ⟨x4, h4, H⟩ := bindE H
  refine qs hF rfl (y_call (v := Value.string (bs x4)) hF H42 rfl (fun w hW => act_Code_c any w (v1) p0.2.2 _ h4 (((rdc_ro h_v1) : Rdc _ _ _ _ _ _) w hW).nx)) (fun a hF => ?_)
  obtain ⟨x5, h5, H⟩ := bindE H
  refine qs hF rfl ((y_sadd (l := x3) (m := x4) hF rfl rfl h5).q) (fun a hF => ?_)
  refine qs hF rfl ((y_assign hF rfl).q) (fun a hF => ?_)
  refine quiet_end (fun w hW => ?_)
  refine c_then ?_
  refine wp_ret ?_
  have H := Option.some.inj H
  subst H
  refine post1 (.inl rfl) hF hW rfl (rv_tmp hF rfl) ?_
  exact ⟨rfl, hW.done⟩

end Go.Proofs.YteeioghoidjbpaaDoor
