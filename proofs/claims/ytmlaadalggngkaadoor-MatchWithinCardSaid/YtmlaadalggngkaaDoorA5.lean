/- The functions of layer 8, lifted. Conditions: none. -/
import Derived.Test.YtmlaadalggngkaaDoorA4
namespace Go.Proofs.YtmlaadalggngkaaDoor
open Go Go.RowKit
set_option linter.unusedVariables false
set_option linter.unusedSimpArgs false
set_option maxRecDepth 20000
theorem H59 : Has Tryd.prog 59 := ⟨fun args w => run_callFunc_body Tryd.func59 rfl (by decide) args w⟩
noncomputable def r04_Reader_Num_l1 (x4 : List UInt8) : (Int × Int) → Option ((Int × Int) ⊕ Int)
  | (x10, x11) => (if x11 < (x4.length : Int) then (ix x4 x11).bind fun x12 => some (.inl (w64 ((w64 (x10 * 256)) + (w64 (x12.toNat : Int))), w64 (x11 + 1))) else some (.inr x10))
noncomputable def r04_Reader_Num (p0 : List UInt8 × Int × Int) (p1 : Int) : Option (Int × (List UInt8 × Int × Int)) := (if (decide (p1 < 1) || decide (7 < p1)) = true then some ((r04_Reader_Wrong p0 2).1, (r04_Reader_Wrong p0 2).2.1, (r04_Reader_Wrong p0 2).2.2) else some (p0.1, p0.2.1, p0.2.2)).bind fun (x1, x2, x3) => (if x3 = 0 then (r04_Reader_Take (x1, x2, x3) p1).bind fun x8 => some (x8.1, x8.2.1, x8.2.2.1, x8.2.2.2) else some (([] : List UInt8), x1, x2, x3)).bind fun (x4, x5, x6, x7) => (loopW (r04_Reader_Num_l1 x4) (0, 0)).bind fun x9 => some (x9, (x5, x6, x7))
theorem r04_Reader_Num_c (Y : Nat → Prop) (X : List Nat) (w0 : World) (q_p0 : Nat) (p0 : List UInt8 × Int × Int) (p1 : Int) (r : Int × (List UInt8 × Int × Int)) (H : r04_Reader_Num p0 p1 = some r) (hL : Stw ⟨Y, X, w0⟩ [(q_p0, [.string (bs p0.1), .int .i64 p0.2.1, .int .i64 p0.2.2])] [] w0) :
    Calls Tryd.prog 49 #[.pointer (some ⟨q_p0, 0, none⟩), .int .i64 p1] w0 fun e w' => ∃ x : Unit, e = .returned (.int .i64 r.1) ∧ Stw ⟨Y, X, w0⟩ [(q_p0, [.string (bs r.2.1), .int .i64 r.2.2.1, .int .i64 r.2.2.2])] [] w' := by
  refine enter Tryd.func49 rfl Tryd.ntmps49 rfl (fun a hF => ?_)
  have hW := hL
  unfold r04_Reader_Num at H
  refine c_seq ?_
  refine reg_list ?_
  refine ls hF hW rfl ((y_assign hF rfl).q) (fun a w hF hW => ?_)
  refine ls_nil ?_
  refine c_then ?_
  obtain ⟨o1, G1, K1⟩ := bindE H
  refine c_seqJ (fun a w => ∃ x1 : List UInt8, ∃ x2 : Int, ∃ x3 : Int, some ((x1, x2, x3)) = some o1 ∧ Fr 38 [] [(0, .pointer (some ⟨q_p0, 0, none⟩)), (1, .int .i64 p1), (4, .int .i64 0)] a ∧ Stw ⟨Y, X, w0⟩ [(q_p0, [.string (bs x1), .int .i64 x2, .int .i64 x3])] [] w) ?_ ?_
  ·
    have H := G1
    clear G1 K1
    refine c_seqJ (fun a w => Fr 38 [] [(0, .pointer (some ⟨q_p0, 0, none⟩)), (1, .int .i64 p1), (4, .int .i64 0), (13, .bool (decide (p1 < 1) || decide (7 < p1)))] a ∧ Stw ⟨Y, X, w0⟩ [(q_p0, [.string (bs p0.1), .int .i64 p0.2.1, .int .i64 p0.2.2])] [] w) ?_ ?_
    ·
      refine reg_list ?_
      refine ls hF hW rfl ((y_move hF rfl).q) (fun a w hF hW => ?_)
      refine ls hF hW rfl ((y_lss hF rfl rfl).q) (fun a w hF hW => ?_)
      refine ls hF hW rfl ((y_move hF rfl).q) (fun a w hF hW => ?_)
      rcases Bool.eq_false_or_eq_true (decide (p1 < 1)) with hb0 | hb0
      ·
        rw [hb0] at hF
        refine ls_skip hF (wanted_n hF rfl rfl rfl rfl rfl) rfl rfl (fun a hF => ?_)
        refine ls_skip hF (wanted_n hF rfl rfl rfl rfl rfl) rfl rfl (fun a hF => ?_)
        refine ls hF hW rfl ((y_pick_t hF rfl rfl rfl).q) (fun a w hF hW => ?_)
        refine ls_nil ?_
        refine c_then ?_
        exact ⟨hF.re ⟨rfl, rfl, rfl, (by show some (Value.bool true) = some (Value.bool (decide (p1 < 1) || decide (7 < p1))); try rw [hb0]; all_goals simp only [Bool.not_true, Bool.not_false, Bool.true_and, Bool.false_and, Bool.true_or, Bool.false_or, Bool.and_true, Bool.or_false, cond_true, cond_false]), trivial⟩, hW⟩
      ·
        rw [hb0] at hF
        refine ls_w hF hW (wanted_y hF rfl rfl rfl rfl) rfl (Nat.le_of_ble_eq_true rfl) ((y_move hF rfl).q) (fun a w hF hW => ?_)
        refine ls_w hF hW (wanted_y hF rfl rfl rfl rfl) rfl (Nat.le_of_ble_eq_true rfl) ((y_gtr hF rfl rfl).q) (fun a w hF hW => ?_)
        refine ls hF hW rfl ((y_pick_f hF rfl rfl rfl).q) (fun a w hF hW => ?_)
        refine ls_nil ?_
        refine c_then ?_
        exact ⟨hF.re ⟨rfl, rfl, rfl, (by show some (Value.bool (decide (7 < p1))) = some (Value.bool (decide (p1 < 1) || decide (7 < p1))); try rw [hb0]; all_goals simp only [Bool.not_true, Bool.not_false, Bool.true_and, Bool.false_and, Bool.true_or, Bool.false_or, Bool.and_true, Bool.or_false, cond_true, cond_false]), trivial⟩, hW⟩
    rintro a w ⟨hF, hW⟩
    refine c_cond hF rfl (fun hb => ?_) (fun hb => ?_)
    ·
      have H := iteT hb H
      rw [hb] at hF
      clear hb
      refine reg_list ?_
      refine ls hF hW rfl ((y_move hF rfl).q) (fun a w hF hW => ?_)
      refine l_callG (Ml := [(q_p0, [.string (bs p0.1), .int .i64 p0.2.1, .int .i64 p0.2.2])]) (Zl := []) (M := []) (Z := []) (β := Unit) (rv := fun x => .tuple #[]) (MM := fun x => [(q_p0, [.string (bs ((r04_Reader_Wrong p0 2).1)), .int .i64 ((r04_Reader_Wrong p0 2).2.1), .int .i64 ((r04_Reader_Wrong p0 2).2.2)])]) (ZZ := fun x => []) hF hW H50 rfl rfl (fun hL => r04_Reader_Wrong_c _ _ w q_p0 p0 2 _ rfl hL) (fun x a w hF hW => ?_)
      have hW : Stw ⟨Y, X, w0⟩ [(q_p0, [.string (bs ((r04_Reader_Wrong p0 2).1)), .int .i64 ((r04_Reader_Wrong p0 2).2.1), .int .i64 ((r04_Reader_Wrong p0 2).2.2)])] [] w := hW
      refine ls_nil ?_
      refine c_then ?_
      exact ⟨_, _, _, H, hF.re ⟨rfl, rfl, rfl, trivial⟩, hW⟩
    ·
      have H := iteF (by rw [hb]; decide) H
      rw [hb] at hF
      clear hb
      refine wp_skip ?_
      refine c_then ?_
      exact ⟨_, _, _, H, hF.re ⟨rfl, rfl, rfl, trivial⟩, hW⟩
  rintro a w ⟨x1, x2, x3, hj, hF, hW⟩
  have hj := Option.some.inj hj
  subst hj
  have H := K1
  clear G1 K1
  refine c_seq ?_
  refine reg_list ?_
  refine ls hF hW rfl ((y_assign (v := Value.string (bs ([] : List UInt8))) hF rfl).q) (fun a w hF hW => ?_)
  refine ls_nil ?_
  refine c_then ?_
  obtain ⟨o2, G2, K2⟩ := bindE H
  refine c_seqJ (fun a w => ∃ x4 : List UInt8, ∃ x5 : List UInt8, ∃ x6 : Int, ∃ x7 : Int, some ((x4, x5, x6, x7)) = some o2 ∧ Fr 38 [] [(4, .int .i64 0), (5, .string (bs x4))] a ∧ Stw ⟨Y, X, w0⟩ [(q_p0, [.string (bs x5), .int .i64 x6, .int .i64 x7])] [] w) ?_ ?_
  ·
    have H := G2
    clear G2 K2
    refine c_seq ?_
    refine reg_list ?_
    refine ls hF hW rfl ((y_move hF rfl).q) (fun a w hF hW => ?_)
    refine ls hF hW rfl ((y_nilCheck hF rfl).q) (fun a w hF hW => ?_)
    refine ls hF hW rfl ((y_fieldAddr Tryd.underlying42 rfl rfl rfl T3 hF rfl 2 rfl).q) (fun a w hF hW => ?_)
    refine ls hF hW rfl ((y_load (v := Value.int .i64 x3) 0 hF rfl rfl T3 rfl).q) (fun a w hF hW => ?_)
    refine ls hF hW rfl ((y_eql hF rfl rfl).q) (fun a w hF hW => ?_)
    refine ls_nil ?_
    refine c_then ?_
    refine c_cond hF rfl (fun hb => ?_) (fun hb => ?_)
    ·
      have H := iteT (of_decide_eq_true hb) H
      rw [hb] at hF
      clear hb
      refine reg_list ?_
      refine ls hF hW rfl ((y_move hF rfl).q) (fun a w hF hW => ?_)
      refine ls hF hW rfl ((y_move hF rfl).q) (fun a w hF hW => ?_)
      obtain ⟨x8, h1, H⟩ := bindE H
      refine l_callG (Ml := [(q_p0, [.string (bs x1), .int .i64 x2, .int .i64 x3])]) (Zl := []) (M := []) (Z := []) (β := Unit) (rv := fun x => .string (bs x8.1)) (MM := fun x => [(q_p0, [.string (bs x8.2.1), .int .i64 x8.2.2.1, .int .i64 x8.2.2.2])]) (ZZ := fun x => []) hF hW H59 rfl rfl (fun hL => r04_Reader_Take_c _ _ w q_p0 (x1, x2, x3) p1 _ h1 hL) (fun x a w hF hW => ?_)
      have hW : Stw ⟨Y, X, w0⟩ [(q_p0, [.string (bs x8.2.1), .int .i64 x8.2.2.1, .int .i64 x8.2.2.2])] [] w := hW
      refine ls hF hW rfl ((y_assign hF rfl).q) (fun a w hF hW => ?_)
      refine ls_nil ?_
      refine c_then ?_
      exact ⟨_, _, _, _, H, hF.re ⟨rfl, rfl, trivial⟩, hW⟩
    ·
      have H := iteF (of_decide_eq_false hb) H
      rw [hb] at hF
      clear hb
      refine wp_skip ?_
      refine c_then ?_
      exact ⟨_, _, _, _, H, hF.re ⟨rfl, rfl, trivial⟩, hW⟩
  rintro a w ⟨x4, x5, x6, x7, hj, hF, hW⟩
  have hj := Option.some.inj hj
  subst hj
  have H := K2
  clear G2 K2
  refine c_seq ?_
  refine reg_list ?_
  refine ls hF hW rfl ((y_assign hF rfl).q) (fun a w hF hW => ?_)
  refine ls_nil ?_
  refine c_then ?_
  obtain ⟨o3, G3, K3⟩ := bindE H
  refine c_seqJ (fun a w => ∃ x9 : Int, some (x9) = some o3 ∧ Fr 38 [] [(4, .int .i64 0), (6, .int .i64 x9)] a ∧ Stw ⟨Y, X, w0⟩ [(q_p0, [.string (bs x5), .int .i64 x6, .int .i64 x7])] [] w) ?_ ?_
  ·
    have H := G3
    clear G3 K3
    refine c_seq ?_
    refine reg_list ?_
    refine ls hF hW rfl ((y_assign hF rfl).q) (fun a w hF hW => ?_)
    refine ls_nil ?_
    refine c_then ?_
    refine wp_block ?_
    refine c_loopW H (fun s a w => Fr 38 [] [(4, .int .i64 0), (5, .string (bs x4)), (6, .int .i64 s.1), (7, .int .i64 s.2)] a ∧ Stw ⟨Y, X, w0⟩ [(q_p0, [.string (bs x5), .int .i64 x6, .int .i64 x7])] [] w) ⟨hF.re ⟨rfl, rfl, rfl, rfl, trivial⟩, hW⟩ (fun s o a w H L4 hR => ?_)
    obtain ⟨x10, x11⟩ := s
    obtain ⟨hF, hW⟩ := hR
    have hF : Fr 38 [] [(4, .int .i64 0), (5, .string (bs x4)), (6, .int .i64 x10), (7, .int .i64 x11)] a := hF
    have hW : Stw ⟨Y, X, w0⟩ [(q_p0, [.string (bs x5), .int .i64 x6, .int .i64 x7])] [] w := hW
    rw [r04_Reader_Num_l1] at H
    refine c_seq ?_
    refine c_seq ?_
    refine reg_list ?_
    refine ls hF hW rfl ((y_move hF rfl).q) (fun a w hF hW => ?_)
    refine ls hF hW rfl ((y_move hF rfl).q) (fun a w hF hW => ?_)
    refine ls hF hW rfl ((y_slen (l := x4) Tryd.underlying9 rfl hF rfl).q) (fun a w hF hW => ?_)
    refine ls hF hW rfl ((y_lss hF rfl rfl).q) (fun a w hF hW => ?_)
    refine ls_nil ?_
    refine c_then ?_
    refine c_cond hF rfl (fun hb => ?_) (fun hb => ?_)
    ·
      have H := iteT (of_decide_eq_true hb) H
      rw [hb] at hF
      clear hb
      refine wp_skip ?_
      refine c_then ?_
      refine c_seq ?_
      refine wp_block ?_
      refine reg_list ?_
      refine ls hF hW rfl ((y_move hF rfl).q) (fun a w hF hW => ?_)
      refine ls hF hW rfl ((y_mul hF rfl rfl rfl).q) (fun a w hF hW => ?_)
      refine ls hF hW rfl ((y_move hF rfl).q) (fun a w hF hW => ?_)
      refine ls hF hW rfl ((y_move hF rfl).q) (fun a w hF hW => ?_)
      obtain ⟨x12, h2, H⟩ := bindE H
      refine ls hF hW rfl ((y_sindex (l := x4) Tryd.underlying9 hF rfl rfl h2).q) (fun a w hF hW => ?_)
      refine ls hF hW rfl ((y_convI Tryd.underlying5 Tryd.underlying3 hF rfl).q) (fun a w hF hW => ?_)
      refine ls hF hW rfl ((y_add hF rfl rfl rfl).q) (fun a w hF hW => ?_)
      refine ls hF hW rfl ((y_assign hF rfl).q) (fun a w hF hW => ?_)
      refine ls_nil ?_
      refine b_normal ?_
      refine c_then ?_
      refine reg_list ?_
      refine ls hF hW rfl ((y_move hF rfl).q) (fun a w hF hW => ?_)
      refine ls hF hW rfl ((y_add hF rfl rfl rfl).q) (fun a w hF hW => ?_)
      refine ls hF hW rfl ((y_assign hF rfl).q) (fun a w hF hW => ?_)
      refine ls_nil ?_
      refine c_then ?_
      exact ⟨_, H, hF.re ⟨rfl, rfl, rfl, rfl, trivial⟩, hW⟩
    ·
      have H := iteF (of_decide_eq_false hb) H
      rw [hb] at hF
      clear hb
      refine wp_exit ?_
      refine e_then ?_
      refine e_then ?_
      refine e_block ?_
      refine c_then ?_
      have H := L4 _ H
      exact ⟨_, H, hF.re ⟨rfl, rfl, trivial⟩, hW⟩
  rintro a w ⟨x9, hj, hF, hW⟩
  have hj := Option.some.inj hj
  subst hj
  have H := K3
  clear G3 K3
  refine c_seq ?_
  refine reg_list ?_
  refine ls hF hW rfl ((y_move hF rfl).q) (fun a w hF hW => ?_)
  refine ls hF hW rfl ((y_assign hF rfl).q) (fun a w hF hW => ?_)
  refine ls_nil ?_
  refine c_then ?_
  refine wp_ret ?_
  have H := Option.some.inj H
  subst H
  refine post1 (.inl rfl) hF hW rfl (rv_tmp hF rfl) ?_
  exact ⟨(), rfl, hW⟩

theorem H49 : Has Tryd.prog 49 := ⟨fun args w => run_callFunc_body Tryd.func49 rfl (by decide) args w⟩
noncomputable def r08_Read_l1  : (Int × List UInt8 × Int × Int × Int × Int × Int × Int × Int × Int × Int × Int) → Option ((Int × List UInt8 × Int × Int × Int × Int × Int × Int × Int × Int × Int × Int) ⊕ (List UInt8 × Int × Int × Int × Int × Int × Int × Int × Int × Int × Int))
  | (x13, x14, x15, x16, x17, x18, x19, x20, x21, x22, x23, x24) => (if x13 < 4 then (r04_Reader_Num (x14, x15, x16) 1).bind fun x25 => (ix ([x17, x18, x19, x20] : List Int) x13).bind fun x26 => (r04_Reader_Num x25.2 1).bind fun x27 => (ix ([x21, x22, x23, x24] : List Int) x13).bind fun x28 => some (.inl (w64 (x13 + 1), x27.2.1, x27.2.2.1, x27.2.2.2, (if x13 = 0 then x25.1 else x17), (if x13 = 1 then x25.1 else x18), (if x13 = 2 then x25.1 else x19), (if x13 = 3 then x25.1 else x20), (if x13 = 0 then x27.1 else x21), (if x13 = 1 then x27.1 else x22), (if x13 = 2 then x27.1 else x23), (if x13 = 3 then x27.1 else x24))) else some (.inr (x14, x15, x16, x17, x18, x19, x20, x21, x22, x23, x24)))
noncomputable def r08_Read (p0 : List UInt8 × Int × Int) : Option ((Int × (Int × Int × Int × Int) × (Int × Int × Int × Int)) × (List UInt8 × Int × Int)) := (r04_Reader_Num p0 1).bind fun x1 => (loopW (r08_Read_l1) (0, x1.2.1, x1.2.2.1, x1.2.2.2, 0, 0, 0, 0, 0, 0, 0, 0)).bind fun (x2, x3, x4, x5, x6, x7, x8, x9, x10, x11, x12) => ((r08_Right (w64 (x1.1 - 1), (x5, x6, x7, x8), (x9, x10, x11, x12))).bind fun x32 => (if (!x32) = true then some ((r04_Reader_Wrong (x2, x3, x4) 2).1, (r04_Reader_Wrong (x2, x3, x4) 2).2.1, (r04_Reader_Wrong (x2, x3, x4) 2).2.2) else some (x2, x3, x4))).bind fun (x29, x30, x31) => (if x31 ≠ 0 then some ((0, (0, 0, 0, 0), (0, 0, 0, 0)), (x29, x30, x31)) else some ((w64 (x1.1 - 1), (x5, x6, x7, x8), (x9, x10, x11, x12)), (x29, x30, x31)))
theorem r08_Read_c (Y : Nat → Prop) (X : List Nat) (w0 : World) (q_p0 : Nat) (p0 : List UInt8 × Int × Int) (r : (Int × (Int × Int × Int × Int) × (Int × Int × Int × Int)) × (List UInt8 × Int × Int)) (H : r08_Read p0 = some r) (hL : Stw ⟨Y, X, w0⟩ [(q_p0, [.string (bs p0.1), .int .i64 p0.2.1, .int .i64 p0.2.2])] [] w0) :
    Calls Tryd.prog 28 #[.pointer (some ⟨q_p0, 0, none⟩)] w0 fun e w' => ∃ x : Unit, e = .returned (.agg #[.int .i64 r.1.1, .int .i64 r.1.2.1.1, .int .i64 r.1.2.1.2.1, .int .i64 r.1.2.1.2.2.1, .int .i64 r.1.2.1.2.2.2, .int .i64 r.1.2.2.1, .int .i64 r.1.2.2.2.1, .int .i64 r.1.2.2.2.2.1, .int .i64 r.1.2.2.2.2.2]) ∧ Stw ⟨Y, X, w0⟩ [(q_p0, [.string (bs r.2.1), .int .i64 r.2.2.1, .int .i64 r.2.2.2])] [] w' := by
  refine enter Tryd.func28 rfl Tryd.ntmps28 rfl (fun a hF => ?_)
  have hW := hL
  unfold r08_Read at H
  refine c_seq ?_
  refine reg_list ?_
  refine l_alloc (cs := [.int .i64 0, .int .i64 0, .int .i64 0, .int .i64 0, .int .i64 0, .int .i64 0, .int .i64 0, .int .i64 0, .int .i64 0]) hF hW rfl Z24 rfl (fun b1 a w hF hW => ?_)
  refine ls_nil ?_
  refine c_then ?_
  refine c_seq ?_
  refine reg_list ?_
  refine ls hF hW rfl ((y_build (v := Value.agg #[.int .i64 0, .int .i64 0, .int .i64 0, .int .i64 0, .int .i64 0, .int .i64 0, .int .i64 0, .int .i64 0, .int .i64 0]) B24 hF rfl rfl rfl).q) (fun a w hF hW => ?_)
  refine l_alloc (cs := [.int .i64 0, .int .i64 0, .int .i64 0, .int .i64 0, .int .i64 0, .int .i64 0, .int .i64 0, .int .i64 0, .int .i64 0]) hF hW rfl Z24 rfl (fun b2 a w hF hW => ?_)
  refine l_store (vs := [.int .i64 0, .int .i64 0, .int .i64 0, .int .i64 0, .int .i64 0, .int .i64 0, .int .i64 0, .int .i64 0, .int .i64 0]) (M' := [(b2, [.int .i64 0, .int .i64 0, .int .i64 0, .int .i64 0, .int .i64 0, .int .i64 0, .int .i64 0, .int .i64 0, .int .i64 0]), (b1, [.int .i64 0, .int .i64 0, .int .i64 0, .int .i64 0, .int .i64 0, .int .i64 0, .int .i64 0, .int .i64 0, .int .i64 0]), (q_p0, [.string (bs p0.1), .int .i64 p0.2.1, .int .i64 p0.2.2])]) 0 hF hW rfl rfl rfl T24 rfl rfl rfl rfl rfl (fun w hW => ?_)
  refine ls_nil ?_
  refine c_then ?_
  refine c_seq ?_
  refine reg_list ?_
  refine ls hF hW rfl ((y_move hF rfl).q) (fun a w hF hW => ?_)
  obtain ⟨x1, h1, H⟩ := bindE H
  have hW := hW.frontM (i := 2) rfl rfl
  refine l_callG (Ml := [(q_p0, [.string (bs p0.1), .int .i64 p0.2.1, .int .i64 p0.2.2])]) (Zl := []) (M := [(b2, [.int .i64 0, .int .i64 0, .int .i64 0, .int .i64 0, .int .i64 0, .int .i64 0, .int .i64 0, .int .i64 0, .int .i64 0]), (b1, [.int .i64 0, .int .i64 0, .int .i64 0, .int .i64 0, .int .i64 0, .int .i64 0, .int .i64 0, .int .i64 0, .int .i64 0])]) (Z := []) (β := Unit) (rv := fun x => .int .i64 x1.1) (MM := fun x => [(q_p0, [.string (bs x1.2.1), .int .i64 x1.2.2.1, .int .i64 x1.2.2.2])]) (ZZ := fun x => []) hF hW H49 rfl rfl (fun hL => r04_Reader_Num_c _ _ w q_p0 p0 1 _ h1 hL) (fun x a w hF hW => ?_)
  have hW : Stw ⟨Y, X, w0⟩ [(q_p0, [.string (bs x1.2.1), .int .i64 x1.2.2.1, .int .i64 x1.2.2.2]), (b2, [.int .i64 0, .int .i64 0, .int .i64 0, .int .i64 0, .int .i64 0, .int .i64 0, .int .i64 0, .int .i64 0, .int .i64 0]), (b1, [.int .i64 0, .int .i64 0, .int .i64 0, .int .i64 0, .int .i64 0, .int .i64 0, .int .i64 0, .int .i64 0, .int .i64 0])] [] w := hW
  refine ls hF hW rfl ((y_sub hF rfl rfl rfl).q) (fun a w hF hW => ?_)
  refine ls hF hW rfl ((y_fieldAddr Tryd.underlying24 rfl rfl rfl T3 hF rfl 0 rfl).q) (fun a w hF hW => ?_)
  refine l_store (vs := [.int .i64 (w64 (x1.1 - 1))]) (M' := [(q_p0, [.string (bs x1.2.1), .int .i64 x1.2.2.1, .int .i64 x1.2.2.2]), (b2, [.int .i64 (w64 (x1.1 - 1)), .int .i64 0, .int .i64 0, .int .i64 0, .int .i64 0, .int .i64 0, .int .i64 0, .int .i64 0, .int .i64 0]), (b1, [.int .i64 0, .int .i64 0, .int .i64 0, .int .i64 0, .int .i64 0, .int .i64 0, .int .i64 0, .int .i64 0, .int .i64 0])]) 1 hF hW rfl rfl rfl T3 rfl rfl rfl rfl rfl (fun w hW => ?_)
  refine ls_nil ?_
  refine c_then ?_
  obtain ⟨o1, G1, K1⟩ := bindE H
  refine c_seqJ (fun a w => ∃ x2 : List UInt8, ∃ x3 : Int, ∃ x4 : Int, ∃ x5 : Int, ∃ x6 : Int, ∃ x7 : Int, ∃ x8 : Int, ∃ x9 : Int, ∃ x10 : Int, ∃ x11 : Int, ∃ x12 : Int, some ((x2, x3, x4, x5, x6, x7, x8, x9, x10, x11, x12)) = some o1 ∧ Fr 36 [] [(0, .pointer (some ⟨q_p0, 0, none⟩)), (2, .pointer (some ⟨b1, 0, none⟩)), (3, .pointer (some ⟨b2, 0, none⟩))] a ∧ Stw ⟨Y, X, w0⟩ [(q_p0, [.string (bs x2), .int .i64 x3, .int .i64 x4]), (b2, [.int .i64 (w64 (x1.1 - 1)), .int .i64 x5, .int .i64 x6, .int .i64 x7, .int .i64 x8, .int .i64 x9, .int .i64 x10, .int .i64 x11, .int .i64 x12]), (b1, [.int .i64 0, .int .i64 0, .int .i64 0, .int .i64 0, .int .i64 0, .int .i64 0, .int .i64 0, .int .i64 0, .int .i64 0])] [] w) ?_ ?_
  ·
    have H := G1
    clear G1 K1
    refine c_seq ?_
    refine reg_list ?_
    refine ls hF hW rfl ((y_assign hF rfl).q) (fun a w hF hW => ?_)
    refine ls_nil ?_
    refine c_then ?_
    refine wp_block ?_
    have hW := hW.frontM (i := 2) rfl rfl
    have hW := hW.frontM (i := 2) rfl rfl
    have hW := hW.frontM (i := 2) rfl rfl
    refine c_loopW H (fun s a w => Fr 36 [] [(0, .pointer (some ⟨q_p0, 0, none⟩)), (2, .pointer (some ⟨b1, 0, none⟩)), (3, .pointer (some ⟨b2, 0, none⟩)), (4, .int .i64 s.1)] a ∧ Stw ⟨Y, X, w0⟩ [(q_p0, [.string (bs s.2.1), .int .i64 s.2.2.1, .int .i64 s.2.2.2.1]), (b2, [.int .i64 (w64 (x1.1 - 1)), .int .i64 s.2.2.2.2.1, .int .i64 s.2.2.2.2.2.1, .int .i64 s.2.2.2.2.2.2.1, .int .i64 s.2.2.2.2.2.2.2.1, .int .i64 s.2.2.2.2.2.2.2.2.1, .int .i64 s.2.2.2.2.2.2.2.2.2.1, .int .i64 s.2.2.2.2.2.2.2.2.2.2.1, .int .i64 s.2.2.2.2.2.2.2.2.2.2.2]), (b1, [.int .i64 0, .int .i64 0, .int .i64 0, .int .i64 0, .int .i64 0, .int .i64 0, .int .i64 0, .int .i64 0, .int .i64 0])] [] w) ⟨hF.re ⟨rfl, rfl, rfl, rfl, trivial⟩, hW⟩ (fun s o a w H L2 hR => ?_)
    obtain ⟨x13, x14, x15, x16, x17, x18, x19, x20, x21, x22, x23, x24⟩ := s
    obtain ⟨hF, hW⟩ := hR
    have hF : Fr 36 [] [(0, .pointer (some ⟨q_p0, 0, none⟩)), (2, .pointer (some ⟨b1, 0, none⟩)), (3, .pointer (some ⟨b2, 0, none⟩)), (4, .int .i64 x13)] a := hF
    have hW : Stw ⟨Y, X, w0⟩ [(q_p0, [.string (bs x14), .int .i64 x15, .int .i64 x16]), (b2, [.int .i64 (w64 (x1.1 - 1)), .int .i64 x17, .int .i64 x18, .int .i64 x19, .int .i64 x20, .int .i64 x21, .int .i64 x22, .int .i64 x23, .int .i64 x24]), (b1, [.int .i64 0, .int .i64 0, .int .i64 0, .int .i64 0, .int .i64 0, .int .i64 0, .int .i64 0, .int .i64 0, .int .i64 0])] [] w := hW
    rw [r08_Read_l1] at H
    refine c_seq ?_
    refine c_seq ?_
    refine reg_list ?_
    refine ls hF hW rfl ((y_move hF rfl).q) (fun a w hF hW => ?_)
    refine ls hF hW rfl ((y_lss hF rfl rfl).q) (fun a w hF hW => ?_)
    refine ls_nil ?_
    refine c_then ?_
    refine c_cond hF rfl (fun hb => ?_) (fun hb => ?_)
    ·
      have H := iteT (of_decide_eq_true hb) H
      rw [hb] at hF
      clear hb
      refine wp_skip ?_
      refine c_then ?_
      refine c_seq ?_
      refine wp_block ?_
      refine c_seq ?_
      refine reg_list ?_
      refine ls hF hW rfl ((y_move hF rfl).q) (fun a w hF hW => ?_)
      refine ls hF hW rfl ((y_move hF rfl).q) (fun a w hF hW => ?_)
      obtain ⟨x25, h2, H⟩ := bindE H
      refine l_callG (Ml := [(q_p0, [.string (bs x14), .int .i64 x15, .int .i64 x16])]) (Zl := []) (M := [(b2, [.int .i64 (w64 (x1.1 - 1)), .int .i64 x17, .int .i64 x18, .int .i64 x19, .int .i64 x20, .int .i64 x21, .int .i64 x22, .int .i64 x23, .int .i64 x24]), (b1, [.int .i64 0, .int .i64 0, .int .i64 0, .int .i64 0, .int .i64 0, .int .i64 0, .int .i64 0, .int .i64 0, .int .i64 0])]) (Z := []) (β := Unit) (rv := fun x => .int .i64 x25.1) (MM := fun x => [(q_p0, [.string (bs x25.2.1), .int .i64 x25.2.2.1, .int .i64 x25.2.2.2])]) (ZZ := fun x => []) hF hW H49 rfl rfl (fun hL => r04_Reader_Num_c _ _ w q_p0 (x14, x15, x16) 1 _ h2 hL) (fun x a w hF hW => ?_)
      have hW : Stw ⟨Y, X, w0⟩ [(q_p0, [.string (bs x25.2.1), .int .i64 x25.2.2.1, .int .i64 x25.2.2.2]), (b2, [.int .i64 (w64 (x1.1 - 1)), .int .i64 x17, .int .i64 x18, .int .i64 x19, .int .i64 x20, .int .i64 x21, .int .i64 x22, .int .i64 x23, .int .i64 x24]), (b1, [.int .i64 0, .int .i64 0, .int .i64 0, .int .i64 0, .int .i64 0, .int .i64 0, .int .i64 0, .int .i64 0, .int .i64 0])] [] w := hW
      refine ls hF hW rfl ((y_fieldAddr Tryd.underlying24 rfl rfl rfl T22 hF rfl 1 rfl).q) (fun a w hF hW => ?_)
      obtain ⟨x26, h3, H⟩ := bindE H
      refine ls hF hW rfl ((y_indexP (1 + (x13).toNat * 1) Ar22 hF rfl rfl rfl h3 rfl).q) (fun a w hF hW => ?_)
      refine l_store_dyn (o := 1) (m := 4) (i := x13) (l := ([x17, x18, x19, x20] : List Int)) (x := x26) (cs := [.int .i64 (w64 (x1.1 - 1)), .int .i64 x17, .int .i64 x18, .int .i64 x19, .int .i64 x20, .int .i64 x21, .int .i64 x22, .int .i64 x23, .int .i64 x24]) (cs' := [.int .i64 (w64 (x1.1 - 1)), .int .i64 (if x13 = 0 then x25.1 else x17), .int .i64 (if x13 = 1 then x25.1 else x18), .int .i64 (if x13 = 2 then x25.1 else x19), .int .i64 (if x13 = 3 then x25.1 else x20), .int .i64 x21, .int .i64 x22, .int .i64 x23, .int .i64 x24]) 1 hF hW rfl rfl rfl T3 rfl rfl rfl rfl h3 (by intro k hk hn; rw [hk]; match k, hn with | 0, _ => rfl | 1, _ => rfl | 2, _ => rfl | 3, _ => rfl | (z + 4), h => exact absurd h (by omega)) (fun w hW => ?_)
      have hW : Stw ⟨Y, X, w0⟩ [(q_p0, [.string (bs x25.2.1), .int .i64 x25.2.2.1, .int .i64 x25.2.2.2]), (b2, [.int .i64 (w64 (x1.1 - 1)), .int .i64 (if x13 = 0 then x25.1 else x17), .int .i64 (if x13 = 1 then x25.1 else x18), .int .i64 (if x13 = 2 then x25.1 else x19), .int .i64 (if x13 = 3 then x25.1 else x20), .int .i64 x21, .int .i64 x22, .int .i64 x23, .int .i64 x24]), (b1, [.int .i64 0, .int .i64 0, .int .i64 0, .int .i64 0, .int .i64 0, .int .i64 0, .int .i64 0, .int .i64 0, .int .i64 0])] [] w := hW
      refine ls_nil ?_
      refine c_then ?_
      refine reg_list ?_
      refine ls hF hW rfl ((y_move hF rfl).q) (fun a w hF hW => ?_)
      refine ls hF hW rfl ((y_move hF rfl).q) (fun a w hF hW => ?_)
      obtain ⟨x27, h4, H⟩ := bindE H
      refine l_callG (Ml := [(q_p0, [.string (bs x25.2.1), .int .i64 x25.2.2.1, .int .i64 x25.2.2.2])]) (Zl := []) (M := [(b2, [.int .i64 (w64 (x1.1 - 1)), .int .i64 (if x13 = 0 then x25.1 else x17), .int .i64 (if x13 = 1 then x25.1 else x18), .int .i64 (if x13 = 2 then x25.1 else x19), .int .i64 (if x13 = 3 then x25.1 else x20), .int .i64 x21, .int .i64 x22, .int .i64 x23, .int .i64 x24]), (b1, [.int .i64 0, .int .i64 0, .int .i64 0, .int .i64 0, .int .i64 0, .int .i64 0, .int .i64 0, .int .i64 0, .int .i64 0])]) (Z := []) (β := Unit) (rv := fun x => .int .i64 x27.1) (MM := fun x => [(q_p0, [.string (bs x27.2.1), .int .i64 x27.2.2.1, .int .i64 x27.2.2.2])]) (ZZ := fun x => []) hF hW H49 rfl rfl (fun hL => r04_Reader_Num_c _ _ w q_p0 x25.2 1 _ h4 hL) (fun x a w hF hW => ?_)
      have hW : Stw ⟨Y, X, w0⟩ [(q_p0, [.string (bs x27.2.1), .int .i64 x27.2.2.1, .int .i64 x27.2.2.2]), (b2, [.int .i64 (w64 (x1.1 - 1)), .int .i64 (if x13 = 0 then x25.1 else x17), .int .i64 (if x13 = 1 then x25.1 else x18), .int .i64 (if x13 = 2 then x25.1 else x19), .int .i64 (if x13 = 3 then x25.1 else x20), .int .i64 x21, .int .i64 x22, .int .i64 x23, .int .i64 x24]), (b1, [.int .i64 0, .int .i64 0, .int .i64 0, .int .i64 0, .int .i64 0, .int .i64 0, .int .i64 0, .int .i64 0, .int .i64 0])] [] w := hW
      refine ls hF hW rfl ((y_fieldAddr Tryd.underlying24 rfl rfl rfl T22 hF rfl 5 rfl).q) (fun a w hF hW => ?_)
      obtain ⟨x28, h5, H⟩ := bindE H
      refine ls hF hW rfl ((y_indexP (5 + (x13).toNat * 1) Ar22 hF rfl rfl rfl h5 rfl).q) (fun a w hF hW => ?_)
      refine l_store_dyn (o := 5) (m := 4) (i := x13) (l := ([x21, x22, x23, x24] : List Int)) (x := x28) (cs := [.int .i64 (w64 (x1.1 - 1)), .int .i64 (if x13 = 0 then x25.1 else x17), .int .i64 (if x13 = 1 then x25.1 else x18), .int .i64 (if x13 = 2 then x25.1 else x19), .int .i64 (if x13 = 3 then x25.1 else x20), .int .i64 x21, .int .i64 x22, .int .i64 x23, .int .i64 x24]) (cs' := [.int .i64 (w64 (x1.1 - 1)), .int .i64 (if x13 = 0 then x25.1 else x17), .int .i64 (if x13 = 1 then x25.1 else x18), .int .i64 (if x13 = 2 then x25.1 else x19), .int .i64 (if x13 = 3 then x25.1 else x20), .int .i64 (if x13 = 0 then x27.1 else x21), .int .i64 (if x13 = 1 then x27.1 else x22), .int .i64 (if x13 = 2 then x27.1 else x23), .int .i64 (if x13 = 3 then x27.1 else x24)]) 1 hF hW rfl rfl rfl T3 rfl rfl rfl rfl h5 (by intro k hk hn; rw [hk]; match k, hn with | 0, _ => rfl | 1, _ => rfl | 2, _ => rfl | 3, _ => rfl | (z + 4), h => exact absurd h (by omega)) (fun w hW => ?_)
      have hW : Stw ⟨Y, X, w0⟩ [(q_p0, [.string (bs x27.2.1), .int .i64 x27.2.2.1, .int .i64 x27.2.2.2]), (b2, [.int .i64 (w64 (x1.1 - 1)), .int .i64 (if x13 = 0 then x25.1 else x17), .int .i64 (if x13 = 1 then x25.1 else x18), .int .i64 (if x13 = 2 then x25.1 else x19), .int .i64 (if x13 = 3 then x25.1 else x20), .int .i64 (if x13 = 0 then x27.1 else x21), .int .i64 (if x13 = 1 then x27.1 else x22), .int .i64 (if x13 = 2 then x27.1 else x23), .int .i64 (if x13 = 3 then x27.1 else x24)]), (b1, [.int .i64 0, .int .i64 0, .int .i64 0, .int .i64 0, .int .i64 0, .int .i64 0, .int .i64 0, .int .i64 0, .int .i64 0])] [] w := hW
      refine ls_nil ?_
      refine b_normal ?_
      refine c_then ?_
      refine reg_list ?_
      refine ls hF hW rfl ((y_move hF rfl).q) (fun a w hF hW => ?_)
      refine ls hF hW rfl ((y_add hF rfl rfl rfl).q) (fun a w hF hW => ?_)
      refine ls hF hW rfl ((y_assign hF rfl).q) (fun a w hF hW => ?_)
      refine ls_nil ?_
      refine c_then ?_
      have hW := hW.frontM (i := 2) rfl rfl
      have hW := hW.frontM (i := 2) rfl rfl
      have hW := hW.frontM (i := 2) rfl rfl
      exact ⟨_, H, hF.re ⟨rfl, rfl, rfl, rfl, trivial⟩, hW⟩
    ·
      have H := iteF (of_decide_eq_false hb) H
      rw [hb] at hF
      clear hb
      refine wp_exit ?_
      refine e_then ?_
      refine e_then ?_
      refine e_block ?_
      refine c_then ?_
      have hW := hW.frontM (i := 2) rfl rfl
      have hW := hW.frontM (i := 2) rfl rfl
      have hW := hW.frontM (i := 2) rfl rfl
      have H := L2 _ H
      exact ⟨_, _, _, _, _, _, _, _, _, _, _, H, hF.re ⟨rfl, rfl, rfl, trivial⟩, hW⟩
  rintro a w ⟨x2, x3, x4, x5, x6, x7, x8, x9, x10, x11, x12, hj, hF, hW⟩
  have hj := Option.some.inj hj
  subst hj
  have H := K1
  clear G1 K1
  obtain ⟨o3, G3, K3⟩ := bindE H
  refine c_seqJ (fun a w => ∃ x29 : List UInt8, ∃ x30 : Int, ∃ x31 : Int, some ((x29, x30, x31)) = some o3 ∧ Fr 36 [] [(0, .pointer (some ⟨q_p0, 0, none⟩)), (2, .pointer (some ⟨b1, 0, none⟩)), (3, .pointer (some ⟨b2, 0, none⟩))] a ∧ Stw ⟨Y, X, w0⟩ [(q_p0, [.string (bs x29), .int .i64 x30, .int .i64 x31]), (b2, [.int .i64 (w64 (x1.1 - 1)), .int .i64 x5, .int .i64 x6, .int .i64 x7, .int .i64 x8, .int .i64 x9, .int .i64 x10, .int .i64 x11, .int .i64 x12]), (b1, [.int .i64 0, .int .i64 0, .int .i64 0, .int .i64 0, .int .i64 0, .int .i64 0, .int .i64 0, .int .i64 0, .int .i64 0])] [] w) ?_ ?_
  ·
    have H := G3
    clear G3 K3
    refine c_seq ?_
    refine reg_list ?_
    refine ls hF hW rfl ((y_load (v := Value.agg #[.int .i64 (w64 (x1.1 - 1)), .int .i64 x5, .int .i64 x6, .int .i64 x7, .int .i64 x8, .int .i64 x9, .int .i64 x10, .int .i64 x11, .int .i64 x12]) 1 hF rfl rfl T24 rfl).q) (fun a w hF hW => ?_)
    obtain ⟨x32, h6, H⟩ := bindE H
    refine ls hF hW rfl (y_call (v := Value.bool x32) hF H8 rfl (fun w hW => r08_Right_c any w (w64 (x1.1 - 1), (x5, x6, x7, x8), (x9, x10, x11, x12)) _ h6)) (fun a w hF hW => ?_)
    refine ls hF hW rfl ((y_not hF rfl).q) (fun a w hF hW => ?_)
    refine ls_nil ?_
    refine c_then ?_
    refine c_cond hF rfl (fun hb => ?_) (fun hb => ?_)
    ·
      have H := iteT hb H
      rw [hb] at hF
      clear hb
      refine reg_list ?_
      refine ls hF hW rfl ((y_move hF rfl).q) (fun a w hF hW => ?_)
      refine l_callG (Ml := [(q_p0, [.string (bs x2), .int .i64 x3, .int .i64 x4])]) (Zl := []) (M := [(b2, [.int .i64 (w64 (x1.1 - 1)), .int .i64 x5, .int .i64 x6, .int .i64 x7, .int .i64 x8, .int .i64 x9, .int .i64 x10, .int .i64 x11, .int .i64 x12]), (b1, [.int .i64 0, .int .i64 0, .int .i64 0, .int .i64 0, .int .i64 0, .int .i64 0, .int .i64 0, .int .i64 0, .int .i64 0])]) (Z := []) (β := Unit) (rv := fun x => .tuple #[]) (MM := fun x => [(q_p0, [.string (bs ((r04_Reader_Wrong (x2, x3, x4) 2).1)), .int .i64 ((r04_Reader_Wrong (x2, x3, x4) 2).2.1), .int .i64 ((r04_Reader_Wrong (x2, x3, x4) 2).2.2)])]) (ZZ := fun x => []) hF hW H50 rfl rfl (fun hL => r04_Reader_Wrong_c _ _ w q_p0 (x2, x3, x4) 2 _ rfl hL) (fun x a w hF hW => ?_)
      have hW : Stw ⟨Y, X, w0⟩ [(q_p0, [.string (bs ((r04_Reader_Wrong (x2, x3, x4) 2).1)), .int .i64 ((r04_Reader_Wrong (x2, x3, x4) 2).2.1), .int .i64 ((r04_Reader_Wrong (x2, x3, x4) 2).2.2)]), (b2, [.int .i64 (w64 (x1.1 - 1)), .int .i64 x5, .int .i64 x6, .int .i64 x7, .int .i64 x8, .int .i64 x9, .int .i64 x10, .int .i64 x11, .int .i64 x12]), (b1, [.int .i64 0, .int .i64 0, .int .i64 0, .int .i64 0, .int .i64 0, .int .i64 0, .int .i64 0, .int .i64 0, .int .i64 0])] [] w := hW
      refine ls_nil ?_
      refine c_then ?_
      have hW := hW.frontM (i := 2) rfl rfl
      have hW := hW.frontM (i := 2) rfl rfl
      have hW := hW.frontM (i := 2) rfl rfl
      exact ⟨_, _, _, H, hF.re ⟨rfl, rfl, rfl, trivial⟩, hW⟩
    ·
      have H := iteF (by rw [hb]; decide) H
      rw [hb] at hF
      clear hb
      refine wp_skip ?_
      refine c_then ?_
      have hW := hW.frontM (i := 2) rfl rfl
      have hW := hW.frontM (i := 2) rfl rfl
      have hW := hW.frontM (i := 2) rfl rfl
      exact ⟨_, _, _, H, hF.re ⟨rfl, rfl, rfl, trivial⟩, hW⟩
  rintro a w ⟨x29, x30, x31, hj, hF, hW⟩
  have hj := Option.some.inj hj
  subst hj
  have H := K3
  clear G3 K3
  refine c_seq ?_
  refine c_seq ?_
  refine reg_list ?_
  refine ls hF hW rfl ((y_move hF rfl).q) (fun a w hF hW => ?_)
  refine ls hF hW rfl ((y_nilCheck hF rfl).q) (fun a w hF hW => ?_)
  refine ls hF hW rfl ((y_fieldAddr Tryd.underlying42 rfl rfl rfl T3 hF rfl 2 rfl).q) (fun a w hF hW => ?_)
  refine ls hF hW rfl ((y_load (v := Value.int .i64 x31) 0 hF rfl rfl T3 rfl).q) (fun a w hF hW => ?_)
  refine ls hF hW rfl ((y_neq hF rfl rfl).q) (fun a w hF hW => ?_)
  refine ls_nil ?_
  refine c_then ?_
  refine c_cond hF rfl (fun hb => ?_) (fun hb => ?_)
  ·
    have H := iteT (of_decide_eq_true hb) H
    rw [hb] at hF
    clear hb
    refine c_seq ?_
    refine reg_list ?_
    refine ls hF hW rfl ((y_build (v := Value.agg #[.int .i64 0, .int .i64 0, .int .i64 0, .int .i64 0, .int .i64 0, .int .i64 0, .int .i64 0, .int .i64 0, .int .i64 0]) B24 hF rfl rfl rfl).q) (fun a w hF hW => ?_)
    refine l_store (vs := [.int .i64 0, .int .i64 0, .int .i64 0, .int .i64 0, .int .i64 0, .int .i64 0, .int .i64 0, .int .i64 0, .int .i64 0]) (M' := [(q_p0, [.string (bs x29), .int .i64 x30, .int .i64 x31]), (b2, [.int .i64 (w64 (x1.1 - 1)), .int .i64 x5, .int .i64 x6, .int .i64 x7, .int .i64 x8, .int .i64 x9, .int .i64 x10, .int .i64 x11, .int .i64 x12]), (b1, [.int .i64 0, .int .i64 0, .int .i64 0, .int .i64 0, .int .i64 0, .int .i64 0, .int .i64 0, .int .i64 0, .int .i64 0])]) 2 hF hW rfl rfl rfl T24 rfl rfl rfl rfl rfl (fun w hW => ?_)
    refine ls_nil ?_
    refine c_then ?_
    refine wp_ret ?_
    refine r_then ?_
    have H := Option.some.inj H
    subst H
    refine post1 (.inl rfl) hF hW rfl (rv_cell 2 hF rfl rfl T24 rfl) ?_
    have hW := hW.sub (M' := [(q_p0, [.string (bs x29), .int .i64 x30, .int .i64 x31])]) (Z' := []) (List.Sublist.cons_cons _ (List.nil_sublist _)) (List.Sublist.refl _)
    exact ⟨(), rfl, hW⟩
  ·
    have H := iteF (of_decide_eq_false hb) H
    rw [hb] at hF
    clear hb
    refine wp_skip ?_
    refine c_then ?_
    refine c_seq ?_
    refine reg_list ?_
    refine ls hF hW rfl ((y_load (v := Value.agg #[.int .i64 (w64 (x1.1 - 1)), .int .i64 x5, .int .i64 x6, .int .i64 x7, .int .i64 x8, .int .i64 x9, .int .i64 x10, .int .i64 x11, .int .i64 x12]) 1 hF rfl rfl T24 rfl).q) (fun a w hF hW => ?_)
    refine l_store (vs := [.int .i64 (w64 (x1.1 - 1)), .int .i64 x5, .int .i64 x6, .int .i64 x7, .int .i64 x8, .int .i64 x9, .int .i64 x10, .int .i64 x11, .int .i64 x12]) (M' := [(q_p0, [.string (bs x29), .int .i64 x30, .int .i64 x31]), (b2, [.int .i64 (w64 (x1.1 - 1)), .int .i64 x5, .int .i64 x6, .int .i64 x7, .int .i64 x8, .int .i64 x9, .int .i64 x10, .int .i64 x11, .int .i64 x12]), (b1, [.int .i64 (w64 (x1.1 - 1)), .int .i64 x5, .int .i64 x6, .int .i64 x7, .int .i64 x8, .int .i64 x9, .int .i64 x10, .int .i64 x11, .int .i64 x12])]) 2 hF hW rfl rfl rfl T24 rfl rfl rfl rfl rfl (fun w hW => ?_)
    refine ls_nil ?_
    refine c_then ?_
    refine wp_ret ?_
    have H := Option.some.inj H
    subst H
    refine post1 (.inl rfl) hF hW rfl (rv_cell 2 hF rfl rfl T24 rfl) ?_
    have hW := hW.sub (M' := [(q_p0, [.string (bs x29), .int .i64 x30, .int .i64 x31])]) (Z' := []) (List.Sublist.cons_cons _ (List.nil_sublist _)) (List.Sublist.refl _)
    exact ⟨(), rfl, hW⟩

theorem H28 : Has Tryd.prog 28 := ⟨fun args w => run_callFunc_body Tryd.func28 rfl (by decide) args w⟩
noncomputable def octet_Reader_End (p0 : List UInt8 × Int) : Option (Int × (List UInt8 × Int)) := (if 0 < (octet_Reader_Left p0) then some ((octet_Reader_Wrong p0 5).1, (octet_Reader_Wrong p0 5).2) else some (p0.1, p0.2)).bind fun (x1, x2) => some (x2, (x1, x2))
theorem octet_Reader_End_c (Y : Nat → Prop) (X : List Nat) (w0 : World) (q_p0 : Nat) (p0 : List UInt8 × Int) (r : Int × (List UInt8 × Int)) (H : octet_Reader_End p0 = some r) (hL : Stw ⟨Y, X, w0⟩ [(q_p0, [.string (bs p0.1), .int .i64 p0.2])] [] w0) :
    Calls Tryd.prog 31 #[.pointer (some ⟨q_p0, 0, none⟩)] w0 fun e w' => ∃ x : Unit, e = .returned (.int .i64 r.1) ∧ Stw ⟨Y, X, w0⟩ [(q_p0, [.string (bs r.2.1), .int .i64 r.2.2])] [] w' := by
  refine enter Tryd.func31 rfl Tryd.ntmps31 rfl (fun a hF => ?_)
  have hW := hL
  unfold octet_Reader_End at H
  refine c_seq ?_
  refine reg_list ?_
  refine ls hF hW rfl ((y_assign hF rfl).q) (fun a w hF hW => ?_)
  refine ls_nil ?_
  refine c_then ?_
  refine c_seq ?_
  refine c_seq ?_
  refine reg_list ?_
  refine ls hF hW rfl ((y_move hF rfl).q) (fun a w hF hW => ?_)
  refine ls hF hW rfl ((y_peq_some_nil Tryd.underlying38 hF rfl rfl).q) (fun a w hF hW => ?_)
  refine ls_nil ?_
  refine c_then ?_
  refine c_cond_f hF rfl ?_
  refine wp_skip ?_
  refine c_then ?_
  obtain ⟨o1, G1, K1⟩ := bindE H
  refine c_seqJ (fun a w => ∃ x1 : List UInt8, ∃ x2 : Int, some ((x1, x2)) = some o1 ∧ Fr 14 [] [(0, .pointer (some ⟨q_p0, 0, none⟩)), (2, .int .i64 0)] a ∧ Stw ⟨Y, X, w0⟩ [(q_p0, [.string (bs x1), .int .i64 x2])] [] w) ?_ ?_
  ·
    have H := G1
    clear G1 K1
    refine c_seq ?_
    refine reg_list ?_
    refine ls hF hW rfl ((y_move hF rfl).q) (fun a w hF hW => ?_)
    refine ls hF hW rfl (y_call (v := Value.int .i64 (octet_Reader_Left p0)) hF H29 rfl (fun w hW => octet_Reader_Left_c any w q_p0 p0 _ rfl (at_M hW 0 rfl))) (fun a w hF hW => ?_)
    refine ls hF hW rfl ((y_gtr hF rfl rfl).q) (fun a w hF hW => ?_)
    refine ls_nil ?_
    refine c_then ?_
    refine c_cond hF rfl (fun hb => ?_) (fun hb => ?_)
    ·
      have H := iteT (of_decide_eq_true hb) H
      rw [hb] at hF
      clear hb
      refine reg_list ?_
      refine ls hF hW rfl ((y_move hF rfl).q) (fun a w hF hW => ?_)
      refine l_callG (Ml := [(q_p0, [.string (bs p0.1), .int .i64 p0.2])]) (Zl := []) (M := []) (Z := []) (β := Unit) (rv := fun x => .tuple #[]) (MM := fun x => [(q_p0, [.string (bs ((octet_Reader_Wrong p0 5).1)), .int .i64 ((octet_Reader_Wrong p0 5).2)])]) (ZZ := fun x => []) hF hW H47 rfl rfl (fun hL => octet_Reader_Wrong_c _ _ w q_p0 p0 5 _ rfl hL) (fun x a w hF hW => ?_)
      have hW : Stw ⟨Y, X, w0⟩ [(q_p0, [.string (bs ((octet_Reader_Wrong p0 5).1)), .int .i64 ((octet_Reader_Wrong p0 5).2)])] [] w := hW
      refine ls_nil ?_
      refine c_then ?_
      exact ⟨_, _, H, hF.re ⟨rfl, rfl, trivial⟩, hW⟩
    ·
      have H := iteF (of_decide_eq_false hb) H
      rw [hb] at hF
      clear hb
      refine wp_skip ?_
      refine c_then ?_
      exact ⟨_, _, H, hF.re ⟨rfl, rfl, trivial⟩, hW⟩
  rintro a w ⟨x1, x2, hj, hF, hW⟩
  have hj := Option.some.inj hj
  subst hj
  have H := K1
  clear G1 K1
  refine c_seq ?_
  refine reg_list ?_
  refine ls hF hW rfl ((y_move hF rfl).q) (fun a w hF hW => ?_)
  refine ls hF hW rfl ((y_nilCheck hF rfl).q) (fun a w hF hW => ?_)
  refine ls hF hW rfl ((y_fieldAddr Tryd.underlying71 rfl rfl rfl T46 hF rfl 1 rfl).q) (fun a w hF hW => ?_)
  refine ls hF hW rfl ((y_load (v := Value.int .i64 x2) 0 hF rfl rfl T46 rfl).q) (fun a w hF hW => ?_)
  refine ls hF hW rfl ((y_assign hF rfl).q) (fun a w hF hW => ?_)
  refine ls_nil ?_
  refine c_then ?_
  refine wp_ret ?_
  have H := Option.some.inj H
  subst H
  refine post1 (.inl rfl) hF hW rfl (rv_tmp hF rfl) ?_
  exact ⟨(), rfl, hW⟩

theorem H31 : Has Tryd.prog 31 := ⟨fun args w => run_callFunc_body Tryd.func31 rfl (by decide) args w⟩
noncomputable def r04_Reader_End (p0 : List UInt8 × Int × Int) : Option (Int × (List UInt8 × Int × Int)) := (if 0 < (r04_Reader_Left p0) then some 5 else some p0.2.2).bind fun x1 => some (x1, (p0.1, p0.2.1, x1))
theorem r04_Reader_End_c (Y : Nat → Prop) (X : List Nat) (w0 : World) (q_p0 : Nat) (p0 : List UInt8 × Int × Int) (r : Int × (List UInt8 × Int × Int)) (H : r04_Reader_End p0 = some r) (hL : Stw ⟨Y, X, w0⟩ [(q_p0, [.string (bs p0.1), .int .i64 p0.2.1, .int .i64 p0.2.2])] [] w0) :
    Calls Tryd.prog 32 #[.pointer (some ⟨q_p0, 0, none⟩)] w0 fun e w' => ∃ x : Unit, e = .returned (.int .i64 r.1) ∧ Stw ⟨Y, X, w0⟩ [(q_p0, [.string (bs r.2.1), .int .i64 r.2.2.1, .int .i64 r.2.2.2])] [] w' := by
  refine enter Tryd.func32 rfl Tryd.ntmps32 rfl (fun a hF => ?_)
  have hW := hL
  unfold r04_Reader_End at H
  refine c_seq ?_
  refine reg_list ?_
  refine ls hF hW rfl ((y_assign hF rfl).q) (fun a w hF hW => ?_)
  refine ls_nil ?_
  refine c_then ?_
  obtain ⟨o1, G1, K1⟩ := bindE H
  refine c_seqJ (fun a w => ∃ x1 : Int, some (x1) = some o1 ∧ Fr 13 [] [(0, .pointer (some ⟨q_p0, 0, none⟩)), (2, .int .i64 0)] a ∧ Stw ⟨Y, X, w0⟩ [(q_p0, [.string (bs p0.1), .int .i64 p0.2.1, .int .i64 x1])] [] w) ?_ ?_
  ·
    have H := G1
    clear G1 K1
    refine c_seq ?_
    refine reg_list ?_
    refine ls hF hW rfl ((y_move hF rfl).q) (fun a w hF hW => ?_)
    refine ls hF hW rfl (y_call (v := Value.int .i64 (r04_Reader_Left p0)) hF H30 rfl (fun w hW => r04_Reader_Left_c any w q_p0 p0 _ rfl (at_M hW 0 rfl))) (fun a w hF hW => ?_)
    refine ls hF hW rfl ((y_gtr hF rfl rfl).q) (fun a w hF hW => ?_)
    refine ls_nil ?_
    refine c_then ?_
    refine c_cond hF rfl (fun hb => ?_) (fun hb => ?_)
    ·
      have H := iteT (of_decide_eq_true hb) H
      rw [hb] at hF
      clear hb
      refine reg_list ?_
      refine ls hF hW rfl ((y_move hF rfl).q) (fun a w hF hW => ?_)
      refine ls hF hW rfl ((y_nilCheck hF rfl).q) (fun a w hF hW => ?_)
      refine ls hF hW rfl ((y_fieldAddr Tryd.underlying42 rfl rfl rfl T3 hF rfl 2 rfl).q) (fun a w hF hW => ?_)
      refine l_store (vs := [.int .i64 5]) (M' := [(q_p0, [.string (bs p0.1), .int .i64 p0.2.1, .int .i64 5])]) 0 hF hW rfl rfl rfl T3 rfl rfl rfl rfl rfl (fun w hW => ?_)
      refine ls_nil ?_
      refine c_then ?_
      exact ⟨_, H, hF.re ⟨rfl, rfl, trivial⟩, hW⟩
    ·
      have H := iteF (of_decide_eq_false hb) H
      rw [hb] at hF
      clear hb
      refine wp_skip ?_
      refine c_then ?_
      exact ⟨_, H, hF.re ⟨rfl, rfl, trivial⟩, hW⟩
  rintro a w ⟨x1, hj, hF, hW⟩
  have hj := Option.some.inj hj
  subst hj
  have H := K1
  clear G1 K1
  refine c_seq ?_
  refine reg_list ?_
  refine ls hF hW rfl ((y_move hF rfl).q) (fun a w hF hW => ?_)
  refine ls hF hW rfl ((y_nilCheck hF rfl).q) (fun a w hF hW => ?_)
  refine ls hF hW rfl ((y_fieldAddr Tryd.underlying42 rfl rfl rfl T3 hF rfl 2 rfl).q) (fun a w hF hW => ?_)
  refine ls hF hW rfl ((y_load (v := Value.int .i64 x1) 0 hF rfl rfl T3 rfl).q) (fun a w hF hW => ?_)
  refine ls hF hW rfl ((y_assign hF rfl).q) (fun a w hF hW => ?_)
  refine ls_nil ?_
  refine c_then ?_
  refine wp_ret ?_
  have H := Option.some.inj H
  subst H
  refine post1 (.inl rfl) hF hW rfl (rv_tmp hF rfl) ?_
  exact ⟨(), rfl, hW⟩

theorem H32 : Has Tryd.prog 32 := ⟨fun args w => run_callFunc_body Tryd.func32 rfl (by decide) args w⟩
noncomputable def L08_MatchReads (p0 : List UInt8) (p1 : Int × (Int × Int × Int × Int) × (Int × Int × Int × Int)) : Option Bool := (if 60 < (p0.length : Int) then (subl p0 0 60).bind fun x2 => some x2 else some p0).bind fun x1 => ((match_Read (octet_Open x1)).bind fun x9 => (r08_Read (x1, 0, 0)).bind fun x10 => (if (!(decide (x9.1.1 = x10.1.1 ∧ x9.1.2.1.1 = x10.1.2.1.1 ∧ x9.1.2.1.2.1 = x10.1.2.1.2.1 ∧ x9.1.2.1.2.2.1 = x10.1.2.1.2.2.1 ∧ x9.1.2.1.2.2.2 = x10.1.2.1.2.2.2 ∧ x9.1.2.2.1 = x10.1.2.2.1 ∧ x9.1.2.2.2.1 = x10.1.2.2.2.1 ∧ x9.1.2.2.2.2.1 = x10.1.2.2.2.2.1 ∧ x9.1.2.2.2.2.2 = x10.1.2.2.2.2.2))) = true then some (true, x10.2.1, x10.2.2.1, x10.2.2.2, x9.2.1, x9.2.2) else (if (octet_Reader_Left x9.2) ≠ (r04_Reader_Left x10.2) then some (true, x10.2.1, x10.2.2.1, x10.2.2.2, x9.2.1, x9.2.2) else (octet_Reader_End x9.2).bind fun x11 => (r04_Reader_End x10.2).bind fun x12 => some (decide (x11.1 ≠ x12.1), x12.2.1, x12.2.2.1, x12.2.2.2, x11.2.1, x11.2.2)))).bind fun (x3, x4, x5, x6, x7, x8) => (if x3 = true then some false else (r08_Right p1).bind fun x13 => (if (!x13) = true then (L08_awake).bind fun x14 => some x14 else (match_Code p1).bind fun x15 => ((match_Read (octet_Open x15)).bind fun x19 => (if x19.1.1 = p1.1 ∧ x19.1.2.1.1 = p1.2.1.1 ∧ x19.1.2.1.2.1 = p1.2.1.2.1 ∧ x19.1.2.1.2.2.1 = p1.2.1.2.2.1 ∧ x19.1.2.1.2.2.2 = p1.2.1.2.2.2 ∧ x19.1.2.2.1 = p1.2.2.1 ∧ x19.1.2.2.2.1 = p1.2.2.2.1 ∧ x19.1.2.2.2.2.1 = p1.2.2.2.2.1 ∧ x19.1.2.2.2.2.2 = p1.2.2.2.2.2 then (octet_Reader_End x19.2).bind fun x20 => (if x20.1 = 0 then (L08_awake).bind fun x21 => some (x21, x20.2.1, x20.2.2) else some (false, x20.2.1, x20.2.2)) else some (false, x19.2.1, x19.2.2))).bind fun (x16, x17, x18) => some x16))
theorem L08_MatchReads_c (Y : Nat → Prop) (w0 : World)  (p0 : List UInt8) (p1 : Int × (Int × Int × Int × Int) × (Int × Int × Int × Int)) (r : Bool) (H : L08_MatchReads p0 p1 = some r) (hG : Gk [] w0) :
    Calls Tryd.prog 4 #[.string (bs p0), .agg #[.int .i64 p1.1, .int .i64 p1.2.1.1, .int .i64 p1.2.1.2.1, .int .i64 p1.2.1.2.2.1, .int .i64 p1.2.1.2.2.2, .int .i64 p1.2.2.1, .int .i64 p1.2.2.2.1, .int .i64 p1.2.2.2.2.1, .int .i64 p1.2.2.2.2.2]] w0 fun e w' => e = .returned (.bool r) ∧ Below w0.heap.size w0 w' := by
  refine enter Tryd.func4 rfl Tryd.ntmps4 rfl (fun a hF => ?_)
  have hW := Stw.start Y w0
  unfold L08_MatchReads at H
  refine c_seq ?_
  refine reg_list ?_
  refine l_box (cs := [.int .i64 p1.1, .int .i64 p1.2.1.1, .int .i64 p1.2.1.2.1, .int .i64 p1.2.1.2.2.1, .int .i64 p1.2.1.2.2.2, .int .i64 p1.2.2.1, .int .i64 p1.2.2.2.1, .int .i64 p1.2.2.2.2.1, .int .i64 p1.2.2.2.2.2]) hF hW rfl rfl rfl (fun b1 a w hF hW => ?_)
  refine ls hF hW rfl ((y_assign hF rfl).q) (fun a w hF hW => ?_)
  refine ls_nil ?_
  refine c_then ?_
  obtain ⟨o1, G1, K1⟩ := bindE H
  refine c_seqJ (fun a w => ∃ x1 : List UInt8, some (x1) = some o1 ∧ Fr 56 [] [(0, .string (bs x1)), (3, .pointer (some ⟨b1, 0, none⟩)), (4, .bool false)] a ∧ Stw ⟨Y, [], w0⟩ [(b1, [.int .i64 p1.1, .int .i64 p1.2.1.1, .int .i64 p1.2.1.2.1, .int .i64 p1.2.1.2.2.1, .int .i64 p1.2.1.2.2.2, .int .i64 p1.2.2.1, .int .i64 p1.2.2.2.1, .int .i64 p1.2.2.2.2.1, .int .i64 p1.2.2.2.2.2])] [] w) ?_ ?_
  ·
    have H := G1
    clear G1 K1
    refine c_seq ?_
    refine reg_list ?_
    refine ls hF hW rfl ((y_move hF rfl).q) (fun a w hF hW => ?_)
    refine ls hF hW rfl ((y_slen (l := p0) Tryd.underlying9 rfl hF rfl).q) (fun a w hF hW => ?_)
    refine ls hF hW rfl ((y_gtr hF rfl rfl).q) (fun a w hF hW => ?_)
    refine ls_nil ?_
    refine c_then ?_
    refine c_cond hF rfl (fun hb => ?_) (fun hb => ?_)
    ·
      have H := iteT (of_decide_eq_true hb) H
      rw [hb] at hF
      clear hb
      refine reg_list ?_
      refine ls hF hW rfl ((y_move hF rfl).q) (fun a w hF hW => ?_)
      obtain ⟨x2, h1, H⟩ := bindE H
      refine ls hF hW rfl ((y_sslice (l := p0) Tryd.underlying9 hF rfl rfl rfl h1).q) (fun a w hF hW => ?_)
      refine ls hF hW rfl ((y_assign hF rfl).q) (fun a w hF hW => ?_)
      refine ls_nil ?_
      refine c_then ?_
      exact ⟨_, H, hF.re ⟨rfl, rfl, rfl, trivial⟩, hW⟩
    ·
      have H := iteF (of_decide_eq_false hb) H
      rw [hb] at hF
      clear hb
      refine wp_skip ?_
      refine c_then ?_
      exact ⟨_, H, hF.re ⟨rfl, rfl, rfl, trivial⟩, hW⟩
  rintro a w ⟨x1, hj, hF, hW⟩
  have hj := Option.some.inj hj
  subst hj
  have H := K1
  clear G1 K1
  refine c_seq ?_
  refine reg_list ?_
  refine ls hF hW rfl ((y_move hF rfl).q) (fun a w hF hW => ?_)
  refine l_callG (Ml := []) (Zl := []) (M := [(b1, [.int .i64 p1.1, .int .i64 p1.2.1.1, .int .i64 p1.2.1.2.1, .int .i64 p1.2.1.2.2.1, .int .i64 p1.2.1.2.2.2, .int .i64 p1.2.2.1, .int .i64 p1.2.2.2.1, .int .i64 p1.2.2.2.2.1, .int .i64 p1.2.2.2.2.2])]) (Z := []) (β := Nat) (rv := fun x => .pointer (some ⟨x, 0, none⟩)) (MM := fun x => [(x, [.string (bs ((octet_Open x1).1)), .int .i64 ((octet_Open x1).2)])]) (ZZ := fun x => []) hF hW H26 rfl rfl (fun hL => octet_Open_c _ w x1 _ rfl) (fun x a w hF hW => ?_)
  obtain ⟨b2, rfl⟩ : ∃ y, y = x := ⟨x, rfl⟩
  have hW : Stw ⟨Y, [], w0⟩ [(b2, [.string (bs ((octet_Open x1).1)), .int .i64 ((octet_Open x1).2)]), (b1, [.int .i64 p1.1, .int .i64 p1.2.1.1, .int .i64 p1.2.1.2.1, .int .i64 p1.2.1.2.2.1, .int .i64 p1.2.1.2.2.2, .int .i64 p1.2.2.1, .int .i64 p1.2.2.2.1, .int .i64 p1.2.2.2.2.1, .int .i64 p1.2.2.2.2.2])] [] w := hW
  refine ls hF hW rfl ((y_move hF rfl).q) (fun a w hF hW => ?_)
  refine ls hF hW rfl ((y_build (v := Value.agg #[.string (bs x1), .int .i64 0, .int .i64 0]) B42 hF rfl rfl rfl).q) (fun a w hF hW => ?_)
  refine l_box (cs := [.string (bs x1), .int .i64 0, .int .i64 0]) hF hW rfl rfl rfl (fun b3 a w hF hW => ?_)
  refine ls hF hW rfl ((y_assign hF rfl).q) (fun a w hF hW => ?_)
  refine ls hF hW rfl ((y_assign hF rfl).q) (fun a w hF hW => ?_)
  refine ls_nil ?_
  refine c_then ?_
  refine c_seq ?_
  obtain ⟨o2, G2, K2⟩ := bindE H
  refine c_seqJ (fun a w => ∃ x3 : Bool, ∃ x4 : List UInt8, ∃ x5 : Int, ∃ x6 : Int, ∃ x7 : List UInt8, ∃ x8 : Int, some ((x3, x4, x5, x6, x7, x8)) = some o2 ∧ Fr 56 [] [(3, .pointer (some ⟨b1, 0, none⟩)), (4, .bool false), (36, .bool x3)] a ∧ Stw ⟨Y, [], w0⟩ [(b3, [.string (bs x4), .int .i64 x5, .int .i64 x6]), (b2, [.string (bs x7), .int .i64 x8]), (b1, [.int .i64 p1.1, .int .i64 p1.2.1.1, .int .i64 p1.2.1.2.1, .int .i64 p1.2.1.2.2.1, .int .i64 p1.2.1.2.2.2, .int .i64 p1.2.2.1, .int .i64 p1.2.2.2.1, .int .i64 p1.2.2.2.2.1, .int .i64 p1.2.2.2.2.2])] [] w) ?_ ?_
  ·
    have H := G2
    clear G2 K2
    refine reg_list ?_
    refine ls hF hW rfl ((y_move hF rfl).q) (fun a w hF hW => ?_)
    obtain ⟨x9, h2, H⟩ := bindE H
    have hW := hW.frontM (i := 1) rfl rfl
    refine l_callG (Ml := [(b2, [.string (bs ((octet_Open x1).1)), .int .i64 ((octet_Open x1).2)])]) (Zl := []) (M := [(b3, [.string (bs x1), .int .i64 0, .int .i64 0]), (b1, [.int .i64 p1.1, .int .i64 p1.2.1.1, .int .i64 p1.2.1.2.1, .int .i64 p1.2.1.2.2.1, .int .i64 p1.2.1.2.2.2, .int .i64 p1.2.2.1, .int .i64 p1.2.2.2.1, .int .i64 p1.2.2.2.2.1, .int .i64 p1.2.2.2.2.2])]) (Z := []) (β := Unit) (rv := fun x => .agg #[.int .i64 x9.1.1, .int .i64 x9.1.2.1.1, .int .i64 x9.1.2.1.2.1, .int .i64 x9.1.2.1.2.2.1, .int .i64 x9.1.2.1.2.2.2, .int .i64 x9.1.2.2.1, .int .i64 x9.1.2.2.2.1, .int .i64 x9.1.2.2.2.2.1, .int .i64 x9.1.2.2.2.2.2]) (MM := fun x => [(b2, [.string (bs x9.2.1), .int .i64 x9.2.2])]) (ZZ := fun x => []) hF hW H27 rfl rfl (fun hL => match_Read_c _ _ w b2 (octet_Open x1) _ h2 hL) (fun x a w hF hW => ?_)
    have hW : Stw ⟨Y, [], w0⟩ [(b2, [.string (bs x9.2.1), .int .i64 x9.2.2]), (b3, [.string (bs x1), .int .i64 0, .int .i64 0]), (b1, [.int .i64 p1.1, .int .i64 p1.2.1.1, .int .i64 p1.2.1.2.1, .int .i64 p1.2.1.2.2.1, .int .i64 p1.2.1.2.2.2, .int .i64 p1.2.2.1, .int .i64 p1.2.2.2.1, .int .i64 p1.2.2.2.2.1, .int .i64 p1.2.2.2.2.2])] [] w := hW
    refine ls hF hW rfl ((y_move hF rfl).q) (fun a w hF hW => ?_)
    obtain ⟨x10, h3, H⟩ := bindE H
    have hW := hW.frontM (i := 1) rfl rfl
    refine l_callG (Ml := [(b3, [.string (bs x1), .int .i64 0, .int .i64 0])]) (Zl := []) (M := [(b2, [.string (bs x9.2.1), .int .i64 x9.2.2]), (b1, [.int .i64 p1.1, .int .i64 p1.2.1.1, .int .i64 p1.2.1.2.1, .int .i64 p1.2.1.2.2.1, .int .i64 p1.2.1.2.2.2, .int .i64 p1.2.2.1, .int .i64 p1.2.2.2.1, .int .i64 p1.2.2.2.2.1, .int .i64 p1.2.2.2.2.2])]) (Z := []) (β := Unit) (rv := fun x => .agg #[.int .i64 x10.1.1, .int .i64 x10.1.2.1.1, .int .i64 x10.1.2.1.2.1, .int .i64 x10.1.2.1.2.2.1, .int .i64 x10.1.2.1.2.2.2, .int .i64 x10.1.2.2.1, .int .i64 x10.1.2.2.2.1, .int .i64 x10.1.2.2.2.2.1, .int .i64 x10.1.2.2.2.2.2]) (MM := fun x => [(b3, [.string (bs x10.2.1), .int .i64 x10.2.2.1, .int .i64 x10.2.2.2])]) (ZZ := fun x => []) hF hW H28 rfl rfl (fun hL => r08_Read_c _ _ w b3 (x1, 0, 0) _ h3 hL) (fun x a w hF hW => ?_)
    have hW : Stw ⟨Y, [], w0⟩ [(b3, [.string (bs x10.2.1), .int .i64 x10.2.2.1, .int .i64 x10.2.2.2]), (b2, [.string (bs x9.2.1), .int .i64 x9.2.2]), (b1, [.int .i64 p1.1, .int .i64 p1.2.1.1, .int .i64 p1.2.1.2.1, .int .i64 p1.2.1.2.2.1, .int .i64 p1.2.1.2.2.2, .int .i64 p1.2.2.1, .int .i64 p1.2.2.2.1, .int .i64 p1.2.2.2.2.1, .int .i64 p1.2.2.2.2.2])] [] w := hW
    refine ls hF hW rfl ((y_nea (t := decide (x9.1.1 = x10.1.1 ∧ x9.1.2.1.1 = x10.1.2.1.1 ∧ x9.1.2.1.2.1 = x10.1.2.1.2.1 ∧ x9.1.2.1.2.2.1 = x10.1.2.1.2.2.1 ∧ x9.1.2.1.2.2.2 = x10.1.2.1.2.2.2 ∧ x9.1.2.2.1 = x10.1.2.2.1 ∧ x9.1.2.2.2.1 = x10.1.2.2.2.1 ∧ x9.1.2.2.2.2.1 = x10.1.2.2.2.2.1 ∧ x9.1.2.2.2.2.2 = x10.1.2.2.2.2.2)) G24 (Q24 _ _ _ _ _ _ _ _ _ _ _ _ _ _ _ _ _ _) hF rfl rfl).q) (fun a w hF hW => ?_)
    refine ls hF hW rfl ((y_move hF rfl).q) (fun a w hF hW => ?_)
    rcases Bool.eq_false_or_eq_true (!(decide (x9.1.1 = x10.1.1 ∧ x9.1.2.1.1 = x10.1.2.1.1 ∧ x9.1.2.1.2.1 = x10.1.2.1.2.1 ∧ x9.1.2.1.2.2.1 = x10.1.2.1.2.2.1 ∧ x9.1.2.1.2.2.2 = x10.1.2.1.2.2.2 ∧ x9.1.2.2.1 = x10.1.2.2.1 ∧ x9.1.2.2.2.1 = x10.1.2.2.2.1 ∧ x9.1.2.2.2.2.1 = x10.1.2.2.2.2.1 ∧ x9.1.2.2.2.2.2 = x10.1.2.2.2.2.2))) with hb | hb
    ·
      have H := iteT hb H
      rw [hb] at hF
      clear hb
      refine ls_skip hF (wanted_n hF rfl rfl rfl rfl rfl) rfl rfl (fun a hF => ?_)
      refine ls_skip hF (wanted_n hF rfl rfl rfl rfl rfl) rfl rfl (fun a hF => ?_)
      refine ls_skip hF (wanted_n hF rfl rfl rfl rfl rfl) rfl rfl (fun a hF => ?_)
      refine ls_skip hF (wanted_n hF rfl rfl rfl rfl rfl) rfl rfl (fun a hF => ?_)
      refine ls_skip hF (wanted_n hF rfl rfl rfl rfl rfl) rfl rfl (fun a hF => ?_)
      refine ls hF hW rfl ((y_pick_t hF rfl rfl rfl).q) (fun a w hF hW => ?_)
      refine ls hF hW rfl ((y_move hF rfl).q) (fun a w hF hW => ?_)
      refine ls_skip hF (wanted_n hF rfl rfl rfl rfl rfl) rfl rfl (fun a hF => ?_)
      refine ls_skip hF (wanted_n hF rfl rfl rfl rfl rfl) rfl rfl (fun a hF => ?_)
      refine ls_skip hF (wanted_n hF rfl rfl rfl rfl rfl) rfl rfl (fun a hF => ?_)
      refine ls_skip hF (wanted_n hF rfl rfl rfl rfl rfl) rfl rfl (fun a hF => ?_)
      refine ls_skip hF (wanted_n hF rfl rfl rfl rfl rfl) rfl rfl (fun a hF => ?_)
      refine ls hF hW rfl ((y_pick_t hF rfl rfl rfl).q) (fun a w hF hW => ?_)
      refine ls_nil ?_
      refine c_then ?_
      have hW := hW.frontM (i := 2) rfl rfl
      have hW := hW.frontM (i := 2) rfl rfl
      have hW := hW.frontM (i := 2) rfl rfl
      exact ⟨_, _, _, _, _, _, H, hF.re ⟨rfl, rfl, rfl, trivial⟩, hW⟩
    ·
      have H := iteF (by rw [hb]; decide) H
      rw [hb] at hF
      clear hb
      refine ls_w hF hW (wanted_y hF rfl rfl rfl rfl) rfl (Nat.le_of_ble_eq_true rfl) ((y_move hF rfl).q) (fun a w hF hW => ?_)
      refine ls_g (wanted_y hF rfl rfl rfl rfl) ?_
      refine ls hF hW rfl (y_call (v := Value.int .i64 (octet_Reader_Left x9.2)) hF H29 rfl (fun w hW => octet_Reader_Left_c any w b2 x9.2 _ rfl (at_M hW 1 rfl))) (fun a w hF hW => ?_)
      refine ls_w hF hW (wanted_y hF rfl rfl rfl rfl) rfl (Nat.le_of_ble_eq_true rfl) ((y_move hF rfl).q) (fun a w hF hW => ?_)
      refine ls_g (wanted_y hF rfl rfl rfl rfl) ?_
      refine ls hF hW rfl (y_call (v := Value.int .i64 (r04_Reader_Left x10.2)) hF H30 rfl (fun w hW => r04_Reader_Left_c any w b3 x10.2 _ rfl (at_M hW 0 rfl))) (fun a w hF hW => ?_)
      refine ls_w hF hW (wanted_y hF rfl rfl rfl rfl) rfl (Nat.le_of_ble_eq_true rfl) ((y_neq hF rfl rfl).q) (fun a w hF hW => ?_)
      refine ls hF hW rfl ((y_pick_f hF rfl rfl rfl).q) (fun a w hF hW => ?_)
      refine ls hF hW rfl ((y_move hF rfl).q) (fun a w hF hW => ?_)
      rcases Bool.eq_false_or_eq_true (decide ((octet_Reader_Left x9.2) ≠ (r04_Reader_Left x10.2))) with hb | hb
      ·
        have H := iteT (of_decide_eq_true hb) H
        rw [hb] at hF
        clear hb
        refine ls_skip hF (wanted_n hF rfl rfl rfl rfl rfl) rfl rfl (fun a hF => ?_)
        refine ls_skip hF (wanted_n hF rfl rfl rfl rfl rfl) rfl rfl (fun a hF => ?_)
        refine ls_skip hF (wanted_n hF rfl rfl rfl rfl rfl) rfl rfl (fun a hF => ?_)
        refine ls_skip hF (wanted_n hF rfl rfl rfl rfl rfl) rfl rfl (fun a hF => ?_)
        refine ls_skip hF (wanted_n hF rfl rfl rfl rfl rfl) rfl rfl (fun a hF => ?_)
        refine ls hF hW rfl ((y_pick_t hF rfl rfl rfl).q) (fun a w hF hW => ?_)
        refine ls_nil ?_
        refine c_then ?_
        have hW := hW.frontM (i := 2) rfl rfl
        have hW := hW.frontM (i := 2) rfl rfl
        have hW := hW.frontM (i := 2) rfl rfl
        exact ⟨_, _, _, _, _, _, H, hF.re ⟨rfl, rfl, rfl, trivial⟩, hW⟩
      ·
        have H := iteF (of_decide_eq_false hb) H
        rw [hb] at hF
        clear hb
        refine ls_w hF hW (wanted_y hF rfl rfl rfl rfl) rfl (Nat.le_of_ble_eq_true rfl) ((y_move hF rfl).q) (fun a w hF hW => ?_)
        refine ls_g (wanted_y hF rfl rfl rfl rfl) ?_
        obtain ⟨x11, h4, H⟩ := bindE H
        have hW := hW.frontM (i := 1) rfl rfl
        refine l_callG (Ml := [(b2, [.string (bs x9.2.1), .int .i64 x9.2.2])]) (Zl := []) (M := [(b3, [.string (bs x10.2.1), .int .i64 x10.2.2.1, .int .i64 x10.2.2.2]), (b1, [.int .i64 p1.1, .int .i64 p1.2.1.1, .int .i64 p1.2.1.2.1, .int .i64 p1.2.1.2.2.1, .int .i64 p1.2.1.2.2.2, .int .i64 p1.2.2.1, .int .i64 p1.2.2.2.1, .int .i64 p1.2.2.2.2.1, .int .i64 p1.2.2.2.2.2])]) (Z := []) (β := Unit) (rv := fun x => .int .i64 x11.1) (MM := fun x => [(b2, [.string (bs x11.2.1), .int .i64 x11.2.2])]) (ZZ := fun x => []) hF hW H31 rfl rfl (fun hL => octet_Reader_End_c _ _ w b2 x9.2 _ h4 hL) (fun x a w hF hW => ?_)
        have hW : Stw ⟨Y, [], w0⟩ [(b2, [.string (bs x11.2.1), .int .i64 x11.2.2]), (b3, [.string (bs x10.2.1), .int .i64 x10.2.2.1, .int .i64 x10.2.2.2]), (b1, [.int .i64 p1.1, .int .i64 p1.2.1.1, .int .i64 p1.2.1.2.1, .int .i64 p1.2.1.2.2.1, .int .i64 p1.2.1.2.2.2, .int .i64 p1.2.2.1, .int .i64 p1.2.2.2.1, .int .i64 p1.2.2.2.2.1, .int .i64 p1.2.2.2.2.2])] [] w := hW
        refine ls_w hF hW (wanted_y hF rfl rfl rfl rfl) rfl (Nat.le_of_ble_eq_true rfl) ((y_move hF rfl).q) (fun a w hF hW => ?_)
        refine ls_g (wanted_y hF rfl rfl rfl rfl) ?_
        obtain ⟨x12, h5, H⟩ := bindE H
        have hW := hW.frontM (i := 1) rfl rfl
        refine l_callG (Ml := [(b3, [.string (bs x10.2.1), .int .i64 x10.2.2.1, .int .i64 x10.2.2.2])]) (Zl := []) (M := [(b2, [.string (bs x11.2.1), .int .i64 x11.2.2]), (b1, [.int .i64 p1.1, .int .i64 p1.2.1.1, .int .i64 p1.2.1.2.1, .int .i64 p1.2.1.2.2.1, .int .i64 p1.2.1.2.2.2, .int .i64 p1.2.2.1, .int .i64 p1.2.2.2.1, .int .i64 p1.2.2.2.2.1, .int .i64 p1.2.2.2.2.2])]) (Z := []) (β := Unit) (rv := fun x => .int .i64 x12.1) (MM := fun x => [(b3, [.string (bs x12.2.1), .int .i64 x12.2.2.1, .int .i64 x12.2.2.2])]) (ZZ := fun x => []) hF hW H32 rfl rfl (fun hL => r04_Reader_End_c _ _ w b3 x10.2 _ h5 hL) (fun x a w hF hW => ?_)
        have hW : Stw ⟨Y, [], w0⟩ [(b3, [.string (bs x12.2.1), .int .i64 x12.2.2.1, .int .i64 x12.2.2.2]), (b2, [.string (bs x11.2.1), .int .i64 x11.2.2]), (b1, [.int .i64 p1.1, .int .i64 p1.2.1.1, .int .i64 p1.2.1.2.1, .int .i64 p1.2.1.2.2.1, .int .i64 p1.2.1.2.2.2, .int .i64 p1.2.2.1, .int .i64 p1.2.2.2.1, .int .i64 p1.2.2.2.2.1, .int .i64 p1.2.2.2.2.2])] [] w := hW
        refine ls_w hF hW (wanted_y hF rfl rfl rfl rfl) rfl (Nat.le_of_ble_eq_true rfl) ((y_neq hF rfl rfl).q) (fun a w hF hW => ?_)
        refine ls hF hW rfl ((y_pick_f hF rfl rfl rfl).q) (fun a w hF hW => ?_)
        refine ls_nil ?_
        refine c_then ?_
        have hW := hW.frontM (i := 2) rfl rfl
        have hW := hW.frontM (i := 2) rfl rfl
        have hW := hW.frontM (i := 2) rfl rfl
        exact ⟨_, _, _, _, _, _, H, hF.re ⟨rfl, rfl, rfl, trivial⟩, hW⟩
  rintro a w ⟨x3, x4, x5, x6, x7, x8, hj, hF, hW⟩
  have hj := Option.some.inj hj
  subst hj
  have H := K2
  clear G2 K2
  refine c_cond hF rfl (fun hb => ?_) (fun hb => ?_)
  ·
    have H := iteT hb H
    rw [hb] at hF
    clear hb
    refine c_seq ?_
    refine reg_list ?_
    refine ls hF hW rfl ((y_assign hF rfl).q) (fun a w hF hW => ?_)
    refine ls_nil ?_
    refine c_then ?_
    refine wp_ret ?_
    refine r_then ?_
    have H := Option.some.inj H
    subst H
    refine post1 (.inl rfl) hF hW rfl (rv_tmp hF rfl) ?_
    exact ⟨rfl, hW.done⟩
  ·
    have H := iteF (by rw [hb]; decide) H
    rw [hb] at hF
    clear hb
    refine wp_skip ?_
    refine c_then ?_
    refine c_seq ?_
    refine c_seq ?_
    refine reg_list ?_
    refine ls hF hW rfl ((y_load (v := Value.agg #[.int .i64 p1.1, .int .i64 p1.2.1.1, .int .i64 p1.2.1.2.1, .int .i64 p1.2.1.2.2.1, .int .i64 p1.2.1.2.2.2, .int .i64 p1.2.2.1, .int .i64 p1.2.2.2.1, .int .i64 p1.2.2.2.2.1, .int .i64 p1.2.2.2.2.2]) 2 hF rfl rfl T24 rfl).q) (fun a w hF hW => ?_)
    obtain ⟨x13, h6, H⟩ := bindE H
    refine ls hF hW rfl (y_call (v := Value.bool x13) hF H8 rfl (fun w hW => r08_Right_c any w p1 _ h6)) (fun a w hF hW => ?_)
    refine ls hF hW rfl ((y_not hF rfl).q) (fun a w hF hW => ?_)
    refine ls_nil ?_
    refine c_then ?_
    refine c_cond hF rfl (fun hb => ?_) (fun hb => ?_)
    ·
      have H := iteT hb H
      rw [hb] at hF
      clear hb
      refine c_seq ?_
      refine reg_list ?_
      obtain ⟨x14, h7, H⟩ := bindE H
      refine ls hF hW rfl (y_call (v := Value.bool x14) hF H13 rfl (fun w hW => L08_awake_c any w _ h7 (hG.go0 hW))) (fun a w hF hW => ?_)
      refine ls hF hW rfl ((y_assign hF rfl).q) (fun a w hF hW => ?_)
      refine ls_nil ?_
      refine c_then ?_
      refine wp_ret ?_
      refine r_then ?_
      have H := Option.some.inj H
      subst H
      refine post1 (.inl rfl) hF hW rfl (rv_tmp hF rfl) ?_
      exact ⟨rfl, hW.done⟩
    ·
      have H := iteF (by rw [hb]; decide) H
      rw [hb] at hF
      clear hb
      refine wp_skip ?_
      refine c_then ?_
      refine c_seq ?_
      refine reg_list ?_
      refine ls hF hW rfl ((y_load (v := Value.agg #[.int .i64 p1.1, .int .i64 p1.2.1.1, .int .i64 p1.2.1.2.1, .int .i64 p1.2.1.2.2.1, .int .i64 p1.2.1.2.2.2, .int .i64 p1.2.2.1, .int .i64 p1.2.2.2.1, .int .i64 p1.2.2.2.2.1, .int .i64 p1.2.2.2.2.2]) 2 hF rfl rfl T24 rfl).q) (fun a w hF hW => ?_)
      obtain ⟨x15, h8, H⟩ := bindE H
      refine ls hF hW rfl (y_call (v := Value.string (bs x15)) hF H22 rfl (fun w hW => match_Code_c any w p1 _ h8)) (fun a w hF hW => ?_)
      refine l_callG (Ml := []) (Zl := []) (M := [(b3, [.string (bs x4), .int .i64 x5, .int .i64 x6]), (b2, [.string (bs x7), .int .i64 x8]), (b1, [.int .i64 p1.1, .int .i64 p1.2.1.1, .int .i64 p1.2.1.2.1, .int .i64 p1.2.1.2.2.1, .int .i64 p1.2.1.2.2.2, .int .i64 p1.2.2.1, .int .i64 p1.2.2.2.1, .int .i64 p1.2.2.2.2.1, .int .i64 p1.2.2.2.2.2])]) (Z := []) (β := Nat) (rv := fun x => .pointer (some ⟨x, 0, none⟩)) (MM := fun x => [(x, [.string (bs ((octet_Open x15).1)), .int .i64 ((octet_Open x15).2)])]) (ZZ := fun x => []) hF hW H26 rfl rfl (fun hL => octet_Open_c _ w x15 _ rfl) (fun x a w hF hW => ?_)
      obtain ⟨b4, rfl⟩ : ∃ y, y = x := ⟨x, rfl⟩
      have hW : Stw ⟨Y, [], w0⟩ [(b4, [.string (bs ((octet_Open x15).1)), .int .i64 ((octet_Open x15).2)]), (b3, [.string (bs x4), .int .i64 x5, .int .i64 x6]), (b2, [.string (bs x7), .int .i64 x8]), (b1, [.int .i64 p1.1, .int .i64 p1.2.1.1, .int .i64 p1.2.1.2.1, .int .i64 p1.2.1.2.2.1, .int .i64 p1.2.1.2.2.2, .int .i64 p1.2.2.1, .int .i64 p1.2.2.2.1, .int .i64 p1.2.2.2.2.1, .int .i64 p1.2.2.2.2.2])] [] w := hW
      refine ls hF hW rfl ((y_assign hF rfl).q) (fun a w hF hW => ?_)
      refine ls_nil ?_
      refine c_then ?_
      obtain ⟨o3, G3, K3⟩ := bindE H
      refine c_seqJ (fun a w => ∃ x16 : Bool, ∃ x17 : List UInt8, ∃ x18 : Int, some ((x16, x17, x18)) = some o3 ∧ Fr 56 [] [(4, .bool x16)] a ∧ Stw ⟨Y, [], w0⟩ [(b4, [.string (bs x17), .int .i64 x18]), (b3, [.string (bs x4), .int .i64 x5, .int .i64 x6]), (b2, [.string (bs x7), .int .i64 x8]), (b1, [.int .i64 p1.1, .int .i64 p1.2.1.1, .int .i64 p1.2.1.2.1, .int .i64 p1.2.1.2.2.1, .int .i64 p1.2.1.2.2.2, .int .i64 p1.2.2.1, .int .i64 p1.2.2.2.1, .int .i64 p1.2.2.2.2.1, .int .i64 p1.2.2.2.2.2])] [] w) ?_ ?_
      ·
        have H := G3
        clear G3 K3
        refine reg_plan [(true, 0), (true, 2), (false, 1), (true, 3), (true, 4), (true, 5), (false, 6), (true, 7), (true, 8), (true, 9), (false, 10), (true, 11), (false, 12)] (CN ⟨Y, [], w0⟩ [(some 12, b1, [.int .i64 p1.1, .int .i64 p1.2.1.1, .int .i64 p1.2.1.2.1, .int .i64 p1.2.1.2.2.1, .int .i64 p1.2.1.2.2.2, .int .i64 p1.2.2.1, .int .i64 p1.2.2.2.1, .int .i64 p1.2.2.2.2.1, .int .i64 p1.2.2.2.2.2])] []) (fun ch a d v w h => by cases d <;> exact h) MO (by kernel_rfl) hW (fun w hW => ⟨_, _, hW, (all_cons (fun _ => (.tail _ (.tail _ (.tail _ (.head _))))) all_nil), all_nil⟩) (fun w hW => ?_)
        refine pl_t (R := []) hF rfl rfl (yC fun M Z hN hZ => y_move hF rfl) rfl rfl (fun a hF => ?_)
        refine pl_t (R := [12]) hF rfl rfl (yC fun M Z hN hZ => y_load_m (cs := [.int .i64 p1.1, .int .i64 p1.2.1.1, .int .i64 p1.2.1.2.1, .int .i64 p1.2.1.2.2.1, .int .i64 p1.2.1.2.2.2, .int .i64 p1.2.2.1, .int .i64 p1.2.2.2.1, .int .i64 p1.2.2.2.2.1, .int .i64 p1.2.2.2.2.2]) (v := Value.agg #[.int .i64 p1.1, .int .i64 p1.2.1.1, .int .i64 p1.2.1.2.1, .int .i64 p1.2.1.2.2.1, .int .i64 p1.2.1.2.2.2, .int .i64 p1.2.2.1, .int .i64 p1.2.2.2.1, .int .i64 p1.2.2.2.2.1, .int .i64 p1.2.2.2.2.2]) hF rfl (hN ((some 12), b1, [.int .i64 p1.1, .int .i64 p1.2.1.1, .int .i64 p1.2.1.2.1, .int .i64 p1.2.1.2.2.1, .int .i64 p1.2.1.2.2.2, .int .i64 p1.2.2.1, .int .i64 p1.2.2.2.1, .int .i64 p1.2.2.2.2.1, .int .i64 p1.2.2.2.2.2]) (.head _) rfl) T24 rfl) (by kernel_rfl) rfl (fun a hF => ?_)
        refine pl_f rfl ?_
        obtain ⟨x19, h9, H⟩ := bindE H
        refine l_callG (Ml := [(b4, [.string (bs ((octet_Open x15).1)), .int .i64 ((octet_Open x15).2)])]) (Zl := []) (M := [(b3, [.string (bs x4), .int .i64 x5, .int .i64 x6]), (b2, [.string (bs x7), .int .i64 x8]), (b1, [.int .i64 p1.1, .int .i64 p1.2.1.1, .int .i64 p1.2.1.2.1, .int .i64 p1.2.1.2.2.1, .int .i64 p1.2.1.2.2.2, .int .i64 p1.2.2.1, .int .i64 p1.2.2.2.1, .int .i64 p1.2.2.2.2.1, .int .i64 p1.2.2.2.2.2])]) (Z := []) (β := Unit) (rv := fun x => .agg #[.int .i64 x19.1.1, .int .i64 x19.1.2.1.1, .int .i64 x19.1.2.1.2.1, .int .i64 x19.1.2.1.2.2.1, .int .i64 x19.1.2.1.2.2.2, .int .i64 x19.1.2.2.1, .int .i64 x19.1.2.2.2.1, .int .i64 x19.1.2.2.2.2.1, .int .i64 x19.1.2.2.2.2.2]) (MM := fun x => [(b4, [.string (bs x19.2.1), .int .i64 x19.2.2])]) (ZZ := fun x => []) hF hW H27 rfl rfl (fun hL => match_Read_c _ _ w b4 (octet_Open x15) _ h9 hL) (fun x a w hF hW => ?_)
        have hW : Stw ⟨Y, [], w0⟩ [(b4, [.string (bs x19.2.1), .int .i64 x19.2.2]), (b3, [.string (bs x4), .int .i64 x5, .int .i64 x6]), (b2, [.string (bs x7), .int .i64 x8]), (b1, [.int .i64 p1.1, .int .i64 p1.2.1.1, .int .i64 p1.2.1.2.1, .int .i64 p1.2.1.2.2.1, .int .i64 p1.2.1.2.2.2, .int .i64 p1.2.2.1, .int .i64 p1.2.2.2.1, .int .i64 p1.2.2.2.2.1, .int .i64 p1.2.2.2.2.2])] [] w := hW
        refine pl_next (N2 := []) (NZ2 := []) (N3 := [(some 12, b1, [.int .i64 p1.1, .int .i64 p1.2.1.1, .int .i64 p1.2.1.2.1, .int .i64 p1.2.1.2.2.1, .int .i64 p1.2.1.2.2.2, .int .i64 p1.2.2.1, .int .i64 p1.2.2.2.1, .int .i64 p1.2.2.2.2.1, .int .i64 p1.2.2.2.2.2])]) (NZ3 := []) hW rfl rfl (all_cons (fun _ => (.tail _ (.tail _ (.tail _ (.head _))))) all_nil) all_nil ?_
        refine pl_t (R := []) hF rfl rfl (yC fun M Z hN hZ => y_eqa (t := decide (x19.1.1 = p1.1 ∧ x19.1.2.1.1 = p1.2.1.1 ∧ x19.1.2.1.2.1 = p1.2.1.2.1 ∧ x19.1.2.1.2.2.1 = p1.2.1.2.2.1 ∧ x19.1.2.1.2.2.2 = p1.2.1.2.2.2 ∧ x19.1.2.2.1 = p1.2.2.1 ∧ x19.1.2.2.2.1 = p1.2.2.2.1 ∧ x19.1.2.2.2.2.1 = p1.2.2.2.2.1 ∧ x19.1.2.2.2.2.2 = p1.2.2.2.2.2)) G24 (Q24 _ _ _ _ _ _ _ _ _ _ _ _ _ _ _ _ _ _) hF rfl rfl) rfl rfl (fun a hF => ?_)
        refine pl_t (R := []) hF rfl rfl (yC fun M Z hN hZ => y_move hF rfl) rfl rfl (fun a hF => ?_)
        rcases Bool.eq_false_or_eq_true (decide (x19.1.1 = p1.1 ∧ x19.1.2.1.1 = p1.2.1.1 ∧ x19.1.2.1.2.1 = p1.2.1.2.1 ∧ x19.1.2.1.2.2.1 = p1.2.1.2.2.1 ∧ x19.1.2.1.2.2.2 = p1.2.1.2.2.2 ∧ x19.1.2.2.1 = p1.2.2.1 ∧ x19.1.2.2.2.1 = p1.2.2.2.1 ∧ x19.1.2.2.2.2.1 = p1.2.2.2.2.1 ∧ x19.1.2.2.2.2.2 = p1.2.2.2.2.2)) with hb | hb
        ·
          have H := iteT (of_decide_eq_true hb) H
          rw [hb] at hF
          clear hb
          refine pl_w (R := []) hF rfl (wanted_y hF rfl rfl rfl rfl) rfl rfl (yC fun M Z hN hZ => y_move hF rfl) rfl rfl (fun a hF => ?_)
          refine pl_f rfl ?_
          refine ls_g (wanted_y hF rfl rfl rfl rfl) ?_
          obtain ⟨x20, h10, H⟩ := bindE H
          refine l_callG (Ml := [(b4, [.string (bs x19.2.1), .int .i64 x19.2.2])]) (Zl := []) (M := [(b3, [.string (bs x4), .int .i64 x5, .int .i64 x6]), (b2, [.string (bs x7), .int .i64 x8]), (b1, [.int .i64 p1.1, .int .i64 p1.2.1.1, .int .i64 p1.2.1.2.1, .int .i64 p1.2.1.2.2.1, .int .i64 p1.2.1.2.2.2, .int .i64 p1.2.2.1, .int .i64 p1.2.2.2.1, .int .i64 p1.2.2.2.2.1, .int .i64 p1.2.2.2.2.2])]) (Z := []) (β := Unit) (rv := fun x => .int .i64 x20.1) (MM := fun x => [(b4, [.string (bs x20.2.1), .int .i64 x20.2.2])]) (ZZ := fun x => []) hF hW H31 rfl rfl (fun hL => octet_Reader_End_c _ _ w b4 x19.2 _ h10 hL) (fun x a w hF hW => ?_)
          have hW : Stw ⟨Y, [], w0⟩ [(b4, [.string (bs x20.2.1), .int .i64 x20.2.2]), (b3, [.string (bs x4), .int .i64 x5, .int .i64 x6]), (b2, [.string (bs x7), .int .i64 x8]), (b1, [.int .i64 p1.1, .int .i64 p1.2.1.1, .int .i64 p1.2.1.2.1, .int .i64 p1.2.1.2.2.1, .int .i64 p1.2.1.2.2.2, .int .i64 p1.2.2.1, .int .i64 p1.2.2.2.1, .int .i64 p1.2.2.2.2.1, .int .i64 p1.2.2.2.2.2])] [] w := hW
          refine pl_next (N2 := []) (NZ2 := []) (N3 := [(some 12, b1, [.int .i64 p1.1, .int .i64 p1.2.1.1, .int .i64 p1.2.1.2.1, .int .i64 p1.2.1.2.2.1, .int .i64 p1.2.1.2.2.2, .int .i64 p1.2.2.1, .int .i64 p1.2.2.2.1, .int .i64 p1.2.2.2.2.1, .int .i64 p1.2.2.2.2.2])]) (NZ3 := []) hW rfl rfl (all_cons (fun _ => (.tail _ (.tail _ (.tail _ (.head _))))) all_nil) all_nil ?_
          refine pl_w (R := []) hF rfl (wanted_y hF rfl rfl rfl rfl) rfl rfl (yC fun M Z hN hZ => y_eql hF rfl rfl) rfl rfl (fun a hF => ?_)
          refine pl_t (R := []) hF rfl rfl (yC fun M Z hN hZ => y_pick_t hF rfl rfl rfl) rfl rfl (fun a hF => ?_)
          refine pl_t (R := []) hF rfl rfl (yC fun M Z hN hZ => y_move hF rfl) rfl rfl (fun a hF => ?_)
          rcases Bool.eq_false_or_eq_true (decide (x20.1 = 0)) with hb | hb
          ·
            have H := iteT (of_decide_eq_true hb) H
            rw [hb] at hF
            clear hb
            refine pl_f rfl ?_
            refine ls_g (wanted_y hF rfl rfl rfl rfl) ?_
            obtain ⟨x21, h11, H⟩ := bindE H
            refine ls hF hW rfl (y_call (v := Value.bool x21) hF H13 rfl (fun w hW => L08_awake_c any w _ h11 (hG.go0 hW))) (fun a w hF hW => ?_)
            refine pl_next (N2 := []) (NZ2 := []) (N3 := [(some 12, b1, [.int .i64 p1.1, .int .i64 p1.2.1.1, .int .i64 p1.2.1.2.1, .int .i64 p1.2.1.2.2.1, .int .i64 p1.2.1.2.2.2, .int .i64 p1.2.2.1, .int .i64 p1.2.2.2.1, .int .i64 p1.2.2.2.2.1, .int .i64 p1.2.2.2.2.2])]) (NZ3 := []) hW rfl rfl (all_cons (fun _ => (.tail _ (.tail _ (.tail _ (.head _))))) all_nil) all_nil ?_
            refine pl_t (R := []) hF rfl rfl (yC fun M Z hN hZ => y_pick_t hF rfl rfl rfl) rfl rfl (fun a hF => ?_)
            refine pl_f rfl ?_
            refine ls hF hW rfl ((y_assign hF rfl).q) (fun a w hF hW => ?_)
            refine pl_next (N2 := []) (NZ2 := []) (N3 := [(some 12, b1, [.int .i64 p1.1, .int .i64 p1.2.1.1, .int .i64 p1.2.1.2.1, .int .i64 p1.2.1.2.2.1, .int .i64 p1.2.1.2.2.2, .int .i64 p1.2.2.1, .int .i64 p1.2.2.2.1, .int .i64 p1.2.2.2.2.1, .int .i64 p1.2.2.2.2.2])]) (NZ3 := []) hW rfl rfl (all_cons (fun h => rel_dead (by kernel_rfl) h) all_nil) all_nil ?_
            refine pl_end ?_
            refine c_then ?_
            have hW := hW.frontM (i := 3) rfl rfl
            have hW := hW.frontM (i := 3) rfl rfl
            have hW := hW.frontM (i := 3) rfl rfl
            have hW := hW.frontM (i := 3) rfl rfl
            exact ⟨_, _, _, H, hF.re ⟨rfl, trivial⟩, hW⟩
          ·
            have H := iteF (of_decide_eq_false hb) H
            rw [hb] at hF
            clear hb
            refine pl_f rfl ?_
            refine ls_skip hF (wanted_n hF rfl rfl rfl rfl rfl) rfl rfl (fun a hF => ?_)
            refine pl_next (N2 := []) (NZ2 := []) (N3 := [(some 12, b1, [.int .i64 p1.1, .int .i64 p1.2.1.1, .int .i64 p1.2.1.2.1, .int .i64 p1.2.1.2.2.1, .int .i64 p1.2.1.2.2.2, .int .i64 p1.2.2.1, .int .i64 p1.2.2.2.1, .int .i64 p1.2.2.2.2.1, .int .i64 p1.2.2.2.2.2])]) (NZ3 := []) hW rfl rfl (all_cons (fun _ => (.tail _ (.tail _ (.tail _ (.head _))))) all_nil) all_nil ?_
            refine pl_t (R := []) hF rfl rfl (yC fun M Z hN hZ => y_pick_f hF rfl rfl rfl) rfl rfl (fun a hF => ?_)
            refine pl_f rfl ?_
            refine ls hF hW rfl ((y_assign hF rfl).q) (fun a w hF hW => ?_)
            refine pl_next (N2 := []) (NZ2 := []) (N3 := [(some 12, b1, [.int .i64 p1.1, .int .i64 p1.2.1.1, .int .i64 p1.2.1.2.1, .int .i64 p1.2.1.2.2.1, .int .i64 p1.2.1.2.2.2, .int .i64 p1.2.2.1, .int .i64 p1.2.2.2.1, .int .i64 p1.2.2.2.2.1, .int .i64 p1.2.2.2.2.2])]) (NZ3 := []) hW rfl rfl (all_cons (fun h => rel_dead (by kernel_rfl) h) all_nil) all_nil ?_
            refine pl_end ?_
            refine c_then ?_
            have hW := hW.frontM (i := 3) rfl rfl
            have hW := hW.frontM (i := 3) rfl rfl
            have hW := hW.frontM (i := 3) rfl rfl
            have hW := hW.frontM (i := 3) rfl rfl
            exact ⟨_, _, _, H, hF.re ⟨rfl, trivial⟩, hW⟩
        ·
          have H := iteF (of_decide_eq_false hb) H
          rw [hb] at hF
          clear hb
          refine pl_skip hF rfl (wanted_n hF rfl rfl rfl rfl rfl) rfl rfl rfl (fun a hF => ?_)
          refine pl_f rfl ?_
          refine ls_skip hF (wanted_n hF rfl rfl rfl rfl rfl) rfl rfl (fun a hF => ?_)
          refine pl_next (N2 := []) (NZ2 := []) (N3 := [(some 12, b1, [.int .i64 p1.1, .int .i64 p1.2.1.1, .int .i64 p1.2.1.2.1, .int .i64 p1.2.1.2.2.1, .int .i64 p1.2.1.2.2.2, .int .i64 p1.2.2.1, .int .i64 p1.2.2.2.1, .int .i64 p1.2.2.2.2.1, .int .i64 p1.2.2.2.2.2])]) (NZ3 := []) hW rfl rfl (all_cons (fun _ => (.tail _ (.tail _ (.tail _ (.head _))))) all_nil) all_nil ?_
          refine pl_skip hF rfl (wanted_n hF rfl rfl rfl rfl rfl) rfl rfl rfl (fun a hF => ?_)
          refine pl_t (R := []) hF rfl rfl (yC fun M Z hN hZ => y_pick_f hF rfl rfl rfl) rfl rfl (fun a hF => ?_)
          refine pl_t (R := []) hF rfl rfl (yC fun M Z hN hZ => y_move hF rfl) rfl rfl (fun a hF => ?_)
          refine pl_f rfl ?_
          refine ls_skip hF (wanted_n hF rfl rfl rfl rfl rfl) rfl rfl (fun a hF => ?_)
          refine pl_next (N2 := []) (NZ2 := []) (N3 := [(some 12, b1, [.int .i64 p1.1, .int .i64 p1.2.1.1, .int .i64 p1.2.1.2.1, .int .i64 p1.2.1.2.2.1, .int .i64 p1.2.1.2.2.2, .int .i64 p1.2.2.1, .int .i64 p1.2.2.2.1, .int .i64 p1.2.2.2.2.1, .int .i64 p1.2.2.2.2.2])]) (NZ3 := []) hW rfl rfl (all_cons (fun _ => (.tail _ (.tail _ (.tail _ (.head _))))) all_nil) all_nil ?_
          refine pl_t (R := []) hF rfl rfl (yC fun M Z hN hZ => y_pick_f hF rfl rfl rfl) rfl rfl (fun a hF => ?_)
          refine pl_f rfl ?_
          refine ls hF hW rfl ((y_assign hF rfl).q) (fun a w hF hW => ?_)
          refine pl_next (N2 := []) (NZ2 := []) (N3 := [(some 12, b1, [.int .i64 p1.1, .int .i64 p1.2.1.1, .int .i64 p1.2.1.2.1, .int .i64 p1.2.1.2.2.1, .int .i64 p1.2.1.2.2.2, .int .i64 p1.2.2.1, .int .i64 p1.2.2.2.1, .int .i64 p1.2.2.2.2.1, .int .i64 p1.2.2.2.2.2])]) (NZ3 := []) hW rfl rfl (all_cons (fun h => rel_dead (by kernel_rfl) h) all_nil) all_nil ?_
          refine pl_end ?_
          refine c_then ?_
          have hW := hW.frontM (i := 3) rfl rfl
          have hW := hW.frontM (i := 3) rfl rfl
          have hW := hW.frontM (i := 3) rfl rfl
          have hW := hW.frontM (i := 3) rfl rfl
          exact ⟨_, _, _, H, hF.re ⟨rfl, trivial⟩, hW⟩
      rintro a w ⟨x16, x17, x18, hj, hF, hW⟩
      have hj := Option.some.inj hj
      subst hj
      have H := K3
      clear G3 K3
      refine wp_ret ?_
      have H := Option.some.inj H
      subst H
      refine post1 (.inl rfl) hF hW rfl (rv_tmp hF rfl) ?_
      exact ⟨rfl, hW.done⟩

noncomputable def L08_MatchMeets (p0 : Int × (Int × Int × Int × Int) × (Int × Int × Int × Int)) (p1 : Int × (Int × Int × Int × Int) × (Int × Int × Int × Int)) (p2 : Int) (p3 : Int × Int × Int × Int) : Option Bool := ((r08_Right p0).bind fun x2 => (if (!x2) = true then some true else (r08_Right p1).bind fun x3 => (if (!x3) = true then some true else (r07_Right p3).bind fun x4 => some (!x4)))).bind fun x1 => (if x1 = true then (L08_awake).bind fun x5 => some x5 else (match_Meet p0 p1).bind fun x6 => (match_Meet p1 p0).bind fun x7 => ((match_Hits p0 p2 p3).bind fun x9 => (if x9 = true then (match_Hits p1 p2 p3).bind fun x10 => some x10 else some false)).bind fun x8 => (if (!(decide (x6.1.1 = x7.1.1 ∧ x6.1.2.1.1 = x7.1.2.1.1 ∧ x6.1.2.1.2.1 = x7.1.2.1.2.1 ∧ x6.1.2.1.2.2.1 = x7.1.2.1.2.2.1 ∧ x6.1.2.1.2.2.2 = x7.1.2.1.2.2.2 ∧ x6.1.2.2.1 = x7.1.2.2.1 ∧ x6.1.2.2.2.1 = x7.1.2.2.2.1 ∧ x6.1.2.2.2.2.1 = x7.1.2.2.2.2.1 ∧ x6.1.2.2.2.2.2 = x7.1.2.2.2.2.2))) = true then some (x6.2, true) else (if x6.2 ≠ x7.2 then some (x6.2, true) else (if x6.2 = true then (match_Hits x6.1 p2 p3).bind fun x13 => some (true, decide (x8 ≠ x13)) else some (false, decide (x8 ≠ false))))).bind fun (x11, x12) => (if x12 = true then some false else (if (!x11) = true then (L08_awake).bind fun x15 => some x15 else (match_Right x6.1).bind fun x16 => (if x16 = true then (match_Within x6.1 p0).bind fun x17 => (if x17 = true then (match_Within x6.1 p1).bind fun x18 => (if x18 = true then (L08_awake).bind fun x19 => some x19 else some false) else some false) else some false)).bind fun x14 => some x14))
theorem L08_MatchMeets_c (Y : Nat → Prop) (w0 : World)  (p0 : Int × (Int × Int × Int × Int) × (Int × Int × Int × Int)) (p1 : Int × (Int × Int × Int × Int) × (Int × Int × Int × Int)) (p2 : Int) (p3 : Int × Int × Int × Int) (r : Bool) (H : L08_MatchMeets p0 p1 p2 p3 = some r) (hG : Gk [] w0) :
    Calls Tryd.prog 5 #[.agg #[.int .i64 p0.1, .int .i64 p0.2.1.1, .int .i64 p0.2.1.2.1, .int .i64 p0.2.1.2.2.1, .int .i64 p0.2.1.2.2.2, .int .i64 p0.2.2.1, .int .i64 p0.2.2.2.1, .int .i64 p0.2.2.2.2.1, .int .i64 p0.2.2.2.2.2], .agg #[.int .i64 p1.1, .int .i64 p1.2.1.1, .int .i64 p1.2.1.2.1, .int .i64 p1.2.1.2.2.1, .int .i64 p1.2.1.2.2.2, .int .i64 p1.2.2.1, .int .i64 p1.2.2.2.1, .int .i64 p1.2.2.2.2.1, .int .i64 p1.2.2.2.2.2], .int .i64 p2, .agg #[.int .i64 p3.1, .int .i64 p3.2.1, .int .i64 p3.2.2.1, .int .i64 p3.2.2.2]] w0 fun e w' => e = .returned (.bool r) ∧ Below w0.heap.size w0 w' := by
  refine enter Tryd.func5 rfl Tryd.ntmps5 rfl (fun a hF => ?_)
  have hW := Stw.start Y w0
  unfold L08_MatchMeets at H
  refine c_seq ?_
  refine reg_list ?_
  refine l_box (cs := [.int .i64 p0.1, .int .i64 p0.2.1.1, .int .i64 p0.2.1.2.1, .int .i64 p0.2.1.2.2.1, .int .i64 p0.2.1.2.2.2, .int .i64 p0.2.2.1, .int .i64 p0.2.2.2.1, .int .i64 p0.2.2.2.2.1, .int .i64 p0.2.2.2.2.2]) hF hW rfl rfl rfl (fun b1 a w hF hW => ?_)
  refine l_box (cs := [.int .i64 p1.1, .int .i64 p1.2.1.1, .int .i64 p1.2.1.2.1, .int .i64 p1.2.1.2.2.1, .int .i64 p1.2.1.2.2.2, .int .i64 p1.2.2.1, .int .i64 p1.2.2.2.1, .int .i64 p1.2.2.2.2.1, .int .i64 p1.2.2.2.2.2]) hF hW rfl rfl rfl (fun b2 a w hF hW => ?_)
  refine l_box (cs := [.int .i64 p3.1, .int .i64 p3.2.1, .int .i64 p3.2.2.1, .int .i64 p3.2.2.2]) hF hW rfl rfl rfl (fun b3 a w hF hW => ?_)
  refine ls hF hW rfl ((y_assign hF rfl).q) (fun a w hF hW => ?_)
  refine ls_nil ?_
  refine c_then ?_
  refine c_seq ?_
  obtain ⟨o1, G1, K1⟩ := bindE H
  refine c_seqJ (fun a w => ∃ x1 : Bool, some (x1) = some o1 ∧ Fr 88 [] [(2, .int .i64 p2), (4, .pointer (some ⟨b1, 0, none⟩)), (5, .pointer (some ⟨b2, 0, none⟩)), (7, .pointer (some ⟨b3, 0, none⟩)), (8, .bool false), (26, .bool x1)] a ∧ Stw ⟨Y, [], w0⟩ [(b3, [.int .i64 p3.1, .int .i64 p3.2.1, .int .i64 p3.2.2.1, .int .i64 p3.2.2.2]), (b2, [.int .i64 p1.1, .int .i64 p1.2.1.1, .int .i64 p1.2.1.2.1, .int .i64 p1.2.1.2.2.1, .int .i64 p1.2.1.2.2.2, .int .i64 p1.2.2.1, .int .i64 p1.2.2.2.1, .int .i64 p1.2.2.2.2.1, .int .i64 p1.2.2.2.2.2]), (b1, [.int .i64 p0.1, .int .i64 p0.2.1.1, .int .i64 p0.2.1.2.1, .int .i64 p0.2.1.2.2.1, .int .i64 p0.2.1.2.2.2, .int .i64 p0.2.2.1, .int .i64 p0.2.2.2.1, .int .i64 p0.2.2.2.2.1, .int .i64 p0.2.2.2.2.2])] [] w) ?_ ?_
  ·
    have H := G1
    clear G1 K1
    refine reg_list ?_
    refine ls hF hW rfl ((y_load (v := Value.agg #[.int .i64 p0.1, .int .i64 p0.2.1.1, .int .i64 p0.2.1.2.1, .int .i64 p0.2.1.2.2.1, .int .i64 p0.2.1.2.2.2, .int .i64 p0.2.2.1, .int .i64 p0.2.2.2.1, .int .i64 p0.2.2.2.2.1, .int .i64 p0.2.2.2.2.2]) 2 hF rfl rfl T24 rfl).q) (fun a w hF hW => ?_)
    obtain ⟨x2, h1, H⟩ := bindE H
    refine ls hF hW rfl (y_call (v := Value.bool x2) hF H8 rfl (fun w hW => r08_Right_c any w p0 _ h1)) (fun a w hF hW => ?_)
    refine ls hF hW rfl ((y_not hF rfl).q) (fun a w hF hW => ?_)
    refine ls hF hW rfl ((y_move hF rfl).q) (fun a w hF hW => ?_)
    rcases Bool.eq_false_or_eq_true (!x2) with hb | hb
    ·
      have H := iteT hb H
      rw [hb] at hF
      clear hb
      refine ls_skip hF (wanted_n hF rfl rfl rfl rfl rfl) rfl rfl (fun a hF => ?_)
      refine ls_skip hF (wanted_n hF rfl rfl rfl rfl rfl) rfl rfl (fun a hF => ?_)
      refine ls_skip hF (wanted_n hF rfl rfl rfl rfl rfl) rfl rfl (fun a hF => ?_)
      refine ls hF hW rfl ((y_pick_t hF rfl rfl rfl).q) (fun a w hF hW => ?_)
      refine ls hF hW rfl ((y_move hF rfl).q) (fun a w hF hW => ?_)
      refine ls_skip hF (wanted_n hF rfl rfl rfl rfl rfl) rfl rfl (fun a hF => ?_)
      refine ls_skip hF (wanted_n hF rfl rfl rfl rfl rfl) rfl rfl (fun a hF => ?_)
      refine ls_skip hF (wanted_n hF rfl rfl rfl rfl rfl) rfl rfl (fun a hF => ?_)
      refine ls hF hW rfl ((y_pick_t hF rfl rfl rfl).q) (fun a w hF hW => ?_)
      refine ls_nil ?_
      refine c_then ?_
      have hW := hW.frontM (i := 2) rfl rfl
      have hW := hW.frontM (i := 2) rfl rfl
      have hW := hW.frontM (i := 2) rfl rfl
      exact ⟨_, H, hF.re ⟨rfl, rfl, rfl, rfl, rfl, rfl, trivial⟩, hW⟩
    ·
      have H := iteF (by rw [hb]; decide) H
      rw [hb] at hF
      clear hb
      refine ls_w hF hW (wanted_y hF rfl rfl rfl rfl) rfl (Nat.le_of_ble_eq_true rfl) ((y_load (v := Value.agg #[.int .i64 p1.1, .int .i64 p1.2.1.1, .int .i64 p1.2.1.2.1, .int .i64 p1.2.1.2.2.1, .int .i64 p1.2.1.2.2.2, .int .i64 p1.2.2.1, .int .i64 p1.2.2.2.1, .int .i64 p1.2.2.2.2.1, .int .i64 p1.2.2.2.2.2]) 1 hF rfl rfl T24 rfl).q) (fun a w hF hW => ?_)
      refine ls_g (wanted_y hF rfl rfl rfl rfl) ?_
      obtain ⟨x3, h2, H⟩ := bindE H
      refine ls hF hW rfl (y_call (v := Value.bool x3) hF H8 rfl (fun w hW => r08_Right_c any w p1 _ h2)) (fun a w hF hW => ?_)
      refine ls_w hF hW (wanted_y hF rfl rfl rfl rfl) rfl (Nat.le_of_ble_eq_true rfl) ((y_not hF rfl).q) (fun a w hF hW => ?_)
      refine ls hF hW rfl ((y_pick_f hF rfl rfl rfl).q) (fun a w hF hW => ?_)
      refine ls hF hW rfl ((y_move hF rfl).q) (fun a w hF hW => ?_)
      rcases Bool.eq_false_or_eq_true (!x3) with hb | hb
      ·
        have H := iteT hb H
        rw [hb] at hF
        clear hb
        refine ls_skip hF (wanted_n hF rfl rfl rfl rfl rfl) rfl rfl (fun a hF => ?_)
        refine ls_skip hF (wanted_n hF rfl rfl rfl rfl rfl) rfl rfl (fun a hF => ?_)
        refine ls_skip hF (wanted_n hF rfl rfl rfl rfl rfl) rfl rfl (fun a hF => ?_)
        refine ls hF hW rfl ((y_pick_t hF rfl rfl rfl).q) (fun a w hF hW => ?_)
        refine ls_nil ?_
        refine c_then ?_
        have hW := hW.frontM (i := 2) rfl rfl
        have hW := hW.frontM (i := 2) rfl rfl
        have hW := hW.frontM (i := 2) rfl rfl
        exact ⟨_, H, hF.re ⟨rfl, rfl, rfl, rfl, rfl, rfl, trivial⟩, hW⟩
      ·
        have H := iteF (by rw [hb]; decide) H
        rw [hb] at hF
        clear hb
        refine ls_w hF hW (wanted_y hF rfl rfl rfl rfl) rfl (Nat.le_of_ble_eq_true rfl) ((y_load (v := Value.agg #[.int .i64 p3.1, .int .i64 p3.2.1, .int .i64 p3.2.2.1, .int .i64 p3.2.2.2]) 0 hF rfl rfl T25 rfl).q) (fun a w hF hW => ?_)
        refine ls_g (wanted_y hF rfl rfl rfl rfl) ?_
        obtain ⟨x4, h3, H⟩ := bindE H
        refine ls hF hW rfl (y_call (v := Value.bool x4) hF H12 rfl (fun w hW => r07_Right_c any w p3 _ h3)) (fun a w hF hW => ?_)
        refine ls_w hF hW (wanted_y hF rfl rfl rfl rfl) rfl (Nat.le_of_ble_eq_true rfl) ((y_not hF rfl).q) (fun a w hF hW => ?_)
        refine ls hF hW rfl ((y_pick_f hF rfl rfl rfl).q) (fun a w hF hW => ?_)
        refine ls_nil ?_
        refine c_then ?_
        have hW := hW.frontM (i := 2) rfl rfl
        have hW := hW.frontM (i := 2) rfl rfl
        have hW := hW.frontM (i := 2) rfl rfl
        exact ⟨_, H, hF.re ⟨rfl, rfl, rfl, rfl, rfl, rfl, trivial⟩, hW⟩
  rintro a w ⟨x1, hj, hF, hW⟩
  have hj := Option.some.inj hj
  subst hj
  have H := K1
  clear G1 K1
  refine c_cond hF rfl (fun hb => ?_) (fun hb => ?_)
  ·
    have H := iteT hb H
    rw [hb] at hF
    clear hb
    refine c_seq ?_
    refine reg_list ?_
    obtain ⟨x5, h4, H⟩ := bindE H
    refine ls hF hW rfl (y_call (v := Value.bool x5) hF H13 rfl (fun w hW => L08_awake_c any w _ h4 (hG.go0 hW))) (fun a w hF hW => ?_)
    refine ls hF hW rfl ((y_assign hF rfl).q) (fun a w hF hW => ?_)
    refine ls_nil ?_
    refine c_then ?_
    refine wp_ret ?_
    refine r_then ?_
    have H := Option.some.inj H
    subst H
    refine post1 (.inl rfl) hF hW rfl (rv_tmp hF rfl) ?_
    exact ⟨rfl, hW.done⟩
  ·
    have H := iteF (by rw [hb]; decide) H
    rw [hb] at hF
    clear hb
    refine wp_skip ?_
    refine c_then ?_
    refine c_seq ?_
    refine reg_list ?_
    refine ls hF hW rfl ((y_load (v := Value.agg #[.int .i64 p0.1, .int .i64 p0.2.1.1, .int .i64 p0.2.1.2.1, .int .i64 p0.2.1.2.2.1, .int .i64 p0.2.1.2.2.2, .int .i64 p0.2.2.1, .int .i64 p0.2.2.2.1, .int .i64 p0.2.2.2.2.1, .int .i64 p0.2.2.2.2.2]) 2 hF rfl rfl T24 rfl).q) (fun a w hF hW => ?_)
    refine ls hF hW rfl ((y_load (v := Value.agg #[.int .i64 p1.1, .int .i64 p1.2.1.1, .int .i64 p1.2.1.2.1, .int .i64 p1.2.1.2.2.1, .int .i64 p1.2.1.2.2.2, .int .i64 p1.2.2.1, .int .i64 p1.2.2.2.1, .int .i64 p1.2.2.2.2.1, .int .i64 p1.2.2.2.2.2]) 1 hF rfl rfl T24 rfl).q) (fun a w hF hW => ?_)
    obtain ⟨x6, h5, H⟩ := bindE H
    refine ls hF hW rfl (y_call (v := Value.tuple #[.agg #[.int .i64 x6.1.1, .int .i64 x6.1.2.1.1, .int .i64 x6.1.2.1.2.1, .int .i64 x6.1.2.1.2.2.1, .int .i64 x6.1.2.1.2.2.2, .int .i64 x6.1.2.2.1, .int .i64 x6.1.2.2.2.1, .int .i64 x6.1.2.2.2.2.1, .int .i64 x6.1.2.2.2.2.2], .bool x6.2]) hF H14 rfl (fun w hW => match_Meet_c any w p0 p1 _ h5)) (fun a w hF hW => ?_)
    refine ls hF hW rfl ((y_move hF rfl).q) (fun a w hF hW => ?_)
    refine ls hF hW rfl ((y_extract (v := Value.agg #[.int .i64 x6.1.1, .int .i64 x6.1.2.1.1, .int .i64 x6.1.2.1.2.1, .int .i64 x6.1.2.1.2.2.1, .int .i64 x6.1.2.1.2.2.2, .int .i64 x6.1.2.2.1, .int .i64 x6.1.2.2.2.1, .int .i64 x6.1.2.2.2.2.1, .int .i64 x6.1.2.2.2.2.2]) hF rfl rfl).q) (fun a w hF hW => ?_)
    refine ls hF hW rfl ((y_extract (v := Value.bool x6.2) hF rfl rfl).q) (fun a w hF hW => ?_)
    refine l_alloc (cs := [.int .i64 0, .int .i64 0, .int .i64 0, .int .i64 0, .int .i64 0, .int .i64 0, .int .i64 0, .int .i64 0, .int .i64 0]) hF hW rfl Z24 rfl (fun b4 a w hF hW => ?_)
    refine l_store (vs := [.int .i64 x6.1.1, .int .i64 x6.1.2.1.1, .int .i64 x6.1.2.1.2.1, .int .i64 x6.1.2.1.2.2.1, .int .i64 x6.1.2.1.2.2.2, .int .i64 x6.1.2.2.1, .int .i64 x6.1.2.2.2.1, .int .i64 x6.1.2.2.2.2.1, .int .i64 x6.1.2.2.2.2.2]) (M' := [(b4, [.int .i64 x6.1.1, .int .i64 x6.1.2.1.1, .int .i64 x6.1.2.1.2.1, .int .i64 x6.1.2.1.2.2.1, .int .i64 x6.1.2.1.2.2.2, .int .i64 x6.1.2.2.1, .int .i64 x6.1.2.2.2.1, .int .i64 x6.1.2.2.2.2.1, .int .i64 x6.1.2.2.2.2.2]), (b3, [.int .i64 p3.1, .int .i64 p3.2.1, .int .i64 p3.2.2.1, .int .i64 p3.2.2.2]), (b2, [.int .i64 p1.1, .int .i64 p1.2.1.1, .int .i64 p1.2.1.2.1, .int .i64 p1.2.1.2.2.1, .int .i64 p1.2.1.2.2.2, .int .i64 p1.2.2.1, .int .i64 p1.2.2.2.1, .int .i64 p1.2.2.2.2.1, .int .i64 p1.2.2.2.2.2]), (b1, [.int .i64 p0.1, .int .i64 p0.2.1.1, .int .i64 p0.2.1.2.1, .int .i64 p0.2.1.2.2.1, .int .i64 p0.2.1.2.2.2, .int .i64 p0.2.2.1, .int .i64 p0.2.2.2.1, .int .i64 p0.2.2.2.2.1, .int .i64 p0.2.2.2.2.2])]) 0 hF hW rfl rfl rfl T24 rfl rfl rfl rfl rfl (fun w hW => ?_)
    refine ls hF hW rfl ((y_assign hF rfl).q) (fun a w hF hW => ?_)
    refine ls_nil ?_
    refine c_then ?_
    refine c_seq ?_
    refine reg_list ?_
    refine ls hF hW rfl ((y_load (v := Value.agg #[.int .i64 p1.1, .int .i64 p1.2.1.1, .int .i64 p1.2.1.2.1, .int .i64 p1.2.1.2.2.1, .int .i64 p1.2.1.2.2.2, .int .i64 p1.2.2.1, .int .i64 p1.2.2.2.1, .int .i64 p1.2.2.2.2.1, .int .i64 p1.2.2.2.2.2]) 2 hF rfl rfl T24 rfl).q) (fun a w hF hW => ?_)
    refine ls hF hW rfl ((y_load (v := Value.agg #[.int .i64 p0.1, .int .i64 p0.2.1.1, .int .i64 p0.2.1.2.1, .int .i64 p0.2.1.2.2.1, .int .i64 p0.2.1.2.2.2, .int .i64 p0.2.2.1, .int .i64 p0.2.2.2.1, .int .i64 p0.2.2.2.2.1, .int .i64 p0.2.2.2.2.2]) 3 hF rfl rfl T24 rfl).q) (fun a w hF hW => ?_)
    obtain ⟨x7, h6, H⟩ := bindE H
    refine ls hF hW rfl (y_call (v := Value.tuple #[.agg #[.int .i64 x7.1.1, .int .i64 x7.1.2.1.1, .int .i64 x7.1.2.1.2.1, .int .i64 x7.1.2.1.2.2.1, .int .i64 x7.1.2.1.2.2.2, .int .i64 x7.1.2.2.1, .int .i64 x7.1.2.2.2.1, .int .i64 x7.1.2.2.2.2.1, .int .i64 x7.1.2.2.2.2.2], .bool x7.2]) hF H14 rfl (fun w hW => match_Meet_c any w p1 p0 _ h6)) (fun a w hF hW => ?_)
    refine ls hF hW rfl ((y_move hF rfl).q) (fun a w hF hW => ?_)
    refine ls hF hW rfl ((y_extract (v := Value.agg #[.int .i64 x7.1.1, .int .i64 x7.1.2.1.1, .int .i64 x7.1.2.1.2.1, .int .i64 x7.1.2.1.2.2.1, .int .i64 x7.1.2.1.2.2.2, .int .i64 x7.1.2.2.1, .int .i64 x7.1.2.2.2.1, .int .i64 x7.1.2.2.2.2.1, .int .i64 x7.1.2.2.2.2.2]) hF rfl rfl).q) (fun a w hF hW => ?_)
    refine ls hF hW rfl ((y_extract (v := Value.bool x7.2) hF rfl rfl).q) (fun a w hF hW => ?_)
    refine l_alloc (cs := [.int .i64 0, .int .i64 0, .int .i64 0, .int .i64 0, .int .i64 0, .int .i64 0, .int .i64 0, .int .i64 0, .int .i64 0]) hF hW rfl Z24 rfl (fun b5 a w hF hW => ?_)
    refine l_store (vs := [.int .i64 x7.1.1, .int .i64 x7.1.2.1.1, .int .i64 x7.1.2.1.2.1, .int .i64 x7.1.2.1.2.2.1, .int .i64 x7.1.2.1.2.2.2, .int .i64 x7.1.2.2.1, .int .i64 x7.1.2.2.2.1, .int .i64 x7.1.2.2.2.2.1, .int .i64 x7.1.2.2.2.2.2]) (M' := [(b5, [.int .i64 x7.1.1, .int .i64 x7.1.2.1.1, .int .i64 x7.1.2.1.2.1, .int .i64 x7.1.2.1.2.2.1, .int .i64 x7.1.2.1.2.2.2, .int .i64 x7.1.2.2.1, .int .i64 x7.1.2.2.2.1, .int .i64 x7.1.2.2.2.2.1, .int .i64 x7.1.2.2.2.2.2]), (b4, [.int .i64 x6.1.1, .int .i64 x6.1.2.1.1, .int .i64 x6.1.2.1.2.1, .int .i64 x6.1.2.1.2.2.1, .int .i64 x6.1.2.1.2.2.2, .int .i64 x6.1.2.2.1, .int .i64 x6.1.2.2.2.1, .int .i64 x6.1.2.2.2.2.1, .int .i64 x6.1.2.2.2.2.2]), (b3, [.int .i64 p3.1, .int .i64 p3.2.1, .int .i64 p3.2.2.1, .int .i64 p3.2.2.2]), (b2, [.int .i64 p1.1, .int .i64 p1.2.1.1, .int .i64 p1.2.1.2.1, .int .i64 p1.2.1.2.2.1, .int .i64 p1.2.1.2.2.2, .int .i64 p1.2.2.1, .int .i64 p1.2.2.2.1, .int .i64 p1.2.2.2.2.1, .int .i64 p1.2.2.2.2.2]), (b1, [.int .i64 p0.1, .int .i64 p0.2.1.1, .int .i64 p0.2.1.2.1, .int .i64 p0.2.1.2.2.1, .int .i64 p0.2.1.2.2.2, .int .i64 p0.2.2.1, .int .i64 p0.2.2.2.1, .int .i64 p0.2.2.2.2.1, .int .i64 p0.2.2.2.2.2])]) 0 hF hW rfl rfl rfl T24 rfl rfl rfl rfl rfl (fun w hW => ?_)
    refine ls hF hW rfl ((y_assign hF rfl).q) (fun a w hF hW => ?_)
    refine ls_nil ?_
    refine c_then ?_
    obtain ⟨o2, G2, K2⟩ := bindE H
    refine c_seqJ (fun a w => ∃ x8 : Bool, some (x8) = some o2 ∧ Fr 88 [] [(2, .int .i64 p2), (4, .pointer (some ⟨b1, 0, none⟩)), (5, .pointer (some ⟨b2, 0, none⟩)), (7, .pointer (some ⟨b3, 0, none⟩)), (8, .bool false), (9, .pointer (some ⟨b4, 0, none⟩)), (10, .bool x6.2), (11, .pointer (some ⟨b5, 0, none⟩)), (12, .bool x7.2), (13, .bool x8)] a ∧ Stw ⟨Y, [], w0⟩ [(b5, [.int .i64 x7.1.1, .int .i64 x7.1.2.1.1, .int .i64 x7.1.2.1.2.1, .int .i64 x7.1.2.1.2.2.1, .int .i64 x7.1.2.1.2.2.2, .int .i64 x7.1.2.2.1, .int .i64 x7.1.2.2.2.1, .int .i64 x7.1.2.2.2.2.1, .int .i64 x7.1.2.2.2.2.2]), (b4, [.int .i64 x6.1.1, .int .i64 x6.1.2.1.1, .int .i64 x6.1.2.1.2.1, .int .i64 x6.1.2.1.2.2.1, .int .i64 x6.1.2.1.2.2.2, .int .i64 x6.1.2.2.1, .int .i64 x6.1.2.2.2.1, .int .i64 x6.1.2.2.2.2.1, .int .i64 x6.1.2.2.2.2.2]), (b3, [.int .i64 p3.1, .int .i64 p3.2.1, .int .i64 p3.2.2.1, .int .i64 p3.2.2.2]), (b2, [.int .i64 p1.1, .int .i64 p1.2.1.1, .int .i64 p1.2.1.2.1, .int .i64 p1.2.1.2.2.1, .int .i64 p1.2.1.2.2.2, .int .i64 p1.2.2.1, .int .i64 p1.2.2.2.1, .int .i64 p1.2.2.2.2.1, .int .i64 p1.2.2.2.2.2]), (b1, [.int .i64 p0.1, .int .i64 p0.2.1.1, .int .i64 p0.2.1.2.1, .int .i64 p0.2.1.2.2.1, .int .i64 p0.2.1.2.2.2, .int .i64 p0.2.2.1, .int .i64 p0.2.2.2.1, .int .i64 p0.2.2.2.2.1, .int .i64 p0.2.2.2.2.2])] [] w) ?_ ?_
    ·
      have H := G2
      clear G2 K2
      refine reg_list ?_
      refine ls hF hW rfl ((y_load (v := Value.agg #[.int .i64 p0.1, .int .i64 p0.2.1.1, .int .i64 p0.2.1.2.1, .int .i64 p0.2.1.2.2.1, .int .i64 p0.2.1.2.2.2, .int .i64 p0.2.2.1, .int .i64 p0.2.2.2.1, .int .i64 p0.2.2.2.2.1, .int .i64 p0.2.2.2.2.2]) 4 hF rfl rfl T24 rfl).q) (fun a w hF hW => ?_)
      refine ls hF hW rfl ((y_move hF rfl).q) (fun a w hF hW => ?_)
      refine ls hF hW rfl ((y_load (v := Value.agg #[.int .i64 p3.1, .int .i64 p3.2.1, .int .i64 p3.2.2.1, .int .i64 p3.2.2.2]) 2 hF rfl rfl T25 rfl).q) (fun a w hF hW => ?_)
      obtain ⟨x9, h7, H⟩ := bindE H
      refine ls hF hW rfl (y_call (v := Value.bool x9) hF H16 rfl (fun w hW => match_Hits_c any w p0 p2 p3 _ h7)) (fun a w hF hW => ?_)
      refine ls hF hW rfl ((y_move hF rfl).q) (fun a w hF hW => ?_)
      rcases Bool.eq_false_or_eq_true x9 with hb | hb
      ·
        have H := iteT hb H
        rw [hb] at hF
        clear hb
        refine ls_w hF hW (wanted_y hF rfl rfl rfl rfl) rfl (Nat.le_of_ble_eq_true rfl) ((y_load (v := Value.agg #[.int .i64 p1.1, .int .i64 p1.2.1.1, .int .i64 p1.2.1.2.1, .int .i64 p1.2.1.2.2.1, .int .i64 p1.2.1.2.2.2, .int .i64 p1.2.2.1, .int .i64 p1.2.2.2.1, .int .i64 p1.2.2.2.2.1, .int .i64 p1.2.2.2.2.2]) 3 hF rfl rfl T24 rfl).q) (fun a w hF hW => ?_)
        refine ls_w hF hW (wanted_y hF rfl rfl rfl rfl) rfl (Nat.le_of_ble_eq_true rfl) ((y_move hF rfl).q) (fun a w hF hW => ?_)
        refine ls_w hF hW (wanted_y hF rfl rfl rfl rfl) rfl (Nat.le_of_ble_eq_true rfl) ((y_load (v := Value.agg #[.int .i64 p3.1, .int .i64 p3.2.1, .int .i64 p3.2.2.1, .int .i64 p3.2.2.2]) 2 hF rfl rfl T25 rfl).q) (fun a w hF hW => ?_)
        refine ls_g (wanted_y hF rfl rfl rfl rfl) ?_
        obtain ⟨x10, h8, H⟩ := bindE H
        refine ls hF hW rfl (y_call (v := Value.bool x10) hF H16 rfl (fun w hW => match_Hits_c any w p1 p2 p3 _ h8)) (fun a w hF hW => ?_)
        refine ls hF hW rfl ((y_pick_t hF rfl rfl rfl).q) (fun a w hF hW => ?_)
        refine ls hF hW rfl ((y_assign hF rfl).q) (fun a w hF hW => ?_)
        refine ls_nil ?_
        refine c_then ?_
        have hW := hW.frontM (i := 4) rfl rfl
        have hW := hW.frontM (i := 4) rfl rfl
        have hW := hW.frontM (i := 4) rfl rfl
        have hW := hW.frontM (i := 4) rfl rfl
        have hW := hW.frontM (i := 4) rfl rfl
        exact ⟨_, H, hF.re ⟨rfl, rfl, rfl, rfl, rfl, rfl, rfl, rfl, rfl, rfl, trivial⟩, hW⟩
      ·
        have H := iteF (by rw [hb]; decide) H
        rw [hb] at hF
        clear hb
        refine ls_skip hF (wanted_n hF rfl rfl rfl rfl rfl) rfl rfl (fun a hF => ?_)
        refine ls_skip hF (wanted_n hF rfl rfl rfl rfl rfl) rfl rfl (fun a hF => ?_)
        refine ls_skip hF (wanted_n hF rfl rfl rfl rfl rfl) rfl rfl (fun a hF => ?_)
        refine ls_skip hF (wanted_n hF rfl rfl rfl rfl rfl) rfl rfl (fun a hF => ?_)
        refine ls hF hW rfl ((y_pick_f hF rfl rfl rfl).q) (fun a w hF hW => ?_)
        refine ls hF hW rfl ((y_assign hF rfl).q) (fun a w hF hW => ?_)
        refine ls_nil ?_
        refine c_then ?_
        have hW := hW.frontM (i := 4) rfl rfl
        have hW := hW.frontM (i := 4) rfl rfl
        have hW := hW.frontM (i := 4) rfl rfl
        have hW := hW.frontM (i := 4) rfl rfl
        have hW := hW.frontM (i := 4) rfl rfl
        exact ⟨_, H, hF.re ⟨rfl, rfl, rfl, rfl, rfl, rfl, rfl, rfl, rfl, rfl, trivial⟩, hW⟩
    rintro a w ⟨x8, hj, hF, hW⟩
    have hj := Option.some.inj hj
    subst hj
    have H := K2
    clear G2 K2
    refine c_seq ?_
    obtain ⟨o3, G3, K3⟩ := bindE H
    refine c_seqJ (fun a w => ∃ x11 : Bool, ∃ x12 : Bool, some ((x11, x12)) = some o3 ∧ Fr 88 [] [(4, .pointer (some ⟨b1, 0, none⟩)), (5, .pointer (some ⟨b2, 0, none⟩)), (8, .bool false), (9, .pointer (some ⟨b4, 0, none⟩)), (10, .bool x11), (68, .bool x12)] a ∧ Stw ⟨Y, [], w0⟩ [(b5, [.int .i64 x7.1.1, .int .i64 x7.1.2.1.1, .int .i64 x7.1.2.1.2.1, .int .i64 x7.1.2.1.2.2.1, .int .i64 x7.1.2.1.2.2.2, .int .i64 x7.1.2.2.1, .int .i64 x7.1.2.2.2.1, .int .i64 x7.1.2.2.2.2.1, .int .i64 x7.1.2.2.2.2.2]), (b4, [.int .i64 x6.1.1, .int .i64 x6.1.2.1.1, .int .i64 x6.1.2.1.2.1, .int .i64 x6.1.2.1.2.2.1, .int .i64 x6.1.2.1.2.2.2, .int .i64 x6.1.2.2.1, .int .i64 x6.1.2.2.2.1, .int .i64 x6.1.2.2.2.2.1, .int .i64 x6.1.2.2.2.2.2]), (b3, [.int .i64 p3.1, .int .i64 p3.2.1, .int .i64 p3.2.2.1, .int .i64 p3.2.2.2]), (b2, [.int .i64 p1.1, .int .i64 p1.2.1.1, .int .i64 p1.2.1.2.1, .int .i64 p1.2.1.2.2.1, .int .i64 p1.2.1.2.2.2, .int .i64 p1.2.2.1, .int .i64 p1.2.2.2.1, .int .i64 p1.2.2.2.2.1, .int .i64 p1.2.2.2.2.2]), (b1, [.int .i64 p0.1, .int .i64 p0.2.1.1, .int .i64 p0.2.1.2.1, .int .i64 p0.2.1.2.2.1, .int .i64 p0.2.1.2.2.2, .int .i64 p0.2.2.1, .int .i64 p0.2.2.2.1, .int .i64 p0.2.2.2.2.1, .int .i64 p0.2.2.2.2.2])] [] w) ?_ ?_
    ·
      have H := G3
      clear G3 K3
      refine reg_list ?_
      refine ls hF hW rfl ((y_load (v := Value.agg #[.int .i64 x6.1.1, .int .i64 x6.1.2.1.1, .int .i64 x6.1.2.1.2.1, .int .i64 x6.1.2.1.2.2.1, .int .i64 x6.1.2.1.2.2.2, .int .i64 x6.1.2.2.1, .int .i64 x6.1.2.2.2.1, .int .i64 x6.1.2.2.2.2.1, .int .i64 x6.1.2.2.2.2.2]) 1 hF rfl rfl T24 rfl).q) (fun a w hF hW => ?_)
      refine ls hF hW rfl ((y_load (v := Value.agg #[.int .i64 x7.1.1, .int .i64 x7.1.2.1.1, .int .i64 x7.1.2.1.2.1, .int .i64 x7.1.2.1.2.2.1, .int .i64 x7.1.2.1.2.2.2, .int .i64 x7.1.2.2.1, .int .i64 x7.1.2.2.2.1, .int .i64 x7.1.2.2.2.2.1, .int .i64 x7.1.2.2.2.2.2]) 0 hF rfl rfl T24 rfl).q) (fun a w hF hW => ?_)
      refine ls hF hW rfl ((y_nea (t := decide (x6.1.1 = x7.1.1 ∧ x6.1.2.1.1 = x7.1.2.1.1 ∧ x6.1.2.1.2.1 = x7.1.2.1.2.1 ∧ x6.1.2.1.2.2.1 = x7.1.2.1.2.2.1 ∧ x6.1.2.1.2.2.2 = x7.1.2.1.2.2.2 ∧ x6.1.2.2.1 = x7.1.2.2.1 ∧ x6.1.2.2.2.1 = x7.1.2.2.2.1 ∧ x6.1.2.2.2.2.1 = x7.1.2.2.2.2.1 ∧ x6.1.2.2.2.2.2 = x7.1.2.2.2.2.2)) G24 (Q24 _ _ _ _ _ _ _ _ _ _ _ _ _ _ _ _ _ _) hF rfl rfl).q) (fun a w hF hW => ?_)
      refine ls hF hW rfl ((y_move hF rfl).q) (fun a w hF hW => ?_)
      rcases Bool.eq_false_or_eq_true (!(decide (x6.1.1 = x7.1.1 ∧ x6.1.2.1.1 = x7.1.2.1.1 ∧ x6.1.2.1.2.1 = x7.1.2.1.2.1 ∧ x6.1.2.1.2.2.1 = x7.1.2.1.2.2.1 ∧ x6.1.2.1.2.2.2 = x7.1.2.1.2.2.2 ∧ x6.1.2.2.1 = x7.1.2.2.1 ∧ x6.1.2.2.2.1 = x7.1.2.2.2.1 ∧ x6.1.2.2.2.2.1 = x7.1.2.2.2.2.1 ∧ x6.1.2.2.2.2.2 = x7.1.2.2.2.2.2))) with hb | hb
      ·
        have H := iteT hb H
        rw [hb] at hF
        clear hb
        refine ls_skip hF (wanted_n hF rfl rfl rfl rfl rfl) rfl rfl (fun a hF => ?_)
        refine ls_skip hF (wanted_n hF rfl rfl rfl rfl rfl) rfl rfl (fun a hF => ?_)
        refine ls_skip hF (wanted_n hF rfl rfl rfl rfl rfl) rfl rfl (fun a hF => ?_)
        refine ls hF hW rfl ((y_pick_t hF rfl rfl rfl).q) (fun a w hF hW => ?_)
        refine ls hF hW rfl ((y_move hF rfl).q) (fun a w hF hW => ?_)
        refine ls_skip hF (wanted_n hF rfl rfl rfl rfl rfl) rfl rfl (fun a hF => ?_)
        refine ls_skip hF (wanted_n hF rfl rfl rfl rfl rfl) rfl rfl (fun a hF => ?_)
        refine ls_skip hF (wanted_n hF rfl rfl rfl rfl rfl) rfl rfl (fun a hF => ?_)
        refine ls_skip hF (wanted_undef hF rfl rfl rfl rfl) rfl rfl (fun a hF => ?_)
        refine ls_skip hF (wanted_undef hF rfl rfl rfl rfl) rfl rfl (fun a hF => ?_)
        refine ls_skip hF (wanted_undef hF rfl rfl rfl rfl) rfl rfl (fun a hF => ?_)
        refine ls_skip hF (wanted_undef hF rfl rfl rfl rfl) rfl rfl (fun a hF => ?_)
        refine ls_skip hF (wanted_n hF rfl rfl rfl rfl rfl) rfl rfl (fun a hF => ?_)
        refine ls_skip hF (wanted_n hF rfl rfl rfl rfl rfl) rfl rfl (fun a hF => ?_)
        refine ls hF hW rfl ((y_pick_t hF rfl rfl rfl).q) (fun a w hF hW => ?_)
        refine ls_nil ?_
        refine c_then ?_
        have hW := hW.frontM (i := 4) rfl rfl
        have hW := hW.frontM (i := 4) rfl rfl
        have hW := hW.frontM (i := 4) rfl rfl
        have hW := hW.frontM (i := 4) rfl rfl
        have hW := hW.frontM (i := 4) rfl rfl
        exact ⟨_, _, H, hF.re ⟨rfl, rfl, rfl, rfl, rfl, rfl, trivial⟩, hW⟩
      ·
        have H := iteF (by rw [hb]; decide) H
        rw [hb] at hF
        clear hb
        refine ls_w hF hW (wanted_y hF rfl rfl rfl rfl) rfl (Nat.le_of_ble_eq_true rfl) ((y_move hF rfl).q) (fun a w hF hW => ?_)
        refine ls_w hF hW (wanted_y hF rfl rfl rfl rfl) rfl (Nat.le_of_ble_eq_true rfl) ((y_move hF rfl).q) (fun a w hF hW => ?_)
        refine ls_w hF hW (wanted_y hF rfl rfl rfl rfl) rfl (Nat.le_of_ble_eq_true rfl) ((y_neb Tryd.underlying4 hF rfl rfl).q) (fun a w hF hW => ?_)
        refine ls hF hW rfl ((y_pick_f hF rfl rfl rfl).q) (fun a w hF hW => ?_)
        refine ls hF hW rfl ((y_move hF rfl).q) (fun a w hF hW => ?_)
        rcases Bool.eq_false_or_eq_true (decide (x6.2 ≠ x7.2)) with hb | hb
        ·
          have H := iteT (of_decide_eq_true hb) H
          rw [hb] at hF
          clear hb
          refine ls_skip hF (wanted_n hF rfl rfl rfl rfl rfl) rfl rfl (fun a hF => ?_)
          refine ls_skip hF (wanted_n hF rfl rfl rfl rfl rfl) rfl rfl (fun a hF => ?_)
          refine ls_skip hF (wanted_n hF rfl rfl rfl rfl rfl) rfl rfl (fun a hF => ?_)
          refine ls_skip hF (wanted_undef hF rfl rfl rfl rfl) rfl rfl (fun a hF => ?_)
          refine ls_skip hF (wanted_undef hF rfl rfl rfl rfl) rfl rfl (fun a hF => ?_)
          refine ls_skip hF (wanted_undef hF rfl rfl rfl rfl) rfl rfl (fun a hF => ?_)
          refine ls_skip hF (wanted_undef hF rfl rfl rfl rfl) rfl rfl (fun a hF => ?_)
          refine ls_skip hF (wanted_n hF rfl rfl rfl rfl rfl) rfl rfl (fun a hF => ?_)
          refine ls_skip hF (wanted_n hF rfl rfl rfl rfl rfl) rfl rfl (fun a hF => ?_)
          refine ls hF hW rfl ((y_pick_t hF rfl rfl rfl).q) (fun a w hF hW => ?_)
          refine ls_nil ?_
          refine c_then ?_
          have hW := hW.frontM (i := 4) rfl rfl
          have hW := hW.frontM (i := 4) rfl rfl
          have hW := hW.frontM (i := 4) rfl rfl
          have hW := hW.frontM (i := 4) rfl rfl
          have hW := hW.frontM (i := 4) rfl rfl
          exact ⟨_, _, H, hF.re ⟨rfl, rfl, rfl, rfl, rfl, rfl, trivial⟩, hW⟩
        ·
          have H := iteF (of_decide_eq_false hb) H
          rw [hb] at hF
          clear hb
          refine ls_w hF hW (wanted_y hF rfl rfl rfl rfl) rfl (Nat.le_of_ble_eq_true rfl) ((y_move hF rfl).q) (fun a w hF hW => ?_)
          refine ls_w hF hW (wanted_y hF rfl rfl rfl rfl) rfl (Nat.le_of_ble_eq_true rfl) ((y_move hF rfl).q) (fun a w hF hW => ?_)
          refine ls_w hF hW (wanted_y hF rfl rfl rfl rfl) rfl (Nat.le_of_ble_eq_true rfl) ((y_move hF rfl).q) (fun a w hF hW => ?_)
          rcases Bool.eq_false_or_eq_true x6.2 with hb | hb
          ·
            have H := iteT hb H
            rw [hb] at hF
            clear hb
            refine ls_w hF hW (wanted_y hF rfl rfl rfl rfl) rfl (Nat.le_of_ble_eq_true rfl) ((y_load (v := Value.agg #[.int .i64 x6.1.1, .int .i64 x6.1.2.1.1, .int .i64 x6.1.2.1.2.1, .int .i64 x6.1.2.1.2.2.1, .int .i64 x6.1.2.1.2.2.2, .int .i64 x6.1.2.2.1, .int .i64 x6.1.2.2.2.1, .int .i64 x6.1.2.2.2.2.1, .int .i64 x6.1.2.2.2.2.2]) 1 hF rfl rfl T24 rfl).q) (fun a w hF hW => ?_)
            refine ls_w hF hW (wanted_y hF rfl rfl rfl rfl) rfl (Nat.le_of_ble_eq_true rfl) ((y_move hF rfl).q) (fun a w hF hW => ?_)
            refine ls_w hF hW (wanted_y hF rfl rfl rfl rfl) rfl (Nat.le_of_ble_eq_true rfl) ((y_load (v := Value.agg #[.int .i64 p3.1, .int .i64 p3.2.1, .int .i64 p3.2.2.1, .int .i64 p3.2.2.2]) 2 hF rfl rfl T25 rfl).q) (fun a w hF hW => ?_)
            refine ls_g (wanted_y hF rfl rfl rfl rfl) ?_
            obtain ⟨x13, h9, H⟩ := bindE H
            refine ls hF hW rfl (y_call (v := Value.bool x13) hF H16 rfl (fun w hW => match_Hits_c any w x6.1 p2 p3 _ h9)) (fun a w hF hW => ?_)
            refine ls_w hF hW (wanted_y hF rfl rfl rfl rfl) rfl (Nat.le_of_ble_eq_true rfl) ((y_pick_t hF rfl rfl rfl).q) (fun a w hF hW => ?_)
            refine ls_w hF hW (wanted_y hF rfl rfl rfl rfl) rfl (Nat.le_of_ble_eq_true rfl) ((y_neb Tryd.underlying4 hF rfl rfl).q) (fun a w hF hW => ?_)
            refine ls hF hW rfl ((y_pick_f hF rfl rfl rfl).q) (fun a w hF hW => ?_)
            refine ls_nil ?_
            refine c_then ?_
            have hW := hW.frontM (i := 4) rfl rfl
            have hW := hW.frontM (i := 4) rfl rfl
            have hW := hW.frontM (i := 4) rfl rfl
            have hW := hW.frontM (i := 4) rfl rfl
            have hW := hW.frontM (i := 4) rfl rfl
            exact ⟨_, _, H, hF.re ⟨rfl, rfl, rfl, rfl, rfl, rfl, trivial⟩, hW⟩
          ·
            have H := iteF (by rw [hb]; decide) H
            rw [hb] at hF
            clear hb
            refine ls_skip hF (wanted_n hF rfl rfl rfl rfl rfl) rfl rfl (fun a hF => ?_)
            refine ls_skip hF (wanted_n hF rfl rfl rfl rfl rfl) rfl rfl (fun a hF => ?_)
            refine ls_skip hF (wanted_n hF rfl rfl rfl rfl rfl) rfl rfl (fun a hF => ?_)
            refine ls_skip hF (wanted_n hF rfl rfl rfl rfl rfl) rfl rfl (fun a hF => ?_)
            refine ls_w hF hW (wanted_y hF rfl rfl rfl rfl) rfl (Nat.le_of_ble_eq_true rfl) ((y_pick_f hF rfl rfl rfl).q) (fun a w hF hW => ?_)
            refine ls_w hF hW (wanted_y hF rfl rfl rfl rfl) rfl (Nat.le_of_ble_eq_true rfl) ((y_neb Tryd.underlying4 hF rfl rfl).q) (fun a w hF hW => ?_)
            refine ls hF hW rfl ((y_pick_f hF rfl rfl rfl).q) (fun a w hF hW => ?_)
            refine ls_nil ?_
            refine c_then ?_
            have hW := hW.frontM (i := 4) rfl rfl
            have hW := hW.frontM (i := 4) rfl rfl
            have hW := hW.frontM (i := 4) rfl rfl
            have hW := hW.frontM (i := 4) rfl rfl
            have hW := hW.frontM (i := 4) rfl rfl
            exact ⟨_, _, H, hF.re ⟨rfl, rfl, rfl, rfl, rfl, rfl, trivial⟩, hW⟩
    rintro a w ⟨x11, x12, hj, hF, hW⟩
    have hj := Option.some.inj hj
    subst hj
    have H := K3
    clear G3 K3
    refine c_cond hF rfl (fun hb => ?_) (fun hb => ?_)
    ·
      have H := iteT hb H
      rw [hb] at hF
      clear hb
      refine c_seq ?_
      refine reg_list ?_
      refine ls hF hW rfl ((y_assign hF rfl).q) (fun a w hF hW => ?_)
      refine ls_nil ?_
      refine c_then ?_
      refine wp_ret ?_
      refine r_then ?_
      have H := Option.some.inj H
      subst H
      refine post1 (.inl rfl) hF hW rfl (rv_tmp hF rfl) ?_
      exact ⟨rfl, hW.done⟩
    ·
      have H := iteF (by rw [hb]; decide) H
      rw [hb] at hF
      clear hb
      refine wp_skip ?_
      refine c_then ?_
      obtain ⟨o4, G4, K4⟩ := bindE H
      refine c_seqJ (fun a w => ∃ x14 : Bool, some (x14) = some o4 ∧ Fr 88 [] [(8, .bool x14)] a ∧ Stw ⟨Y, [], w0⟩ [(b5, [.int .i64 x7.1.1, .int .i64 x7.1.2.1.1, .int .i64 x7.1.2.1.2.1, .int .i64 x7.1.2.1.2.2.1, .int .i64 x7.1.2.1.2.2.2, .int .i64 x7.1.2.2.1, .int .i64 x7.1.2.2.2.1, .int .i64 x7.1.2.2.2.2.1, .int .i64 x7.1.2.2.2.2.2]), (b4, [.int .i64 x6.1.1, .int .i64 x6.1.2.1.1, .int .i64 x6.1.2.1.2.1, .int .i64 x6.1.2.1.2.2.1, .int .i64 x6.1.2.1.2.2.2, .int .i64 x6.1.2.2.1, .int .i64 x6.1.2.2.2.1, .int .i64 x6.1.2.2.2.2.1, .int .i64 x6.1.2.2.2.2.2]), (b3, [.int .i64 p3.1, .int .i64 p3.2.1, .int .i64 p3.2.2.1, .int .i64 p3.2.2.2]), (b2, [.int .i64 p1.1, .int .i64 p1.2.1.1, .int .i64 p1.2.1.2.1, .int .i64 p1.2.1.2.2.1, .int .i64 p1.2.1.2.2.2, .int .i64 p1.2.2.1, .int .i64 p1.2.2.2.1, .int .i64 p1.2.2.2.2.1, .int .i64 p1.2.2.2.2.2]), (b1, [.int .i64 p0.1, .int .i64 p0.2.1.1, .int .i64 p0.2.1.2.1, .int .i64 p0.2.1.2.2.1, .int .i64 p0.2.1.2.2.2, .int .i64 p0.2.2.1, .int .i64 p0.2.2.2.1, .int .i64 p0.2.2.2.2.1, .int .i64 p0.2.2.2.2.2])] [] w) ?_ ?_
      ·
        have H := G4
        clear G4 K4
        refine reg_list ?_
        refine ls hF hW rfl ((y_move hF rfl).q) (fun a w hF hW => ?_)
        refine ls hF hW rfl ((y_not hF rfl).q) (fun a w hF hW => ?_)
        refine ls hF hW rfl ((y_move hF rfl).q) (fun a w hF hW => ?_)
        rcases Bool.eq_false_or_eq_true (!x11) with hb | hb
        ·
          have H := iteT hb H
          rw [hb] at hF
          clear hb
          refine ls_skip hF (wanted_n hF rfl rfl rfl rfl rfl) rfl rfl (fun a hF => ?_)
          refine ls_skip hF (wanted_n hF rfl rfl rfl rfl rfl) rfl rfl (fun a hF => ?_)
          refine ls_skip hF (wanted_n hF rfl rfl rfl rfl rfl) rfl rfl (fun a hF => ?_)
          refine ls_skip hF (wanted_undef hF rfl rfl rfl rfl) rfl rfl (fun a hF => ?_)
          refine ls_skip hF (wanted_undef hF rfl rfl rfl rfl) rfl rfl (fun a hF => ?_)
          refine ls_skip hF (wanted_undef hF rfl rfl rfl rfl) rfl rfl (fun a hF => ?_)
          refine ls_skip hF (wanted_n hF rfl rfl rfl rfl rfl) rfl rfl (fun a hF => ?_)
          refine ls_skip hF (wanted_n hF rfl rfl rfl rfl rfl) rfl rfl (fun a hF => ?_)
          refine ls_skip hF (wanted_undef hF rfl rfl rfl rfl) rfl rfl (fun a hF => ?_)
          refine ls_skip hF (wanted_undef hF rfl rfl rfl rfl) rfl rfl (fun a hF => ?_)
          refine ls_skip hF (wanted_undef hF rfl rfl rfl rfl) rfl rfl (fun a hF => ?_)
          refine ls_skip hF (wanted_n hF rfl rfl rfl rfl rfl) rfl rfl (fun a hF => ?_)
          refine ls hF hW rfl ((y_pick_t hF rfl rfl rfl).q) (fun a w hF hW => ?_)
          refine ls hF hW rfl ((y_move hF rfl).q) (fun a w hF hW => ?_)
          refine ls_g (wanted_y hF rfl rfl rfl rfl) ?_
          obtain ⟨x15, h10, H⟩ := bindE H
          refine ls hF hW rfl (y_call (v := Value.bool x15) hF H13 rfl (fun w hW => L08_awake_c any w _ h10 (hG.go0 hW))) (fun a w hF hW => ?_)
          refine ls hF hW rfl ((y_pick_t hF rfl rfl rfl).q) (fun a w hF hW => ?_)
          refine ls hF hW rfl ((y_assign hF rfl).q) (fun a w hF hW => ?_)
          refine ls_nil ?_
          refine c_then ?_
          have hW := hW.frontM (i := 4) rfl rfl
          have hW := hW.frontM (i := 4) rfl rfl
          have hW := hW.frontM (i := 4) rfl rfl
          have hW := hW.frontM (i := 4) rfl rfl
          have hW := hW.frontM (i := 4) rfl rfl
          exact ⟨_, H, hF.re ⟨rfl, trivial⟩, hW⟩
        ·
          have H := iteF (by rw [hb]; decide) H
          rw [hb] at hF
          clear hb
          refine ls_w hF hW (wanted_y hF rfl rfl rfl rfl) rfl (Nat.le_of_ble_eq_true rfl) ((y_load (v := Value.agg #[.int .i64 x6.1.1, .int .i64 x6.1.2.1.1, .int .i64 x6.1.2.1.2.1, .int .i64 x6.1.2.1.2.2.1, .int .i64 x6.1.2.1.2.2.2, .int .i64 x6.1.2.2.1, .int .i64 x6.1.2.2.2.1, .int .i64 x6.1.2.2.2.2.1, .int .i64 x6.1.2.2.2.2.2]) 1 hF rfl rfl T24 rfl).q) (fun a w hF hW => ?_)
          refine ls_g (wanted_y hF rfl rfl rfl rfl) ?_
          obtain ⟨x16, h11, H⟩ := bindE H
          refine ls hF hW rfl (y_call (v := Value.bool x16) hF H7 rfl (fun w hW => match_Right_c any w x6.1 _ h11)) (fun a w hF hW => ?_)
          refine ls_w hF hW (wanted_y hF rfl rfl rfl rfl) rfl (Nat.le_of_ble_eq_true rfl) ((y_move hF rfl).q) (fun a w hF hW => ?_)
          rcases Bool.eq_false_or_eq_true x16 with hb | hb
          ·
            have H := iteT hb H
            rw [hb] at hF
            clear hb
            refine ls_w hF hW (wanted_y hF rfl rfl rfl rfl) rfl (Nat.le_of_ble_eq_true rfl) ((y_load (v := Value.agg #[.int .i64 x6.1.1, .int .i64 x6.1.2.1.1, .int .i64 x6.1.2.1.2.1, .int .i64 x6.1.2.1.2.2.1, .int .i64 x6.1.2.1.2.2.2, .int .i64 x6.1.2.2.1, .int .i64 x6.1.2.2.2.1, .int .i64 x6.1.2.2.2.2.1, .int .i64 x6.1.2.2.2.2.2]) 1 hF rfl rfl T24 rfl).q) (fun a w hF hW => ?_)
            refine ls_w hF hW (wanted_y hF rfl rfl rfl rfl) rfl (Nat.le_of_ble_eq_true rfl) ((y_load (v := Value.agg #[.int .i64 p0.1, .int .i64 p0.2.1.1, .int .i64 p0.2.1.2.1, .int .i64 p0.2.1.2.2.1, .int .i64 p0.2.1.2.2.2, .int .i64 p0.2.2.1, .int .i64 p0.2.2.2.1, .int .i64 p0.2.2.2.2.1, .int .i64 p0.2.2.2.2.2]) 4 hF rfl rfl T24 rfl).q) (fun a w hF hW => ?_)
            refine ls_g (wanted_y hF rfl rfl rfl rfl) ?_
            obtain ⟨x17, h12, H⟩ := bindE H
            refine ls hF hW rfl (y_call (v := Value.bool x17) hF H18 rfl (fun w hW => match_Within_c any w x6.1 p0 _ h12)) (fun a w hF hW => ?_)
            refine ls_w hF hW (wanted_y hF rfl rfl rfl rfl) rfl (Nat.le_of_ble_eq_true rfl) ((y_pick_t hF rfl rfl rfl).q) (fun a w hF hW => ?_)
            refine ls_w hF hW (wanted_y hF rfl rfl rfl rfl) rfl (Nat.le_of_ble_eq_true rfl) ((y_move hF rfl).q) (fun a w hF hW => ?_)
            rcases Bool.eq_false_or_eq_true x17 with hb | hb
            ·
              have H := iteT hb H
              rw [hb] at hF
              clear hb
              refine ls_w hF hW (wanted_y hF rfl rfl rfl rfl) rfl (Nat.le_of_ble_eq_true rfl) ((y_load (v := Value.agg #[.int .i64 x6.1.1, .int .i64 x6.1.2.1.1, .int .i64 x6.1.2.1.2.1, .int .i64 x6.1.2.1.2.2.1, .int .i64 x6.1.2.1.2.2.2, .int .i64 x6.1.2.2.1, .int .i64 x6.1.2.2.2.1, .int .i64 x6.1.2.2.2.2.1, .int .i64 x6.1.2.2.2.2.2]) 1 hF rfl rfl T24 rfl).q) (fun a w hF hW => ?_)
              refine ls_w hF hW (wanted_y hF rfl rfl rfl rfl) rfl (Nat.le_of_ble_eq_true rfl) ((y_load (v := Value.agg #[.int .i64 p1.1, .int .i64 p1.2.1.1, .int .i64 p1.2.1.2.1, .int .i64 p1.2.1.2.2.1, .int .i64 p1.2.1.2.2.2, .int .i64 p1.2.2.1, .int .i64 p1.2.2.2.1, .int .i64 p1.2.2.2.2.1, .int .i64 p1.2.2.2.2.2]) 3 hF rfl rfl T24 rfl).q) (fun a w hF hW => ?_)
              refine ls_g (wanted_y hF rfl rfl rfl rfl) ?_
              obtain ⟨x18, h13, H⟩ := bindE H
              refine ls hF hW rfl (y_call (v := Value.bool x18) hF H18 rfl (fun w hW => match_Within_c any w x6.1 p1 _ h13)) (fun a w hF hW => ?_)
              refine ls_w hF hW (wanted_y hF rfl rfl rfl rfl) rfl (Nat.le_of_ble_eq_true rfl) ((y_pick_t hF rfl rfl rfl).q) (fun a w hF hW => ?_)
              refine ls hF hW rfl ((y_pick_f hF rfl rfl rfl).q) (fun a w hF hW => ?_)
              refine ls hF hW rfl ((y_move hF rfl).q) (fun a w hF hW => ?_)
              rcases Bool.eq_false_or_eq_true x18 with hb | hb
              ·
                have H := iteT hb H
                rw [hb] at hF
                clear hb
                refine ls_g (wanted_y hF rfl rfl rfl rfl) ?_
                obtain ⟨x19, h14, H⟩ := bindE H
                refine ls hF hW rfl (y_call (v := Value.bool x19) hF H13 rfl (fun w hW => L08_awake_c any w _ h14 (hG.go0 hW))) (fun a w hF hW => ?_)
                refine ls hF hW rfl ((y_pick_t hF rfl rfl rfl).q) (fun a w hF hW => ?_)
                refine ls hF hW rfl ((y_assign hF rfl).q) (fun a w hF hW => ?_)
                refine ls_nil ?_
                refine c_then ?_
                have hW := hW.frontM (i := 4) rfl rfl
                have hW := hW.frontM (i := 4) rfl rfl
                have hW := hW.frontM (i := 4) rfl rfl
                have hW := hW.frontM (i := 4) rfl rfl
                have hW := hW.frontM (i := 4) rfl rfl
                exact ⟨_, H, hF.re ⟨rfl, trivial⟩, hW⟩
              ·
                have H := iteF (by rw [hb]; decide) H
                rw [hb] at hF
                clear hb
                refine ls_skip hF (wanted_n hF rfl rfl rfl rfl rfl) rfl rfl (fun a hF => ?_)
                refine ls hF hW rfl ((y_pick_f hF rfl rfl rfl).q) (fun a w hF hW => ?_)
                refine ls hF hW rfl ((y_assign hF rfl).q) (fun a w hF hW => ?_)
                refine ls_nil ?_
                refine c_then ?_
                have hW := hW.frontM (i := 4) rfl rfl
                have hW := hW.frontM (i := 4) rfl rfl
                have hW := hW.frontM (i := 4) rfl rfl
                have hW := hW.frontM (i := 4) rfl rfl
                have hW := hW.frontM (i := 4) rfl rfl
                exact ⟨_, H, hF.re ⟨rfl, trivial⟩, hW⟩
            ·
              have H := iteF (by rw [hb]; decide) H
              rw [hb] at hF
              clear hb
              refine ls_skip hF (wanted_n hF rfl rfl rfl rfl rfl) rfl rfl (fun a hF => ?_)
              refine ls_skip hF (wanted_n hF rfl rfl rfl rfl rfl) rfl rfl (fun a hF => ?_)
              refine ls_skip hF (wanted_n hF rfl rfl rfl rfl rfl) rfl rfl (fun a hF => ?_)
              refine ls_w hF hW (wanted_y hF rfl rfl rfl rfl) rfl (Nat.le_of_ble_eq_true rfl) ((y_pick_f hF rfl rfl rfl).q) (fun a w hF hW => ?_)
              refine ls hF hW rfl ((y_pick_f hF rfl rfl rfl).q) (fun a w hF hW => ?_)
              refine ls hF hW rfl ((y_move hF rfl).q) (fun a w hF hW => ?_)
              refine ls_skip hF (wanted_n hF rfl rfl rfl rfl rfl) rfl rfl (fun a hF => ?_)
              refine ls hF hW rfl ((y_pick_f hF rfl rfl rfl).q) (fun a w hF hW => ?_)
              refine ls hF hW rfl ((y_assign hF rfl).q) (fun a w hF hW => ?_)
              refine ls_nil ?_
              refine c_then ?_
              have hW := hW.frontM (i := 4) rfl rfl
              have hW := hW.frontM (i := 4) rfl rfl
              have hW := hW.frontM (i := 4) rfl rfl
              have hW := hW.frontM (i := 4) rfl rfl
              have hW := hW.frontM (i := 4) rfl rfl
              exact ⟨_, H, hF.re ⟨rfl, trivial⟩, hW⟩
          ·
            have H := iteF (by rw [hb]; decide) H
            rw [hb] at hF
            clear hb
            refine ls_skip hF (wanted_n hF rfl rfl rfl rfl rfl) rfl rfl (fun a hF => ?_)
            refine ls_skip hF (wanted_n hF rfl rfl rfl rfl rfl) rfl rfl (fun a hF => ?_)
            refine ls_skip hF (wanted_n hF rfl rfl rfl rfl rfl) rfl rfl (fun a hF => ?_)
            refine ls_w hF hW (wanted_y hF rfl rfl rfl rfl) rfl (Nat.le_of_ble_eq_true rfl) ((y_pick_f hF rfl rfl rfl).q) (fun a w hF hW => ?_)
            refine ls_w hF hW (wanted_y hF rfl rfl rfl rfl) rfl (Nat.le_of_ble_eq_true rfl) ((y_move hF rfl).q) (fun a w hF hW => ?_)
            refine ls_skip hF (wanted_n hF rfl rfl rfl rfl rfl) rfl rfl (fun a hF => ?_)
            refine ls_skip hF (wanted_n hF rfl rfl rfl rfl rfl) rfl rfl (fun a hF => ?_)
            refine ls_skip hF (wanted_n hF rfl rfl rfl rfl rfl) rfl rfl (fun a hF => ?_)
            refine ls_w hF hW (wanted_y hF rfl rfl rfl rfl) rfl (Nat.le_of_ble_eq_true rfl) ((y_pick_f hF rfl rfl rfl).q) (fun a w hF hW => ?_)
            refine ls hF hW rfl ((y_pick_f hF rfl rfl rfl).q) (fun a w hF hW => ?_)
            refine ls hF hW rfl ((y_move hF rfl).q) (fun a w hF hW => ?_)
            refine ls_skip hF (wanted_n hF rfl rfl rfl rfl rfl) rfl rfl (fun a hF => ?_)
            refine ls hF hW rfl ((y_pick_f hF rfl rfl rfl).q) (fun a w hF hW => ?_)
            refine ls hF hW rfl ((y_assign hF rfl).q) (fun a w hF hW => ?_)
            refine ls_nil ?_
            refine c_then ?_
            have hW := hW.frontM (i := 4) rfl rfl
            have hW := hW.frontM (i := 4) rfl rfl
            have hW := hW.frontM (i := 4) rfl rfl
            have hW := hW.frontM (i := 4) rfl rfl
            have hW := hW.frontM (i := 4) rfl rfl
            exact ⟨_, H, hF.re ⟨rfl, trivial⟩, hW⟩
      rintro a w ⟨x14, hj, hF, hW⟩
      have hj := Option.some.inj hj
      subst hj
      have H := K4
      clear G4 K4
      refine wp_ret ?_
      have H := Option.some.inj H
      subst H
      refine post1 (.inl rfl) hF hW rfl (rv_tmp hF rfl) ?_
      exact ⟨rfl, hW.done⟩

end Go.Proofs.YtmlaadalggngkaaDoor
