/- The functions of layer 4, lifted. Conditions: none. -/
import Derived.Test.YtkpifofijmimdaaA0
namespace Go.Proofs.Ytkpifofijmimdaa
open Go Go.RowKit
set_option linter.unusedVariables false
set_option linter.unusedSimpArgs false
theorem H27 : Has Try.prog 27 := ⟨fun args w => run_callFunc_body Try.func27 rfl (by decide) args w⟩
noncomputable def r04_Reader_Int_l1 (x1 : List UInt8 × (List UInt8 × Int × Int)) : (Int × Int) → Option ((Int × Int) ⊕ Int)
  | (x3, x4) => (if x4 < (x1.1.length : Int) then (ix x1.1 x4).bind fun x5 => (if (decide (x4 = 0) && decide (127 < (w64 (x5.toNat : Int)))) = true then some (w64 ((w64 (x5.toNat : Int)) - 256)) else some (w64 (x5.toNat : Int))).bind fun x6 => some (.inl (w64 ((w64 (x3 * 256)) + x6), w64 (x4 + 1))) else some (.inr x3))
noncomputable def r04_Reader_Int (p0 : List UInt8 × Int × Int) : Option (Int × (List UInt8 × Int × Int)) := (r04_Reader_Take p0 8).bind fun x1 => (loopW (r04_Reader_Int_l1 x1) (0, 0)).bind fun x2 => some (x2, x1.2)
theorem r04_Reader_Int_c (Y : Nat → Prop) (X : List Nat) (w0 : World) (q_p0 : Nat) (p0 : List UInt8 × Int × Int) (r : Int × (List UInt8 × Int × Int)) (H : r04_Reader_Int p0 = some r) (hL : Stw ⟨Y, X, w0⟩ [(q_p0, [.string (bs p0.1), .int .i64 p0.2.1, .int .i64 p0.2.2])] [] w0) :
    Calls Try.prog 28 #[.pointer (some ⟨q_p0, 0, none⟩)] w0 fun e w' => ∃ x : Unit, e = .returned (.int .i64 r.1) ∧ Stw ⟨Y, X, w0⟩ [(q_p0, [.string (bs r.2.1), .int .i64 r.2.2.1, .int .i64 r.2.2.2])] [] w' := by
  refine enter Try.func28 rfl Try.ntmps28 rfl (fun a hF => ?_)
  have hW := hL
  unfold r04_Reader_Int at H
  refine c_seq ?_
  refine reg_list ?_
  refine ls hF hW rfl ((y_assign hF rfl).q) (fun a w hF hW => ?_)
  refine ls_nil ?_
  refine c_then ?_
  refine c_seq ?_
  refine reg_list ?_
  refine ls hF hW rfl ((y_move hF rfl).q) (fun a w hF hW => ?_)
  obtain ⟨x1, h1, H⟩ := bindE H
  refine l_callG (Ml := [(q_p0, [.string (bs p0.1), .int .i64 p0.2.1, .int .i64 p0.2.2])]) (Zl := []) (M := []) (Z := []) (β := Unit) (rv := fun x => .string (bs x1.1)) (MM := fun x => [(q_p0, [.string (bs x1.2.1), .int .i64 x1.2.2.1, .int .i64 x1.2.2.2])]) (ZZ := fun x => []) hF hW H30 rfl rfl (fun hL => r04_Reader_Take_c _ _ w q_p0 p0 8 _ h1 hL) (fun x a w hF hW => ?_)
  have hW : Stw ⟨Y, X, w0⟩ [(q_p0, [.string (bs x1.2.1), .int .i64 x1.2.2.1, .int .i64 x1.2.2.2])] [] w := hW
  refine ls hF hW rfl ((y_assign hF rfl).q) (fun a w hF hW => ?_)
  refine ls_nil ?_
  refine c_then ?_
  refine c_seq ?_
  refine reg_list ?_
  refine ls hF hW rfl ((y_assign hF rfl).q) (fun a w hF hW => ?_)
  refine ls_nil ?_
  refine c_then ?_
  obtain ⟨o1, G1, K1⟩ := bindE H
  refine c_seqJ (fun a w => ∃ x2 : Int, some (x2) = some o1 ∧ Fr 32 [] [(2, .int .i64 0), (4, .int .i64 x2)] a ∧ Stw ⟨Y, X, w0⟩ [(q_p0, [.string (bs x1.2.1), .int .i64 x1.2.2.1, .int .i64 x1.2.2.2])] [] w) ?_ ?_
  ·
    have H := G1
    clear G1 K1
    refine c_seq ?_
    refine reg_list ?_
    refine ls hF hW rfl ((y_assign hF rfl).q) (fun a w hF hW => ?_)
    refine ls_nil ?_
    refine c_then ?_
    refine wp_block ?_
    refine c_loopW H (fun s a w => Fr 32 [] [(2, .int .i64 0), (3, .string (bs x1.1)), (4, .int .i64 s.1), (5, .int .i64 s.2)] a ∧ Stw ⟨Y, X, w0⟩ [(q_p0, [.string (bs x1.2.1), .int .i64 x1.2.2.1, .int .i64 x1.2.2.2])] [] w) ⟨hF.re ⟨rfl, rfl, rfl, rfl, trivial⟩, hW⟩ (fun s o a w H L2 hR => ?_)
    obtain ⟨x3, x4⟩ := s
    obtain ⟨hF, hW⟩ := hR
    have hF : Fr 32 [] [(2, .int .i64 0), (3, .string (bs x1.1)), (4, .int .i64 x3), (5, .int .i64 x4)] a := hF
    have hW : Stw ⟨Y, X, w0⟩ [(q_p0, [.string (bs x1.2.1), .int .i64 x1.2.2.1, .int .i64 x1.2.2.2])] [] w := hW
    rw [r04_Reader_Int_l1] at H
    refine c_seq ?_
    refine c_seq ?_
    refine reg_list ?_
    refine ls hF hW rfl ((y_move hF rfl).q) (fun a w hF hW => ?_)
    refine ls hF hW rfl ((y_move hF rfl).q) (fun a w hF hW => ?_)
    refine ls hF hW rfl ((y_slen (l := x1.1) Try.underlying9 rfl hF rfl).q) (fun a w hF hW => ?_)
    refine ls hF hW rfl ((y_lss hF rfl rfl).q) (fun a w hF hW => ?_)
    refine ls_nil ?_
    refine c_then ?_
    refine c_cond hF rfl (fun hb => ?_) (fun hb => ?_)
    ·
      have H := iteT (of_decide_eq_true hb) H
      rw [hb] at hF
      clear hb
      refine wp_skip ?_
      refine c_then ?_
      refine c_seq ?_
      refine wp_block ?_
      refine c_seq ?_
      refine reg_list ?_
      refine ls hF hW rfl ((y_move hF rfl).q) (fun a w hF hW => ?_)
      refine ls hF hW rfl ((y_move hF rfl).q) (fun a w hF hW => ?_)
      obtain ⟨x5, h2, H⟩ := bindE H
      refine ls hF hW rfl ((y_sindex (l := x1.1) Try.underlying9 hF rfl rfl h2).q) (fun a w hF hW => ?_)
      refine ls hF hW rfl ((y_convI Try.underlying5 Try.underlying3 hF rfl).q) (fun a w hF hW => ?_)
      refine ls hF hW rfl ((y_assign hF rfl).q) (fun a w hF hW => ?_)
      refine ls_nil ?_
      refine c_then ?_
      obtain ⟨o3, G3, K3⟩ := bindE H
      refine c_seqJ (fun a w => ∃ x6 : Int, some (x6) = some o3 ∧ Fr 32 [] [(2, .int .i64 0), (3, .string (bs x1.1)), (4, .int .i64 x3), (5, .int .i64 x4), (6, .int .i64 x6)] a ∧ Stw ⟨Y, X, w0⟩ [(q_p0, [.string (bs x1.2.1), .int .i64 x1.2.2.1, .int .i64 x1.2.2.2])] [] w) ?_ ?_
      ·
        have H := G3
        clear G3 K3
        refine c_seqJ (fun a w => Fr 32 [] [(2, .int .i64 0), (3, .string (bs x1.1)), (4, .int .i64 x3), (5, .int .i64 x4), (6, .int .i64 (w64 (x5.toNat : Int))), (24, .bool (decide (x4 = 0) && decide (127 < (w64 (x5.toNat : Int)))))] a ∧ Stw ⟨Y, X, w0⟩ [(q_p0, [.string (bs x1.2.1), .int .i64 x1.2.2.1, .int .i64 x1.2.2.2])] [] w) ?_ ?_
        ·
          refine reg_list ?_
          refine ls hF hW rfl ((y_move hF rfl).q) (fun a w hF hW => ?_)
          refine ls hF hW rfl ((y_eql hF rfl rfl).q) (fun a w hF hW => ?_)
          refine ls hF hW rfl ((y_move hF rfl).q) (fun a w hF hW => ?_)
          rcases Bool.eq_false_or_eq_true (decide (x4 = 0)) with hb0 | hb0
          ·
            rw [hb0] at hF
            refine ls_w hF hW (wanted_y hF rfl rfl rfl rfl) rfl (Nat.le_of_ble_eq_true rfl) ((y_move hF rfl).q) (fun a w hF hW => ?_)
            refine ls_w hF hW (wanted_y hF rfl rfl rfl rfl) rfl (Nat.le_of_ble_eq_true rfl) ((y_gtr hF rfl rfl).q) (fun a w hF hW => ?_)
            refine ls hF hW rfl ((y_pick_t hF rfl rfl rfl).q) (fun a w hF hW => ?_)
            refine ls_nil ?_
            refine c_then ?_
            exact ⟨hF.re ⟨rfl, rfl, rfl, rfl, rfl, (by show some (Value.bool (decide (127 < (w64 (x5.toNat : Int))))) = some (Value.bool (decide (x4 = 0) && decide (127 < (w64 (x5.toNat : Int))))); simp only [hb0, Bool.not_true, Bool.not_false, Bool.true_and, Bool.false_and, Bool.true_or, Bool.false_or, Bool.and_true, Bool.or_false, cond_true, cond_false]), trivial⟩, hW⟩
          ·
            rw [hb0] at hF
            refine ls_skip hF (wanted_n hF rfl rfl rfl rfl rfl) rfl rfl (fun a hF => ?_)
            refine ls_skip hF (wanted_n hF rfl rfl rfl rfl rfl) rfl rfl (fun a hF => ?_)
            refine ls hF hW rfl ((y_pick_f hF rfl rfl rfl).q) (fun a w hF hW => ?_)
            refine ls_nil ?_
            refine c_then ?_
            exact ⟨hF.re ⟨rfl, rfl, rfl, rfl, rfl, (by show some (Value.bool false) = some (Value.bool (decide (x4 = 0) && decide (127 < (w64 (x5.toNat : Int))))); simp only [hb0, Bool.not_true, Bool.not_false, Bool.true_and, Bool.false_and, Bool.true_or, Bool.false_or, Bool.and_true, Bool.or_false, cond_true, cond_false]), trivial⟩, hW⟩
        rintro a w ⟨hF, hW⟩
        refine c_cond hF rfl (fun hb => ?_) (fun hb => ?_)
        ·
          have H := iteT hb H
          rw [hb] at hF
          clear hb
          refine reg_list ?_
          refine ls hF hW rfl ((y_move hF rfl).q) (fun a w hF hW => ?_)
          refine ls hF hW rfl ((y_sub hF rfl rfl rfl).q) (fun a w hF hW => ?_)
          refine ls hF hW rfl ((y_assign hF rfl).q) (fun a w hF hW => ?_)
          refine ls_nil ?_
          refine c_then ?_
          exact ⟨_, H, hF.re ⟨rfl, rfl, rfl, rfl, rfl, trivial⟩, hW⟩
        ·
          have H := iteF (by rw [hb]; decide) H
          rw [hb] at hF
          clear hb
          refine wp_skip ?_
          refine c_then ?_
          exact ⟨_, H, hF.re ⟨rfl, rfl, rfl, rfl, rfl, trivial⟩, hW⟩
      rintro a w ⟨x6, hj, hF, hW⟩
      have hj := Option.some.inj hj
      subst hj
      have H := K3
      clear G3 K3
      refine reg_list ?_
      refine ls hF hW rfl ((y_move hF rfl).q) (fun a w hF hW => ?_)
      refine ls hF hW rfl ((y_mul hF rfl rfl rfl).q) (fun a w hF hW => ?_)
      refine ls hF hW rfl ((y_move hF rfl).q) (fun a w hF hW => ?_)
      refine ls hF hW rfl ((y_add hF rfl rfl rfl).q) (fun a w hF hW => ?_)
      refine ls hF hW rfl ((y_assign hF rfl).q) (fun a w hF hW => ?_)
      refine ls_nil ?_
      refine b_normal ?_
      refine c_then ?_
      refine reg_list ?_
      refine ls hF hW rfl ((y_move hF rfl).q) (fun a w hF hW => ?_)
      refine ls hF hW rfl ((y_add hF rfl rfl rfl).q) (fun a w hF hW => ?_)
      refine ls hF hW rfl ((y_assign hF rfl).q) (fun a w hF hW => ?_)
      refine ls_nil ?_
      refine c_then ?_
      exact ⟨_, H, hF.re ⟨rfl, rfl, rfl, rfl, trivial⟩, hW⟩
    ·
      have H := iteF (of_decide_eq_false hb) H
      rw [hb] at hF
      clear hb
      refine wp_exit ?_
      refine e_then ?_
      refine e_then ?_
      refine e_block ?_
      refine c_then ?_
      have H := L2 _ H
      exact ⟨_, H, hF.re ⟨rfl, rfl, trivial⟩, hW⟩
  rintro a w ⟨x2, hj, hF, hW⟩
  have hj := Option.some.inj hj
  subst hj
  have H := K1
  clear G1 K1
  refine c_seq ?_
  refine reg_list ?_
  refine ls hF hW rfl ((y_move hF rfl).q) (fun a w hF hW => ?_)
  refine ls hF hW rfl ((y_assign hF rfl).q) (fun a w hF hW => ?_)
  refine ls_nil ?_
  refine c_then ?_
  refine wp_ret ?_
  have H := Option.some.inj H
  subst H
  refine post1 (.inl rfl) hF hW rfl (rv_tmp hF rfl) ?_
  exact ⟨(), rfl, hW⟩

theorem H28 : Has Try.prog 28 := ⟨fun args w => run_callFunc_body Try.func28 rfl (by decide) args w⟩
noncomputable def octet_Reader_Flag (p0 : List UInt8 × Int) : Option (Bool × (List UInt8 × Int)) := (octet_Reader_Num p0 1).bind fun x1 => (if 1 < x1.1 then some ((octet_Reader_Wrong x1.2 5).1, (octet_Reader_Wrong x1.2 5).2) else some (x1.2.1, x1.2.2)).bind fun (x2, x3) => some (((octet_Reader_Ok (x2, x3)) && decide (x1.1 = 1)), (x2, x3))
theorem octet_Reader_Flag_c (Y : Nat → Prop) (X : List Nat) (w0 : World) (q_p0 : Nat) (p0 : List UInt8 × Int) (r : Bool × (List UInt8 × Int)) (H : octet_Reader_Flag p0 = some r) (hL : Stw ⟨Y, X, w0⟩ [(q_p0, [.string (bs p0.1), .int .i64 p0.2])] [] w0) :
    Calls Try.prog 22 #[.pointer (some ⟨q_p0, 0, none⟩)] w0 fun e w' => ∃ x : Unit, e = .returned (.bool r.1) ∧ Stw ⟨Y, X, w0⟩ [(q_p0, [.string (bs r.2.1), .int .i64 r.2.2])] [] w' := by
  refine enter Try.func22 rfl Try.ntmps22 rfl (fun a hF => ?_)
  have hW := hL
  unfold octet_Reader_Flag at H
  refine c_seq ?_
  refine reg_list ?_
  refine ls hF hW rfl ((y_assign hF rfl).q) (fun a w hF hW => ?_)
  refine ls_nil ?_
  refine c_then ?_
  refine c_seq ?_
  refine reg_list ?_
  refine ls hF hW rfl ((y_move hF rfl).q) (fun a w hF hW => ?_)
  obtain ⟨x1, h1, H⟩ := bindE H
  refine l_callG (Ml := [(q_p0, [.string (bs p0.1), .int .i64 p0.2])]) (Zl := []) (M := []) (Z := []) (β := Unit) (rv := fun x => .int .i64 x1.1) (MM := fun x => [(q_p0, [.string (bs x1.2.1), .int .i64 x1.2.2])]) (ZZ := fun x => []) hF hW H20 rfl rfl (fun hL => octet_Reader_Num_c _ _ w q_p0 p0 1 _ h1 hL) (fun x a w hF hW => ?_)
  have hW : Stw ⟨Y, X, w0⟩ [(q_p0, [.string (bs x1.2.1), .int .i64 x1.2.2])] [] w := hW
  refine ls hF hW rfl ((y_assign hF rfl).q) (fun a w hF hW => ?_)
  refine ls_nil ?_
  refine c_then ?_
  obtain ⟨o1, G1, K1⟩ := bindE H
  refine c_seqJ (fun a w => ∃ x2 : List UInt8, ∃ x3 : Int, some ((x2, x3)) = some o1 ∧ Fr 16 [] [(0, .pointer (some ⟨q_p0, 0, none⟩)), (2, .bool false), (3, .int .i64 x1.1)] a ∧ Stw ⟨Y, X, w0⟩ [(q_p0, [.string (bs x2), .int .i64 x3])] [] w) ?_ ?_
  ·
    have H := G1
    clear G1 K1
    refine c_seq ?_
    refine reg_list ?_
    refine ls hF hW rfl ((y_move hF rfl).q) (fun a w hF hW => ?_)
    refine ls hF hW rfl ((y_gtr hF rfl rfl).q) (fun a w hF hW => ?_)
    refine ls_nil ?_
    refine c_then ?_
    refine c_cond hF rfl (fun hb => ?_) (fun hb => ?_)
    ·
      have H := iteT (of_decide_eq_true hb) H
      rw [hb] at hF
      clear hb
      refine reg_list ?_
      refine ls hF hW rfl ((y_move hF rfl).q) (fun a w hF hW => ?_)
      refine l_callG (Ml := [(q_p0, [.string (bs x1.2.1), .int .i64 x1.2.2])]) (Zl := []) (M := []) (Z := []) (β := Unit) (rv := fun x => .tuple #[]) (MM := fun x => [(q_p0, [.string (bs ((octet_Reader_Wrong x1.2 5).1)), .int .i64 ((octet_Reader_Wrong x1.2 5).2)])]) (ZZ := fun x => []) hF hW H24 rfl rfl (fun hL => octet_Reader_Wrong_c _ _ w q_p0 x1.2 5 _ rfl hL) (fun x a w hF hW => ?_)
      have hW : Stw ⟨Y, X, w0⟩ [(q_p0, [.string (bs ((octet_Reader_Wrong x1.2 5).1)), .int .i64 ((octet_Reader_Wrong x1.2 5).2)])] [] w := hW
      refine ls_nil ?_
      refine c_then ?_
      exact ⟨_, _, H, hF.re ⟨rfl, rfl, rfl, trivial⟩, hW⟩
    ·
      have H := iteF (of_decide_eq_false hb) H
      rw [hb] at hF
      clear hb
      refine wp_skip ?_
      refine c_then ?_
      exact ⟨_, _, H, hF.re ⟨rfl, rfl, rfl, trivial⟩, hW⟩
  rintro a w ⟨x2, x3, hj, hF, hW⟩
  have hj := Option.some.inj hj
  subst hj
  have H := K1
  clear G1 K1
  refine c_seqJ (fun a w => Fr 16 [] [(2, .bool ((octet_Reader_Ok (x2, x3)) && decide (x1.1 = 1)))] a ∧ Stw ⟨Y, X, w0⟩ [(q_p0, [.string (bs x2), .int .i64 x3])] [] w) ?_ ?_
  ·
    refine reg_list ?_
    refine ls hF hW rfl ((y_move hF rfl).q) (fun a w hF hW => ?_)
    refine ls hF hW rfl (y_call (v := Value.bool (octet_Reader_Ok (x2, x3))) hF H17 rfl (fun w hW => octet_Reader_Ok_c any w q_p0 (x2, x3) _ rfl (at_M hW 0 rfl))) (fun a w hF hW => ?_)
    refine ls hF hW rfl ((y_move hF rfl).q) (fun a w hF hW => ?_)
    rcases Bool.eq_false_or_eq_true (octet_Reader_Ok (x2, x3)) with hb0 | hb0
    ·
      rw [hb0] at hF
      refine ls_w hF hW (wanted_y hF rfl rfl rfl rfl) rfl (Nat.le_of_ble_eq_true rfl) ((y_move hF rfl).q) (fun a w hF hW => ?_)
      refine ls_w hF hW (wanted_y hF rfl rfl rfl rfl) rfl (Nat.le_of_ble_eq_true rfl) ((y_eql hF rfl rfl).q) (fun a w hF hW => ?_)
      refine ls hF hW rfl ((y_pick_t hF rfl rfl rfl).q) (fun a w hF hW => ?_)
      refine ls hF hW rfl ((y_assign hF rfl).q) (fun a w hF hW => ?_)
      refine ls_nil ?_
      refine c_then ?_
      exact ⟨hF.re ⟨(by show some (Value.bool (decide (x1.1 = 1))) = some (Value.bool ((octet_Reader_Ok (x2, x3)) && decide (x1.1 = 1))); simp only [hb0, Bool.not_true, Bool.not_false, Bool.true_and, Bool.false_and, Bool.true_or, Bool.false_or, Bool.and_true, Bool.or_false, cond_true, cond_false]), trivial⟩, hW⟩
    ·
      rw [hb0] at hF
      refine ls_skip hF (wanted_n hF rfl rfl rfl rfl rfl) rfl rfl (fun a hF => ?_)
      refine ls_skip hF (wanted_n hF rfl rfl rfl rfl rfl) rfl rfl (fun a hF => ?_)
      refine ls hF hW rfl ((y_pick_f hF rfl rfl rfl).q) (fun a w hF hW => ?_)
      refine ls hF hW rfl ((y_assign hF rfl).q) (fun a w hF hW => ?_)
      refine ls_nil ?_
      refine c_then ?_
      exact ⟨hF.re ⟨(by show some (Value.bool false) = some (Value.bool ((octet_Reader_Ok (x2, x3)) && decide (x1.1 = 1))); simp only [hb0, Bool.not_true, Bool.not_false, Bool.true_and, Bool.false_and, Bool.true_or, Bool.false_or, Bool.and_true, Bool.or_false, cond_true, cond_false]), trivial⟩, hW⟩
  rintro a w ⟨hF, hW⟩
  refine wp_ret ?_
  have H := Option.some.inj H
  subst H
  refine post1 (.inl rfl) hF hW rfl (rv_tmp hF rfl) ?_
  exact ⟨(), rfl, hW⟩

theorem H22 : Has Try.prog 22 := ⟨fun args w => run_callFunc_body Try.func22 rfl (by decide) args w⟩
noncomputable def r04_Reader_Flag (p0 : List UInt8 × Int × Int) : Option (Bool × (List UInt8 × Int × Int)) := (r04_Reader_Num p0 1).bind fun x1 => (if 1 < x1.1 then some ((r04_Reader_Wrong x1.2 5).1, (r04_Reader_Wrong x1.2 5).2.1, (r04_Reader_Wrong x1.2 5).2.2) else some (x1.2.1, x1.2.2.1, x1.2.2.2)).bind fun (x2, x3, x4) => some (decide (x1.1 = 1), (x2, x3, x4))
theorem r04_Reader_Flag_c (Y : Nat → Prop) (X : List Nat) (w0 : World) (q_p0 : Nat) (p0 : List UInt8 × Int × Int) (r : Bool × (List UInt8 × Int × Int)) (H : r04_Reader_Flag p0 = some r) (hL : Stw ⟨Y, X, w0⟩ [(q_p0, [.string (bs p0.1), .int .i64 p0.2.1, .int .i64 p0.2.2])] [] w0) :
    Calls Try.prog 29 #[.pointer (some ⟨q_p0, 0, none⟩)] w0 fun e w' => ∃ x : Unit, e = .returned (.bool r.1) ∧ Stw ⟨Y, X, w0⟩ [(q_p0, [.string (bs r.2.1), .int .i64 r.2.2.1, .int .i64 r.2.2.2])] [] w' := by
  refine enter Try.func29 rfl Try.ntmps29 rfl (fun a hF => ?_)
  have hW := hL
  unfold r04_Reader_Flag at H
  refine c_seq ?_
  refine reg_list ?_
  refine ls hF hW rfl ((y_assign hF rfl).q) (fun a w hF hW => ?_)
  refine ls_nil ?_
  refine c_then ?_
  refine c_seq ?_
  refine reg_list ?_
  refine ls hF hW rfl ((y_move hF rfl).q) (fun a w hF hW => ?_)
  obtain ⟨x1, h1, H⟩ := bindE H
  refine l_callG (Ml := [(q_p0, [.string (bs p0.1), .int .i64 p0.2.1, .int .i64 p0.2.2])]) (Zl := []) (M := []) (Z := []) (β := Unit) (rv := fun x => .int .i64 x1.1) (MM := fun x => [(q_p0, [.string (bs x1.2.1), .int .i64 x1.2.2.1, .int .i64 x1.2.2.2])]) (ZZ := fun x => []) hF hW H27 rfl rfl (fun hL => r04_Reader_Num_c _ _ w q_p0 p0 1 _ h1 hL) (fun x a w hF hW => ?_)
  have hW : Stw ⟨Y, X, w0⟩ [(q_p0, [.string (bs x1.2.1), .int .i64 x1.2.2.1, .int .i64 x1.2.2.2])] [] w := hW
  refine ls hF hW rfl ((y_assign hF rfl).q) (fun a w hF hW => ?_)
  refine ls_nil ?_
  refine c_then ?_
  obtain ⟨o1, G1, K1⟩ := bindE H
  refine c_seqJ (fun a w => ∃ x2 : List UInt8, ∃ x3 : Int, ∃ x4 : Int, some ((x2, x3, x4)) = some o1 ∧ Fr 12 [] [(2, .bool false), (3, .int .i64 x1.1)] a ∧ Stw ⟨Y, X, w0⟩ [(q_p0, [.string (bs x2), .int .i64 x3, .int .i64 x4])] [] w) ?_ ?_
  ·
    have H := G1
    clear G1 K1
    refine c_seq ?_
    refine reg_list ?_
    refine ls hF hW rfl ((y_move hF rfl).q) (fun a w hF hW => ?_)
    refine ls hF hW rfl ((y_gtr hF rfl rfl).q) (fun a w hF hW => ?_)
    refine ls_nil ?_
    refine c_then ?_
    refine c_cond hF rfl (fun hb => ?_) (fun hb => ?_)
    ·
      have H := iteT (of_decide_eq_true hb) H
      rw [hb] at hF
      clear hb
      refine reg_list ?_
      refine ls hF hW rfl ((y_move hF rfl).q) (fun a w hF hW => ?_)
      refine l_callG (Ml := [(q_p0, [.string (bs x1.2.1), .int .i64 x1.2.2.1, .int .i64 x1.2.2.2])]) (Zl := []) (M := []) (Z := []) (β := Unit) (rv := fun x => .tuple #[]) (MM := fun x => [(q_p0, [.string (bs ((r04_Reader_Wrong x1.2 5).1)), .int .i64 ((r04_Reader_Wrong x1.2 5).2.1), .int .i64 ((r04_Reader_Wrong x1.2 5).2.2)])]) (ZZ := fun x => []) hF hW H32 rfl rfl (fun hL => r04_Reader_Wrong_c _ _ w q_p0 x1.2 5 _ rfl hL) (fun x a w hF hW => ?_)
      have hW : Stw ⟨Y, X, w0⟩ [(q_p0, [.string (bs ((r04_Reader_Wrong x1.2 5).1)), .int .i64 ((r04_Reader_Wrong x1.2 5).2.1), .int .i64 ((r04_Reader_Wrong x1.2 5).2.2)])] [] w := hW
      refine ls_nil ?_
      refine c_then ?_
      exact ⟨_, _, _, H, hF.re ⟨rfl, rfl, trivial⟩, hW⟩
    ·
      have H := iteF (of_decide_eq_false hb) H
      rw [hb] at hF
      clear hb
      refine wp_skip ?_
      refine c_then ?_
      exact ⟨_, _, _, H, hF.re ⟨rfl, rfl, trivial⟩, hW⟩
  rintro a w ⟨x2, x3, x4, hj, hF, hW⟩
  have hj := Option.some.inj hj
  subst hj
  have H := K1
  clear G1 K1
  refine c_seq ?_
  refine reg_list ?_
  refine ls hF hW rfl ((y_move hF rfl).q) (fun a w hF hW => ?_)
  refine ls hF hW rfl ((y_eql hF rfl rfl).q) (fun a w hF hW => ?_)
  refine ls hF hW rfl ((y_assign hF rfl).q) (fun a w hF hW => ?_)
  refine ls_nil ?_
  refine c_then ?_
  refine wp_ret ?_
  have H := Option.some.inj H
  subst H
  refine post1 (.inl rfl) hF hW rfl (rv_tmp hF rfl) ?_
  exact ⟨(), rfl, hW⟩

theorem H29 : Has Try.prog 29 := ⟨fun args w => run_callFunc_body Try.func29 rfl (by decide) args w⟩
noncomputable def octet_Reader_Count (p0 : List UInt8 × Int) (p1 : Int) : Option (Int × (List UInt8 × Int)) := (octet_Reader_Num p0 1).bind fun x1 => (if p1 < x1.1 then some ((octet_Reader_Wrong x1.2 6).1, (octet_Reader_Wrong x1.2 6).2) else some (x1.2.1, x1.2.2)).bind fun (x2, x3) => (if (!(octet_Reader_Ok (x2, x3))) = true then some (0, (x2, x3)) else some (x1.1, (x2, x3)))
theorem octet_Reader_Count_c (Y : Nat → Prop) (X : List Nat) (w0 : World) (q_p0 : Nat) (p0 : List UInt8 × Int) (p1 : Int) (r : Int × (List UInt8 × Int)) (H : octet_Reader_Count p0 p1 = some r) (hL : Stw ⟨Y, X, w0⟩ [(q_p0, [.string (bs p0.1), .int .i64 p0.2])] [] w0) :
    Calls Try.prog 25 #[.pointer (some ⟨q_p0, 0, none⟩), .int .i64 p1] w0 fun e w' => ∃ x : Unit, e = .returned (.int .i64 r.1) ∧ Stw ⟨Y, X, w0⟩ [(q_p0, [.string (bs r.2.1), .int .i64 r.2.2])] [] w' := by
  refine enter Try.func25 rfl Try.ntmps25 rfl (fun a hF => ?_)
  have hW := hL
  unfold octet_Reader_Count at H
  refine c_seq ?_
  refine reg_list ?_
  refine ls hF hW rfl ((y_assign hF rfl).q) (fun a w hF hW => ?_)
  refine ls_nil ?_
  refine c_then ?_
  refine c_seq ?_
  refine reg_list ?_
  refine ls hF hW rfl ((y_move hF rfl).q) (fun a w hF hW => ?_)
  obtain ⟨x1, h1, H⟩ := bindE H
  refine l_callG (Ml := [(q_p0, [.string (bs p0.1), .int .i64 p0.2])]) (Zl := []) (M := []) (Z := []) (β := Unit) (rv := fun x => .int .i64 x1.1) (MM := fun x => [(q_p0, [.string (bs x1.2.1), .int .i64 x1.2.2])]) (ZZ := fun x => []) hF hW H20 rfl rfl (fun hL => octet_Reader_Num_c _ _ w q_p0 p0 1 _ h1 hL) (fun x a w hF hW => ?_)
  have hW : Stw ⟨Y, X, w0⟩ [(q_p0, [.string (bs x1.2.1), .int .i64 x1.2.2])] [] w := hW
  refine ls hF hW rfl ((y_assign hF rfl).q) (fun a w hF hW => ?_)
  refine ls_nil ?_
  refine c_then ?_
  obtain ⟨o1, G1, K1⟩ := bindE H
  refine c_seqJ (fun a w => ∃ x2 : List UInt8, ∃ x3 : Int, some ((x2, x3)) = some o1 ∧ Fr 17 [] [(0, .pointer (some ⟨q_p0, 0, none⟩)), (4, .int .i64 0), (5, .int .i64 x1.1)] a ∧ Stw ⟨Y, X, w0⟩ [(q_p0, [.string (bs x2), .int .i64 x3])] [] w) ?_ ?_
  ·
    have H := G1
    clear G1 K1
    refine c_seq ?_
    refine reg_list ?_
    refine ls hF hW rfl ((y_move hF rfl).q) (fun a w hF hW => ?_)
    refine ls hF hW rfl ((y_move hF rfl).q) (fun a w hF hW => ?_)
    refine ls hF hW rfl ((y_gtr hF rfl rfl).q) (fun a w hF hW => ?_)
    refine ls_nil ?_
    refine c_then ?_
    refine c_cond hF rfl (fun hb => ?_) (fun hb => ?_)
    ·
      have H := iteT (of_decide_eq_true hb) H
      rw [hb] at hF
      clear hb
      refine reg_list ?_
      refine ls hF hW rfl ((y_move hF rfl).q) (fun a w hF hW => ?_)
      refine l_callG (Ml := [(q_p0, [.string (bs x1.2.1), .int .i64 x1.2.2])]) (Zl := []) (M := []) (Z := []) (β := Unit) (rv := fun x => .tuple #[]) (MM := fun x => [(q_p0, [.string (bs ((octet_Reader_Wrong x1.2 6).1)), .int .i64 ((octet_Reader_Wrong x1.2 6).2)])]) (ZZ := fun x => []) hF hW H24 rfl rfl (fun hL => octet_Reader_Wrong_c _ _ w q_p0 x1.2 6 _ rfl hL) (fun x a w hF hW => ?_)
      have hW : Stw ⟨Y, X, w0⟩ [(q_p0, [.string (bs ((octet_Reader_Wrong x1.2 6).1)), .int .i64 ((octet_Reader_Wrong x1.2 6).2)])] [] w := hW
      refine ls_nil ?_
      refine c_then ?_
      exact ⟨_, _, H, hF.re ⟨rfl, rfl, rfl, trivial⟩, hW⟩
    ·
      have H := iteF (of_decide_eq_false hb) H
      rw [hb] at hF
      clear hb
      refine wp_skip ?_
      refine c_then ?_
      exact ⟨_, _, H, hF.re ⟨rfl, rfl, rfl, trivial⟩, hW⟩
  rintro a w ⟨x2, x3, hj, hF, hW⟩
  have hj := Option.some.inj hj
  subst hj
  have H := K1
  clear G1 K1
  refine c_seq ?_
  refine c_seq ?_
  refine reg_list ?_
  refine ls hF hW rfl ((y_move hF rfl).q) (fun a w hF hW => ?_)
  refine ls hF hW rfl (y_call (v := Value.bool (octet_Reader_Ok (x2, x3))) hF H17 rfl (fun w hW => octet_Reader_Ok_c any w q_p0 (x2, x3) _ rfl (at_M hW 0 rfl))) (fun a w hF hW => ?_)
  refine ls hF hW rfl ((y_not hF rfl).q) (fun a w hF hW => ?_)
  refine ls_nil ?_
  refine c_then ?_
  refine c_cond hF rfl (fun hb => ?_) (fun hb => ?_)
  ·
    have H := iteT hb H
    rw [hb] at hF
    clear hb
    refine c_seq ?_
    refine reg_list ?_
    refine ls hF hW rfl ((y_assign hF rfl).q) (fun a w hF hW => ?_)
    refine ls_nil ?_
    refine c_then ?_
    refine wp_ret ?_
    refine r_then ?_
    have H := Option.some.inj H
    subst H
    refine post1 (.inl rfl) hF hW rfl (rv_tmp hF rfl) ?_
    exact ⟨(), rfl, hW⟩
  ·
    have H := iteF (by rw [hb]; decide) H
    rw [hb] at hF
    clear hb
    refine wp_skip ?_
    refine c_then ?_
    refine c_seq ?_
    refine reg_list ?_
    refine ls hF hW rfl ((y_move hF rfl).q) (fun a w hF hW => ?_)
    refine ls hF hW rfl ((y_assign hF rfl).q) (fun a w hF hW => ?_)
    refine ls_nil ?_
    refine c_then ?_
    refine wp_ret ?_
    have H := Option.some.inj H
    subst H
    refine post1 (.inl rfl) hF hW rfl (rv_tmp hF rfl) ?_
    exact ⟨(), rfl, hW⟩

theorem H25 : Has Try.prog 25 := ⟨fun args w => run_callFunc_body Try.func25 rfl (by decide) args w⟩
noncomputable def r04_Reader_Count (p0 : List UInt8 × Int × Int) (p1 : Int) : Option (Int × (List UInt8 × Int × Int)) := (r04_Reader_Num p0 1).bind fun x1 => (if p1 < x1.1 then some (0, (r04_Reader_Wrong x1.2 6)) else some (x1.1, x1.2))
theorem r04_Reader_Count_c (Y : Nat → Prop) (X : List Nat) (w0 : World) (q_p0 : Nat) (p0 : List UInt8 × Int × Int) (p1 : Int) (r : Int × (List UInt8 × Int × Int)) (H : r04_Reader_Count p0 p1 = some r) (hL : Stw ⟨Y, X, w0⟩ [(q_p0, [.string (bs p0.1), .int .i64 p0.2.1, .int .i64 p0.2.2])] [] w0) :
    Calls Try.prog 31 #[.pointer (some ⟨q_p0, 0, none⟩), .int .i64 p1] w0 fun e w' => ∃ x : Unit, e = .returned (.int .i64 r.1) ∧ Stw ⟨Y, X, w0⟩ [(q_p0, [.string (bs r.2.1), .int .i64 r.2.2.1, .int .i64 r.2.2.2])] [] w' := by
  refine enter Try.func31 rfl Try.ntmps31 rfl (fun a hF => ?_)
  have hW := hL
  unfold r04_Reader_Count at H
  refine c_seq ?_
  refine reg_list ?_
  refine ls hF hW rfl ((y_assign hF rfl).q) (fun a w hF hW => ?_)
  refine ls_nil ?_
  refine c_then ?_
  refine c_seq ?_
  refine reg_list ?_
  refine ls hF hW rfl ((y_move hF rfl).q) (fun a w hF hW => ?_)
  obtain ⟨x1, h1, H⟩ := bindE H
  refine l_callG (Ml := [(q_p0, [.string (bs p0.1), .int .i64 p0.2.1, .int .i64 p0.2.2])]) (Zl := []) (M := []) (Z := []) (β := Unit) (rv := fun x => .int .i64 x1.1) (MM := fun x => [(q_p0, [.string (bs x1.2.1), .int .i64 x1.2.2.1, .int .i64 x1.2.2.2])]) (ZZ := fun x => []) hF hW H27 rfl rfl (fun hL => r04_Reader_Num_c _ _ w q_p0 p0 1 _ h1 hL) (fun x a w hF hW => ?_)
  have hW : Stw ⟨Y, X, w0⟩ [(q_p0, [.string (bs x1.2.1), .int .i64 x1.2.2.1, .int .i64 x1.2.2.2])] [] w := hW
  refine ls hF hW rfl ((y_assign hF rfl).q) (fun a w hF hW => ?_)
  refine ls_nil ?_
  refine c_then ?_
  refine c_seq ?_
  refine c_seq ?_
  refine reg_list ?_
  refine ls hF hW rfl ((y_move hF rfl).q) (fun a w hF hW => ?_)
  refine ls hF hW rfl ((y_move hF rfl).q) (fun a w hF hW => ?_)
  refine ls hF hW rfl ((y_gtr hF rfl rfl).q) (fun a w hF hW => ?_)
  refine ls_nil ?_
  refine c_then ?_
  refine c_cond hF rfl (fun hb => ?_) (fun hb => ?_)
  ·
    have H := iteT (of_decide_eq_true hb) H
    rw [hb] at hF
    clear hb
    refine c_seq ?_
    refine reg_list ?_
    refine ls hF hW rfl ((y_move hF rfl).q) (fun a w hF hW => ?_)
    refine l_callG (Ml := [(q_p0, [.string (bs x1.2.1), .int .i64 x1.2.2.1, .int .i64 x1.2.2.2])]) (Zl := []) (M := []) (Z := []) (β := Unit) (rv := fun x => .tuple #[]) (MM := fun x => [(q_p0, [.string (bs ((r04_Reader_Wrong x1.2 6).1)), .int .i64 ((r04_Reader_Wrong x1.2 6).2.1), .int .i64 ((r04_Reader_Wrong x1.2 6).2.2)])]) (ZZ := fun x => []) hF hW H32 rfl rfl (fun hL => r04_Reader_Wrong_c _ _ w q_p0 x1.2 6 _ rfl hL) (fun x a w hF hW => ?_)
    have hW : Stw ⟨Y, X, w0⟩ [(q_p0, [.string (bs ((r04_Reader_Wrong x1.2 6).1)), .int .i64 ((r04_Reader_Wrong x1.2 6).2.1), .int .i64 ((r04_Reader_Wrong x1.2 6).2.2)])] [] w := hW
    refine ls_nil ?_
    refine c_then ?_
    refine c_seq ?_
    refine reg_list ?_
    refine ls hF hW rfl ((y_assign hF rfl).q) (fun a w hF hW => ?_)
    refine ls_nil ?_
    refine c_then ?_
    refine wp_ret ?_
    refine r_then ?_
    have H := Option.some.inj H
    subst H
    refine post1 (.inl rfl) hF hW rfl (rv_tmp hF rfl) ?_
    exact ⟨(), rfl, hW⟩
  ·
    have H := iteF (of_decide_eq_false hb) H
    rw [hb] at hF
    clear hb
    refine wp_skip ?_
    refine c_then ?_
    refine c_seq ?_
    refine reg_list ?_
    refine ls hF hW rfl ((y_move hF rfl).q) (fun a w hF hW => ?_)
    refine ls hF hW rfl ((y_assign hF rfl).q) (fun a w hF hW => ?_)
    refine ls_nil ?_
    refine c_then ?_
    refine wp_ret ?_
    have H := Option.some.inj H
    subst H
    refine post1 (.inl rfl) hF hW rfl (rv_tmp hF rfl) ?_
    exact ⟨(), rfl, hW⟩

theorem H31 : Has Try.prog 31 := ⟨fun args w => run_callFunc_body Try.func31 rfl (by decide) args w⟩
noncomputable def r04_Reader_End (p0 : List UInt8 × Int × Int) : Option (Int × (List UInt8 × Int × Int)) := (if 0 < (r04_Reader_Left p0) then some 5 else some p0.2.2).bind fun x1 => some (x1, (p0.1, p0.2.1, x1))
theorem r04_Reader_End_c (Y : Nat → Prop) (X : List Nat) (w0 : World) (q_p0 : Nat) (p0 : List UInt8 × Int × Int) (r : Int × (List UInt8 × Int × Int)) (H : r04_Reader_End p0 = some r) (hL : Stw ⟨Y, X, w0⟩ [(q_p0, [.string (bs p0.1), .int .i64 p0.2.1, .int .i64 p0.2.2])] [] w0) :
    Calls Try.prog 19 #[.pointer (some ⟨q_p0, 0, none⟩)] w0 fun e w' => ∃ x : Unit, e = .returned (.int .i64 r.1) ∧ Stw ⟨Y, X, w0⟩ [(q_p0, [.string (bs r.2.1), .int .i64 r.2.2.1, .int .i64 r.2.2.2])] [] w' := by
  refine enter Try.func19 rfl Try.ntmps19 rfl (fun a hF => ?_)
  have hW := hL
  unfold r04_Reader_End at H
  refine c_seq ?_
  refine reg_list ?_
  refine ls hF hW rfl ((y_assign hF rfl).q) (fun a w hF hW => ?_)
  refine ls_nil ?_
  refine c_then ?_
  obtain ⟨o1, G1, K1⟩ := bindE H
  refine c_seqJ (fun a w => ∃ x1 : Int, some (x1) = some o1 ∧ Fr 13 [] [(0, .pointer (some ⟨q_p0, 0, none⟩)), (2, .int .i64 0)] a ∧ Stw ⟨Y, X, w0⟩ [(q_p0, [.string (bs p0.1), .int .i64 p0.2.1, .int .i64 x1])] [] w) ?_ ?_
  ·
    have H := G1
    clear G1 K1
    refine c_seq ?_
    refine reg_list ?_
    refine ls hF hW rfl ((y_move hF rfl).q) (fun a w hF hW => ?_)
    refine ls hF hW rfl (y_call (v := Value.int .i64 (r04_Reader_Left p0)) hF H16 rfl (fun w hW => r04_Reader_Left_c any w q_p0 p0 _ rfl (at_M hW 0 rfl))) (fun a w hF hW => ?_)
    refine ls hF hW rfl ((y_gtr hF rfl rfl).q) (fun a w hF hW => ?_)
    refine ls_nil ?_
    refine c_then ?_
    refine c_cond hF rfl (fun hb => ?_) (fun hb => ?_)
    ·
      have H := iteT (of_decide_eq_true hb) H
      rw [hb] at hF
      clear hb
      refine reg_list ?_
      refine ls hF hW rfl ((y_move hF rfl).q) (fun a w hF hW => ?_)
      refine ls hF hW rfl ((y_nilCheck hF rfl).q) (fun a w hF hW => ?_)
      refine ls hF hW rfl ((y_fieldAddr Try.underlying32 rfl rfl rfl T3 hF rfl 2 rfl).q) (fun a w hF hW => ?_)
      refine l_store (vs := [.int .i64 5]) (M' := [(q_p0, [.string (bs p0.1), .int .i64 p0.2.1, .int .i64 5])]) 0 hF hW rfl rfl rfl T3 rfl rfl rfl rfl rfl (fun w hW => ?_)
      refine ls_nil ?_
      refine c_then ?_
      exact ⟨_, H, hF.re ⟨rfl, rfl, trivial⟩, hW⟩
    ·
      have H := iteF (of_decide_eq_false hb) H
      rw [hb] at hF
      clear hb
      refine wp_skip ?_
      refine c_then ?_
      exact ⟨_, H, hF.re ⟨rfl, rfl, trivial⟩, hW⟩
  rintro a w ⟨x1, hj, hF, hW⟩
  have hj := Option.some.inj hj
  subst hj
  have H := K1
  clear G1 K1
  refine c_seq ?_
  refine reg_list ?_
  refine ls hF hW rfl ((y_move hF rfl).q) (fun a w hF hW => ?_)
  refine ls hF hW rfl ((y_nilCheck hF rfl).q) (fun a w hF hW => ?_)
  refine ls hF hW rfl ((y_fieldAddr Try.underlying32 rfl rfl rfl T3 hF rfl 2 rfl).q) (fun a w hF hW => ?_)
  refine ls hF hW rfl ((y_load (v := Value.int .i64 x1) 0 hF rfl rfl T3 rfl).q) (fun a w hF hW => ?_)
  refine ls hF hW rfl ((y_assign hF rfl).q) (fun a w hF hW => ?_)
  refine ls_nil ?_
  refine c_then ?_
  refine wp_ret ?_
  have H := Option.some.inj H
  subst H
  refine post1 (.inl rfl) hF hW rfl (rv_tmp hF rfl) ?_
  exact ⟨(), rfl, hW⟩

theorem H19 : Has Try.prog 19 := ⟨fun args w => run_callFunc_body Try.func19 rfl (by decide) args w⟩
noncomputable def L04_does (p0 : List UInt8 × Int) (p1 : List UInt8 × Int × Int) (p2 : Int × Int) : Option (Bool × (List UInt8 × Int) × (List UInt8 × Int × Int)) := orR ((if p2.1 = 0 then some true else some (decide (p2.1 = 1))).bind fun x6 => (if x6 = true then (octet_Reader_Num p0 p2.2).bind fun x7 => (r04_Reader_Num p1 p2.2).bind fun x8 => some (.inr (decide (x7.1 = x8.1), x7.2, x8.2)) else (if p2.1 = 2 then (octet_Reader_Int p0).bind fun x9 => (r04_Reader_Int p1).bind fun x10 => some (.inr (decide (x9.1 = x10.1), x9.2, x10.2)) else (if p2.1 = 3 then (octet_Reader_Flag p0).bind fun x11 => (r04_Reader_Flag p1).bind fun x12 => some (.inr (decide (x11.1 = x12.1), x11.2, x12.2)) else (if p2.1 = 4 then (octet_Reader_Take p0 p2.2).bind fun x13 => (r04_Reader_Take p1 p2.2).bind fun x14 => some (.inr (decide (x13.1 = x14.1), x13.2, x14.2)) else (if p2.1 = 5 then (octet_Reader_Count p0 p2.2).bind fun x15 => (r04_Reader_Count p1 p2.2).bind fun x16 => some (.inr (decide (x15.1 = x16.1), x15.2, x16.2)) else (if p2.1 = 6 then (if (decide (1 ≤ p2.2) && decide (p2.2 ≤ 17)) = true then some (.inl ((octet_Reader_Wrong p0 p2.2).1, (octet_Reader_Wrong p0 p2.2).2, (r04_Reader_Wrong p1 p2.2).1, (r04_Reader_Wrong p1 p2.2).2.1, (r04_Reader_Wrong p1 p2.2).2.2)) else some (.inl (p0.1, p0.2, p1.1, p1.2.1, p1.2.2))) else (if p2.1 = 7 then (octet_Reader_End p0).bind fun x17 => (r04_Reader_End p1).bind fun x18 => some (.inr (decide (x17.1 = x18.1), x17.2, x18.2)) else some (.inr (true, p0, p1)))))))))) fun (x1, x2, x3, x4, x5) => some (true, (x1, x2), (x3, x4, x5))
theorem L04_does_c (Y : Nat → Prop) (X : List Nat) (w0 : World) (q_p0 : Nat) (q_p1 : Nat) (p0 : List UInt8 × Int) (p1 : List UInt8 × Int × Int) (p2 : Int × Int) (r : Bool × (List UInt8 × Int) × (List UInt8 × Int × Int)) (H : L04_does p0 p1 p2 = some r) (hL : Stw ⟨Y, X, w0⟩ [(q_p0, [.string (bs p0.1), .int .i64 p0.2]), (q_p1, [.string (bs p1.1), .int .i64 p1.2.1, .int .i64 p1.2.2])] [] w0) :
    Calls Try.prog 14 #[.pointer (some ⟨q_p0, 0, none⟩), .pointer (some ⟨q_p1, 0, none⟩), .agg #[.int .i64 p2.1, .int .i64 p2.2]] w0 fun e w' => ∃ x : Unit, e = .returned (.bool r.1) ∧ Stw ⟨Y, X, w0⟩ [(q_p0, [.string (bs r.2.1.1), .int .i64 r.2.1.2]), (q_p1, [.string (bs r.2.2.1), .int .i64 r.2.2.2.1, .int .i64 r.2.2.2.2])] [] w' := by
  refine enter Try.func14 rfl Try.ntmps14 rfl (fun a hF => ?_)
  have hW := hL
  unfold L04_does at H
  refine c_seq ?_
  refine reg_list ?_
  refine l_box (cs := [.int .i64 p2.1, .int .i64 p2.2]) hF hW rfl rfl rfl (fun b1 a w hF hW => ?_)
  refine ls hF hW rfl ((y_assign hF rfl).q) (fun a w hF hW => ?_)
  refine ls_nil ?_
  refine c_then ?_
  obtain ⟨o1, G1, K1, L1⟩ := orE H
  refine c_seqJ (fun a w => ∃ x1 : List UInt8, ∃ x2 : Int, ∃ x3 : List UInt8, ∃ x4 : Int, ∃ x5 : Int, some (Sum.inl (x1, x2, x3, x4, x5)) = some o1 ∧ Fr 82 [] [(6, .bool false)] a ∧ Stw ⟨Y, X, w0⟩ [(b1, [.int .i64 p2.1, .int .i64 p2.2]), (q_p0, [.string (bs x1), .int .i64 x2]), (q_p1, [.string (bs x3), .int .i64 x4, .int .i64 x5])] [] w) ?_ ?_
  ·
    have H := G1
    clear G1 K1
    refine c_seq ?_
    refine reg_list ?_
    refine ls hF hW rfl ((y_fieldAddr Try.underlying35 rfl rfl rfl T3 hF rfl 0 rfl).q) (fun a w hF hW => ?_)
    refine ls hF hW rfl ((y_load (v := Value.int .i64 p2.1) 0 hF rfl rfl T3 rfl).q) (fun a w hF hW => ?_)
    refine ls_nil ?_
    refine c_then ?_
    refine wp_block ?_
    obtain ⟨o2, G2, K2⟩ := bindE H
    refine c_seqJ (fun a w => ∃ x6 : Bool, some (x6) = some o2 ∧ Fr 82 [] [(0, .pointer (some ⟨q_p0, 0, none⟩)), (1, .pointer (some ⟨q_p1, 0, none⟩)), (5, .pointer (some ⟨b1, 0, none⟩)), (6, .bool false), (8, .int .i64 p2.1), (9, .bool x6)] a ∧ Stw ⟨Y, X, w0⟩ [(b1, [.int .i64 p2.1, .int .i64 p2.2]), (q_p0, [.string (bs p0.1), .int .i64 p0.2]), (q_p1, [.string (bs p1.1), .int .i64 p1.2.1, .int .i64 p1.2.2])] [] w) ?_ ?_
    ·
      have H := G2
      clear G2 K2
      refine c_seq ?_
      refine reg_list ?_
      refine ls hF hW rfl ((y_eql hF rfl rfl).q) (fun a w hF hW => ?_)
      refine ls hF hW rfl ((y_assign hF rfl).q) (fun a w hF hW => ?_)
      refine ls_nil ?_
      refine c_then ?_
      refine c_cond hF rfl (fun hb => ?_) (fun hb => ?_)
      ·
        have H := iteT (of_decide_eq_true hb) H
        rw [hb] at hF
        clear hb
        refine wp_skip ?_
        refine c_then ?_
        have hW := hW.frontM (i := 2) rfl rfl
        have hW := hW.frontM (i := 2) rfl rfl
        have hW := hW.frontM (i := 2) rfl rfl
        exact ⟨_, H, hF.re ⟨rfl, rfl, rfl, rfl, rfl, rfl, trivial⟩, hW⟩
      ·
        have H := iteF (of_decide_eq_false hb) H
        rw [hb] at hF
        clear hb
        refine reg_list ?_
        refine ls hF hW rfl ((y_eql hF rfl rfl).q) (fun a w hF hW => ?_)
        refine ls hF hW rfl ((y_assign hF rfl).q) (fun a w hF hW => ?_)
        refine ls_nil ?_
        refine c_then ?_
        have hW := hW.frontM (i := 2) rfl rfl
        have hW := hW.frontM (i := 2) rfl rfl
        have hW := hW.frontM (i := 2) rfl rfl
        exact ⟨_, H, hF.re ⟨rfl, rfl, rfl, rfl, rfl, rfl, trivial⟩, hW⟩
    rintro a w ⟨x6, hj, hF, hW⟩
    have hj := Option.some.inj hj
    subst hj
    have H := K2
    clear G2 K2
    refine c_cond hF rfl (fun hb => ?_) (fun hb => ?_)
    ·
      have H := iteT hb H
      rw [hb] at hF
      clear hb
      refine c_seq ?_
      refine reg_plan [(true, 0), (true, 1), (true, 2), (true, 4), (true, 5), (true, 6), (false, 3), (false, 7), (true, 8), (false, 9)] (CN ⟨Y, X, w0⟩ [(b1, [.int .i64 p2.1, .int .i64 p2.2])] []) (fun ch a d v w h => by cases d <;> exact h) MO (by kernel_rfl) hW (fun w hW => ⟨_, _, hW, (by intro p h; simp only [List.nil_append, List.append_nil, List.cons_append, List.mem_cons, List.not_mem_nil, or_false] at h; subst h; simp), (fun z h => nomatch h)⟩) (fun w hW => ?_)
      refine pl_t hF rfl rfl (yC fun M Z hN hZ => y_move hF rfl) (fun a hF => ?_)
      refine pl_t hF rfl rfl (yC fun M Z hN hZ => y_fieldAddr Try.underlying35 rfl rfl rfl T3 hF rfl 1 rfl) (fun a hF => ?_)
      refine pl_t hF rfl rfl (yC fun M Z hN hZ => y_load_m (cs := [.int .i64 p2.1, .int .i64 p2.2]) (v := Value.int .i64 p2.2) hF rfl (hN _ (.head _)) T3 rfl) (fun a hF => ?_)
      refine pl_t hF rfl rfl (yC fun M Z hN hZ => y_move hF rfl) (fun a hF => ?_)
      refine pl_t hF rfl rfl (yC fun M Z hN hZ => y_fieldAddr Try.underlying35 rfl rfl rfl T3 hF rfl 1 rfl) (fun a hF => ?_)
      refine pl_t hF rfl rfl (yC fun M Z hN hZ => y_load_m (cs := [.int .i64 p2.1, .int .i64 p2.2]) (v := Value.int .i64 p2.2) hF rfl (hN _ (.head _)) T3 rfl) (fun a hF => ?_)
      refine pl_f rfl ?_
      obtain ⟨x7, h1, H⟩ := bindE H
      have hW := hW.frontM (i := 1) rfl rfl
      refine l_callG (Ml := [(q_p0, [.string (bs p0.1), .int .i64 p0.2])]) (Zl := []) (M := [(b1, [.int .i64 p2.1, .int .i64 p2.2]), (q_p1, [.string (bs p1.1), .int .i64 p1.2.1, .int .i64 p1.2.2])]) (Z := []) (β := Unit) (rv := fun x => .int .i64 x7.1) (MM := fun x => [(q_p0, [.string (bs x7.2.1), .int .i64 x7.2.2])]) (ZZ := fun x => []) hF hW H20 rfl rfl (fun hL => octet_Reader_Num_c _ _ w q_p0 p0 p2.2 _ h1 hL) (fun x a w hF hW => ?_)
      have hW : Stw ⟨Y, X, w0⟩ [(q_p0, [.string (bs x7.2.1), .int .i64 x7.2.2]), (b1, [.int .i64 p2.1, .int .i64 p2.2]), (q_p1, [.string (bs p1.1), .int .i64 p1.2.1, .int .i64 p1.2.2])] [] w := hW
      refine pl_next (N2 := []) (NZ2 := []) hW (by intro p h; simp only [List.nil_append, List.append_nil, List.cons_append, List.mem_cons, List.not_mem_nil, or_false] at h; subst h; simp) (fun z h => nomatch h) ?_
      refine pl_f rfl ?_
      obtain ⟨x8, h2, H⟩ := bindE H
      have hW := hW.frontM (i := 2) rfl rfl
      refine l_callG (Ml := [(q_p1, [.string (bs p1.1), .int .i64 p1.2.1, .int .i64 p1.2.2])]) (Zl := []) (M := [(q_p0, [.string (bs x7.2.1), .int .i64 x7.2.2]), (b1, [.int .i64 p2.1, .int .i64 p2.2])]) (Z := []) (β := Unit) (rv := fun x => .int .i64 x8.1) (MM := fun x => [(q_p1, [.string (bs x8.2.1), .int .i64 x8.2.2.1, .int .i64 x8.2.2.2])]) (ZZ := fun x => []) hF hW H27 rfl rfl (fun hL => r04_Reader_Num_c _ _ w q_p1 p1 p2.2 _ h2 hL) (fun x a w hF hW => ?_)
      have hW : Stw ⟨Y, X, w0⟩ [(q_p1, [.string (bs x8.2.1), .int .i64 x8.2.2.1, .int .i64 x8.2.2.2]), (q_p0, [.string (bs x7.2.1), .int .i64 x7.2.2]), (b1, [.int .i64 p2.1, .int .i64 p2.2])] [] w := hW
      refine pl_next (N2 := []) (NZ2 := []) hW (by intro p h; simp only [List.nil_append, List.append_nil, List.cons_append, List.mem_cons, List.not_mem_nil, or_false] at h; subst h; simp) (fun z h => nomatch h) ?_
      refine pl_t hF rfl rfl (yC fun M Z hN hZ => y_eql hF rfl rfl) (fun a hF => ?_)
      refine pl_f rfl ?_
      refine ls hF hW rfl ((y_assign hF rfl).q) (fun a w hF hW => ?_)
      refine pl_next (N2 := []) (NZ2 := []) hW (by intro p h; simp only [List.nil_append, List.append_nil, List.cons_append, List.mem_cons, List.not_mem_nil, or_false] at h; subst h; simp) (fun z h => nomatch h) ?_
      refine pl_end ?_
      refine c_then ?_
      refine wp_ret ?_
      refine r_block ?_
      refine r_then ?_
      have H := L1 _ H
      have H := Option.some.inj H
      subst H
      refine post1 (.inl rfl) hF hW rfl (rv_tmp hF rfl) ?_
      have hW := hW.frontM (i := 1) rfl rfl
      have hW := hW.sub (M' := [(q_p0, [.string (bs x7.2.1), .int .i64 x7.2.2]), (q_p1, [.string (bs x8.2.1), .int .i64 x8.2.2.1, .int .i64 x8.2.2.2])]) (Z' := []) (List.Sublist.cons_cons _ (List.Sublist.cons_cons _ (List.nil_sublist _))) (List.Sublist.refl _)
      exact ⟨(), rfl, hW⟩
    ·
      have H := iteF (by rw [hb]; decide) H
      rw [hb] at hF
      clear hb
      refine c_seq ?_
      refine reg_list ?_
      refine ls hF hW rfl ((y_eql hF rfl rfl).q) (fun a w hF hW => ?_)
      refine ls hF hW rfl ((y_assign hF rfl).q) (fun a w hF hW => ?_)
      refine ls_nil ?_
      refine c_then ?_
      refine c_cond hF rfl (fun hb => ?_) (fun hb => ?_)
      ·
        have H := iteT (of_decide_eq_true hb) H
        rw [hb] at hF
        clear hb
        refine c_seq ?_
        refine reg_list ?_
        refine ls hF hW rfl ((y_move hF rfl).q) (fun a w hF hW => ?_)
        obtain ⟨x9, h3, H⟩ := bindE H
        have hW := hW.frontM (i := 1) rfl rfl
        refine l_callG (Ml := [(q_p0, [.string (bs p0.1), .int .i64 p0.2])]) (Zl := []) (M := [(b1, [.int .i64 p2.1, .int .i64 p2.2]), (q_p1, [.string (bs p1.1), .int .i64 p1.2.1, .int .i64 p1.2.2])]) (Z := []) (β := Unit) (rv := fun x => .int .i64 x9.1) (MM := fun x => [(q_p0, [.string (bs x9.2.1), .int .i64 x9.2.2])]) (ZZ := fun x => []) hF hW H21 rfl rfl (fun hL => octet_Reader_Int_c _ _ w q_p0 p0 _ h3 hL) (fun x a w hF hW => ?_)
        have hW : Stw ⟨Y, X, w0⟩ [(q_p0, [.string (bs x9.2.1), .int .i64 x9.2.2]), (b1, [.int .i64 p2.1, .int .i64 p2.2]), (q_p1, [.string (bs p1.1), .int .i64 p1.2.1, .int .i64 p1.2.2])] [] w := hW
        refine ls hF hW rfl ((y_move hF rfl).q) (fun a w hF hW => ?_)
        obtain ⟨x10, h4, H⟩ := bindE H
        have hW := hW.frontM (i := 2) rfl rfl
        refine l_callG (Ml := [(q_p1, [.string (bs p1.1), .int .i64 p1.2.1, .int .i64 p1.2.2])]) (Zl := []) (M := [(q_p0, [.string (bs x9.2.1), .int .i64 x9.2.2]), (b1, [.int .i64 p2.1, .int .i64 p2.2])]) (Z := []) (β := Unit) (rv := fun x => .int .i64 x10.1) (MM := fun x => [(q_p1, [.string (bs x10.2.1), .int .i64 x10.2.2.1, .int .i64 x10.2.2.2])]) (ZZ := fun x => []) hF hW H28 rfl rfl (fun hL => r04_Reader_Int_c _ _ w q_p1 p1 _ h4 hL) (fun x a w hF hW => ?_)
        have hW : Stw ⟨Y, X, w0⟩ [(q_p1, [.string (bs x10.2.1), .int .i64 x10.2.2.1, .int .i64 x10.2.2.2]), (q_p0, [.string (bs x9.2.1), .int .i64 x9.2.2]), (b1, [.int .i64 p2.1, .int .i64 p2.2])] [] w := hW
        refine ls hF hW rfl ((y_eql hF rfl rfl).q) (fun a w hF hW => ?_)
        refine ls hF hW rfl ((y_assign hF rfl).q) (fun a w hF hW => ?_)
        refine ls_nil ?_
        refine c_then ?_
        refine wp_ret ?_
        refine r_block ?_
        refine r_then ?_
        have H := L1 _ H
        have H := Option.some.inj H
        subst H
        refine post1 (.inl rfl) hF hW rfl (rv_tmp hF rfl) ?_
        have hW := hW.frontM (i := 1) rfl rfl
        have hW := hW.sub (M' := [(q_p0, [.string (bs x9.2.1), .int .i64 x9.2.2]), (q_p1, [.string (bs x10.2.1), .int .i64 x10.2.2.1, .int .i64 x10.2.2.2])]) (Z' := []) (List.Sublist.cons_cons _ (List.Sublist.cons_cons _ (List.nil_sublist _))) (List.Sublist.refl _)
        exact ⟨(), rfl, hW⟩
      ·
        have H := iteF (of_decide_eq_false hb) H
        rw [hb] at hF
        clear hb
        refine c_seq ?_
        refine reg_list ?_
        refine ls hF hW rfl ((y_eql hF rfl rfl).q) (fun a w hF hW => ?_)
        refine ls hF hW rfl ((y_assign hF rfl).q) (fun a w hF hW => ?_)
        refine ls_nil ?_
        refine c_then ?_
        refine c_cond hF rfl (fun hb => ?_) (fun hb => ?_)
        ·
          have H := iteT (of_decide_eq_true hb) H
          rw [hb] at hF
          clear hb
          refine c_seq ?_
          refine reg_list ?_
          refine ls hF hW rfl ((y_move hF rfl).q) (fun a w hF hW => ?_)
          obtain ⟨x11, h5, H⟩ := bindE H
          have hW := hW.frontM (i := 1) rfl rfl
          refine l_callG (Ml := [(q_p0, [.string (bs p0.1), .int .i64 p0.2])]) (Zl := []) (M := [(b1, [.int .i64 p2.1, .int .i64 p2.2]), (q_p1, [.string (bs p1.1), .int .i64 p1.2.1, .int .i64 p1.2.2])]) (Z := []) (β := Unit) (rv := fun x => .bool x11.1) (MM := fun x => [(q_p0, [.string (bs x11.2.1), .int .i64 x11.2.2])]) (ZZ := fun x => []) hF hW H22 rfl rfl (fun hL => octet_Reader_Flag_c _ _ w q_p0 p0 _ h5 hL) (fun x a w hF hW => ?_)
          have hW : Stw ⟨Y, X, w0⟩ [(q_p0, [.string (bs x11.2.1), .int .i64 x11.2.2]), (b1, [.int .i64 p2.1, .int .i64 p2.2]), (q_p1, [.string (bs p1.1), .int .i64 p1.2.1, .int .i64 p1.2.2])] [] w := hW
          refine ls hF hW rfl ((y_move hF rfl).q) (fun a w hF hW => ?_)
          obtain ⟨x12, h6, H⟩ := bindE H
          have hW := hW.frontM (i := 2) rfl rfl
          refine l_callG (Ml := [(q_p1, [.string (bs p1.1), .int .i64 p1.2.1, .int .i64 p1.2.2])]) (Zl := []) (M := [(q_p0, [.string (bs x11.2.1), .int .i64 x11.2.2]), (b1, [.int .i64 p2.1, .int .i64 p2.2])]) (Z := []) (β := Unit) (rv := fun x => .bool x12.1) (MM := fun x => [(q_p1, [.string (bs x12.2.1), .int .i64 x12.2.2.1, .int .i64 x12.2.2.2])]) (ZZ := fun x => []) hF hW H29 rfl rfl (fun hL => r04_Reader_Flag_c _ _ w q_p1 p1 _ h6 hL) (fun x a w hF hW => ?_)
          have hW : Stw ⟨Y, X, w0⟩ [(q_p1, [.string (bs x12.2.1), .int .i64 x12.2.2.1, .int .i64 x12.2.2.2]), (q_p0, [.string (bs x11.2.1), .int .i64 x11.2.2]), (b1, [.int .i64 p2.1, .int .i64 p2.2])] [] w := hW
          refine ls hF hW rfl ((y_eqb Try.underlying4 hF rfl rfl).q) (fun a w hF hW => ?_)
          refine ls hF hW rfl ((y_assign hF rfl).q) (fun a w hF hW => ?_)
          refine ls_nil ?_
          refine c_then ?_
          refine wp_ret ?_
          refine r_block ?_
          refine r_then ?_
          have H := L1 _ H
          have H := Option.some.inj H
          subst H
          refine post1 (.inl rfl) hF hW rfl (rv_tmp hF rfl) ?_
          have hW := hW.frontM (i := 1) rfl rfl
          have hW := hW.sub (M' := [(q_p0, [.string (bs x11.2.1), .int .i64 x11.2.2]), (q_p1, [.string (bs x12.2.1), .int .i64 x12.2.2.1, .int .i64 x12.2.2.2])]) (Z' := []) (List.Sublist.cons_cons _ (List.Sublist.cons_cons _ (List.nil_sublist _))) (List.Sublist.refl _)
          exact ⟨(), rfl, hW⟩
        ·
          have H := iteF (of_decide_eq_false hb) H
          rw [hb] at hF
          clear hb
          refine c_seq ?_
          refine reg_list ?_
          refine ls hF hW rfl ((y_eql hF rfl rfl).q) (fun a w hF hW => ?_)
          refine ls hF hW rfl ((y_assign hF rfl).q) (fun a w hF hW => ?_)
          refine ls_nil ?_
          refine c_then ?_
          refine c_cond hF rfl (fun hb => ?_) (fun hb => ?_)
          ·
            have H := iteT (of_decide_eq_true hb) H
            rw [hb] at hF
            clear hb
            refine c_seq ?_
            refine reg_plan [(true, 0), (true, 1), (true, 2), (true, 4), (true, 5), (true, 6), (false, 3), (false, 7), (true, 8), (false, 9)] (CN ⟨Y, X, w0⟩ [(b1, [.int .i64 p2.1, .int .i64 p2.2])] []) (fun ch a d v w h => by cases d <;> exact h) MO (by kernel_rfl) hW (fun w hW => ⟨_, _, hW, (by intro p h; simp only [List.nil_append, List.append_nil, List.cons_append, List.mem_cons, List.not_mem_nil, or_false] at h; subst h; simp), (fun z h => nomatch h)⟩) (fun w hW => ?_)
            refine pl_t hF rfl rfl (yC fun M Z hN hZ => y_move hF rfl) (fun a hF => ?_)
            refine pl_t hF rfl rfl (yC fun M Z hN hZ => y_fieldAddr Try.underlying35 rfl rfl rfl T3 hF rfl 1 rfl) (fun a hF => ?_)
            refine pl_t hF rfl rfl (yC fun M Z hN hZ => y_load_m (cs := [.int .i64 p2.1, .int .i64 p2.2]) (v := Value.int .i64 p2.2) hF rfl (hN _ (.head _)) T3 rfl) (fun a hF => ?_)
            refine pl_t hF rfl rfl (yC fun M Z hN hZ => y_move hF rfl) (fun a hF => ?_)
            refine pl_t hF rfl rfl (yC fun M Z hN hZ => y_fieldAddr Try.underlying35 rfl rfl rfl T3 hF rfl 1 rfl) (fun a hF => ?_)
            refine pl_t hF rfl rfl (yC fun M Z hN hZ => y_load_m (cs := [.int .i64 p2.1, .int .i64 p2.2]) (v := Value.int .i64 p2.2) hF rfl (hN _ (.head _)) T3 rfl) (fun a hF => ?_)
            refine pl_f rfl ?_
            obtain ⟨x13, h7, H⟩ := bindE H
            have hW := hW.frontM (i := 1) rfl rfl
            refine l_callG (Ml := [(q_p0, [.string (bs p0.1), .int .i64 p0.2])]) (Zl := []) (M := [(b1, [.int .i64 p2.1, .int .i64 p2.2]), (q_p1, [.string (bs p1.1), .int .i64 p1.2.1, .int .i64 p1.2.2])]) (Z := []) (β := Unit) (rv := fun x => .string (bs x13.1)) (MM := fun x => [(q_p0, [.string (bs x13.2.1), .int .i64 x13.2.2])]) (ZZ := fun x => []) hF hW H23 rfl rfl (fun hL => octet_Reader_Take_c _ _ w q_p0 p0 p2.2 _ h7 hL) (fun x a w hF hW => ?_)
            have hW : Stw ⟨Y, X, w0⟩ [(q_p0, [.string (bs x13.2.1), .int .i64 x13.2.2]), (b1, [.int .i64 p2.1, .int .i64 p2.2]), (q_p1, [.string (bs p1.1), .int .i64 p1.2.1, .int .i64 p1.2.2])] [] w := hW
            refine pl_next (N2 := []) (NZ2 := []) hW (by intro p h; simp only [List.nil_append, List.append_nil, List.cons_append, List.mem_cons, List.not_mem_nil, or_false] at h; subst h; simp) (fun z h => nomatch h) ?_
            refine pl_f rfl ?_
            obtain ⟨x14, h8, H⟩ := bindE H
            have hW := hW.frontM (i := 2) rfl rfl
            refine l_callG (Ml := [(q_p1, [.string (bs p1.1), .int .i64 p1.2.1, .int .i64 p1.2.2])]) (Zl := []) (M := [(q_p0, [.string (bs x13.2.1), .int .i64 x13.2.2]), (b1, [.int .i64 p2.1, .int .i64 p2.2])]) (Z := []) (β := Unit) (rv := fun x => .string (bs x14.1)) (MM := fun x => [(q_p1, [.string (bs x14.2.1), .int .i64 x14.2.2.1, .int .i64 x14.2.2.2])]) (ZZ := fun x => []) hF hW H30 rfl rfl (fun hL => r04_Reader_Take_c _ _ w q_p1 p1 p2.2 _ h8 hL) (fun x a w hF hW => ?_)
            have hW : Stw ⟨Y, X, w0⟩ [(q_p1, [.string (bs x14.2.1), .int .i64 x14.2.2.1, .int .i64 x14.2.2.2]), (q_p0, [.string (bs x13.2.1), .int .i64 x13.2.2]), (b1, [.int .i64 p2.1, .int .i64 p2.2])] [] w := hW
            refine pl_next (N2 := []) (NZ2 := []) hW (by intro p h; simp only [List.nil_append, List.append_nil, List.cons_append, List.mem_cons, List.not_mem_nil, or_false] at h; subst h; simp) (fun z h => nomatch h) ?_
            refine pl_t hF rfl rfl (yC fun M Z hN hZ => y_seq (l := x13.1) (m := x14.1) hF rfl rfl) (fun a hF => ?_)
            refine pl_f rfl ?_
            refine ls hF hW rfl ((y_assign hF rfl).q) (fun a w hF hW => ?_)
            refine pl_next (N2 := []) (NZ2 := []) hW (by intro p h; simp only [List.nil_append, List.append_nil, List.cons_append, List.mem_cons, List.not_mem_nil, or_false] at h; subst h; simp) (fun z h => nomatch h) ?_
            refine pl_end ?_
            refine c_then ?_
            refine wp_ret ?_
            refine r_block ?_
            refine r_then ?_
            have H := L1 _ H
            have H := Option.some.inj H
            subst H
            refine post1 (.inl rfl) hF hW rfl (rv_tmp hF rfl) ?_
            have hW := hW.frontM (i := 1) rfl rfl
            have hW := hW.sub (M' := [(q_p0, [.string (bs x13.2.1), .int .i64 x13.2.2]), (q_p1, [.string (bs x14.2.1), .int .i64 x14.2.2.1, .int .i64 x14.2.2.2])]) (Z' := []) (List.Sublist.cons_cons _ (List.Sublist.cons_cons _ (List.nil_sublist _))) (List.Sublist.refl _)
            exact ⟨(), rfl, hW⟩
          ·
            have H := iteF (of_decide_eq_false hb) H
            rw [hb] at hF
            clear hb
            refine c_seq ?_
            refine reg_list ?_
            refine ls hF hW rfl ((y_eql hF rfl rfl).q) (fun a w hF hW => ?_)
            refine ls hF hW rfl ((y_assign hF rfl).q) (fun a w hF hW => ?_)
            refine ls_nil ?_
            refine c_then ?_
            refine c_cond hF rfl (fun hb => ?_) (fun hb => ?_)
            ·
              have H := iteT (of_decide_eq_true hb) H
              rw [hb] at hF
              clear hb
              refine c_seq ?_
              refine reg_plan [(true, 0), (true, 1), (true, 2), (true, 4), (true, 5), (true, 6), (false, 3), (false, 7), (true, 8), (false, 9)] (CN ⟨Y, X, w0⟩ [(b1, [.int .i64 p2.1, .int .i64 p2.2])] []) (fun ch a d v w h => by cases d <;> exact h) MO (by kernel_rfl) hW (fun w hW => ⟨_, _, hW, (by intro p h; simp only [List.nil_append, List.append_nil, List.cons_append, List.mem_cons, List.not_mem_nil, or_false] at h; subst h; simp), (fun z h => nomatch h)⟩) (fun w hW => ?_)
              refine pl_t hF rfl rfl (yC fun M Z hN hZ => y_move hF rfl) (fun a hF => ?_)
              refine pl_t hF rfl rfl (yC fun M Z hN hZ => y_fieldAddr Try.underlying35 rfl rfl rfl T3 hF rfl 1 rfl) (fun a hF => ?_)
              refine pl_t hF rfl rfl (yC fun M Z hN hZ => y_load_m (cs := [.int .i64 p2.1, .int .i64 p2.2]) (v := Value.int .i64 p2.2) hF rfl (hN _ (.head _)) T3 rfl) (fun a hF => ?_)
              refine pl_t hF rfl rfl (yC fun M Z hN hZ => y_move hF rfl) (fun a hF => ?_)
              refine pl_t hF rfl rfl (yC fun M Z hN hZ => y_fieldAddr Try.underlying35 rfl rfl rfl T3 hF rfl 1 rfl) (fun a hF => ?_)
              refine pl_t hF rfl rfl (yC fun M Z hN hZ => y_load_m (cs := [.int .i64 p2.1, .int .i64 p2.2]) (v := Value.int .i64 p2.2) hF rfl (hN _ (.head _)) T3 rfl) (fun a hF => ?_)
              refine pl_f rfl ?_
              obtain ⟨x15, h9, H⟩ := bindE H
              have hW := hW.frontM (i := 1) rfl rfl
              refine l_callG (Ml := [(q_p0, [.string (bs p0.1), .int .i64 p0.2])]) (Zl := []) (M := [(b1, [.int .i64 p2.1, .int .i64 p2.2]), (q_p1, [.string (bs p1.1), .int .i64 p1.2.1, .int .i64 p1.2.2])]) (Z := []) (β := Unit) (rv := fun x => .int .i64 x15.1) (MM := fun x => [(q_p0, [.string (bs x15.2.1), .int .i64 x15.2.2])]) (ZZ := fun x => []) hF hW H25 rfl rfl (fun hL => octet_Reader_Count_c _ _ w q_p0 p0 p2.2 _ h9 hL) (fun x a w hF hW => ?_)
              have hW : Stw ⟨Y, X, w0⟩ [(q_p0, [.string (bs x15.2.1), .int .i64 x15.2.2]), (b1, [.int .i64 p2.1, .int .i64 p2.2]), (q_p1, [.string (bs p1.1), .int .i64 p1.2.1, .int .i64 p1.2.2])] [] w := hW
              refine pl_next (N2 := []) (NZ2 := []) hW (by intro p h; simp only [List.nil_append, List.append_nil, List.cons_append, List.mem_cons, List.not_mem_nil, or_false] at h; subst h; simp) (fun z h => nomatch h) ?_
              refine pl_f rfl ?_
              obtain ⟨x16, h10, H⟩ := bindE H
              have hW := hW.frontM (i := 2) rfl rfl
              refine l_callG (Ml := [(q_p1, [.string (bs p1.1), .int .i64 p1.2.1, .int .i64 p1.2.2])]) (Zl := []) (M := [(q_p0, [.string (bs x15.2.1), .int .i64 x15.2.2]), (b1, [.int .i64 p2.1, .int .i64 p2.2])]) (Z := []) (β := Unit) (rv := fun x => .int .i64 x16.1) (MM := fun x => [(q_p1, [.string (bs x16.2.1), .int .i64 x16.2.2.1, .int .i64 x16.2.2.2])]) (ZZ := fun x => []) hF hW H31 rfl rfl (fun hL => r04_Reader_Count_c _ _ w q_p1 p1 p2.2 _ h10 hL) (fun x a w hF hW => ?_)
              have hW : Stw ⟨Y, X, w0⟩ [(q_p1, [.string (bs x16.2.1), .int .i64 x16.2.2.1, .int .i64 x16.2.2.2]), (q_p0, [.string (bs x15.2.1), .int .i64 x15.2.2]), (b1, [.int .i64 p2.1, .int .i64 p2.2])] [] w := hW
              refine pl_next (N2 := []) (NZ2 := []) hW (by intro p h; simp only [List.nil_append, List.append_nil, List.cons_append, List.mem_cons, List.not_mem_nil, or_false] at h; subst h; simp) (fun z h => nomatch h) ?_
              refine pl_t hF rfl rfl (yC fun M Z hN hZ => y_eql hF rfl rfl) (fun a hF => ?_)
              refine pl_f rfl ?_
              refine ls hF hW rfl ((y_assign hF rfl).q) (fun a w hF hW => ?_)
              refine pl_next (N2 := []) (NZ2 := []) hW (by intro p h; simp only [List.nil_append, List.append_nil, List.cons_append, List.mem_cons, List.not_mem_nil, or_false] at h; subst h; simp) (fun z h => nomatch h) ?_
              refine pl_end ?_
              refine c_then ?_
              refine wp_ret ?_
              refine r_block ?_
              refine r_then ?_
              have H := L1 _ H
              have H := Option.some.inj H
              subst H
              refine post1 (.inl rfl) hF hW rfl (rv_tmp hF rfl) ?_
              have hW := hW.frontM (i := 1) rfl rfl
              have hW := hW.sub (M' := [(q_p0, [.string (bs x15.2.1), .int .i64 x15.2.2]), (q_p1, [.string (bs x16.2.1), .int .i64 x16.2.2.1, .int .i64 x16.2.2.2])]) (Z' := []) (List.Sublist.cons_cons _ (List.Sublist.cons_cons _ (List.nil_sublist _))) (List.Sublist.refl _)
              exact ⟨(), rfl, hW⟩
            ·
              have H := iteF (of_decide_eq_false hb) H
              rw [hb] at hF
              clear hb
              refine c_seq ?_
              refine reg_list ?_
              refine ls hF hW rfl ((y_eql hF rfl rfl).q) (fun a w hF hW => ?_)
              refine ls hF hW rfl ((y_assign hF rfl).q) (fun a w hF hW => ?_)
              refine ls_nil ?_
              refine c_then ?_
              refine c_cond hF rfl (fun hb => ?_) (fun hb => ?_)
              ·
                have H := iteT (of_decide_eq_true hb) H
                rw [hb] at hF
                clear hb
                refine c_seqJ (fun a w => Fr 82 [] [(0, .pointer (some ⟨q_p0, 0, none⟩)), (1, .pointer (some ⟨q_p1, 0, none⟩)), (5, .pointer (some ⟨b1, 0, none⟩)), (6, .bool false), (66, .bool (decide (1 ≤ p2.2) && decide (p2.2 ≤ 17)))] a ∧ Stw ⟨Y, X, w0⟩ [(b1, [.int .i64 p2.1, .int .i64 p2.2]), (q_p0, [.string (bs p0.1), .int .i64 p0.2]), (q_p1, [.string (bs p1.1), .int .i64 p1.2.1, .int .i64 p1.2.2])] [] w) ?_ ?_
                ·
                  refine reg_list ?_
                  refine ls hF hW rfl ((y_fieldAddr Try.underlying35 rfl rfl rfl T3 hF rfl 1 rfl).q) (fun a w hF hW => ?_)
                  refine ls hF hW rfl ((y_load (v := Value.int .i64 p2.2) 0 hF rfl rfl T3 rfl).q) (fun a w hF hW => ?_)
                  refine ls hF hW rfl ((y_geq hF rfl rfl).q) (fun a w hF hW => ?_)
                  refine ls hF hW rfl ((y_move hF rfl).q) (fun a w hF hW => ?_)
                  rcases Bool.eq_false_or_eq_true (decide (1 ≤ p2.2)) with hb0 | hb0
                  ·
                    rw [hb0] at hF
                    refine ls_w hF hW (wanted_y hF rfl rfl rfl rfl) rfl (Nat.le_of_ble_eq_true rfl) ((y_fieldAddr Try.underlying35 rfl rfl rfl T3 hF rfl 1 rfl).q) (fun a w hF hW => ?_)
                    refine ls_w hF hW (wanted_y hF rfl rfl rfl rfl) rfl (Nat.le_of_ble_eq_true rfl) ((y_load (v := Value.int .i64 p2.2) 0 hF rfl rfl T3 rfl).q) (fun a w hF hW => ?_)
                    refine ls_w hF hW (wanted_y hF rfl rfl rfl rfl) rfl (Nat.le_of_ble_eq_true rfl) ((y_leq hF rfl rfl).q) (fun a w hF hW => ?_)
                    refine ls hF hW rfl ((y_pick_t hF rfl rfl rfl).q) (fun a w hF hW => ?_)
                    refine ls_nil ?_
                    refine c_then ?_
                    exact ⟨hF.re ⟨rfl, rfl, rfl, rfl, (by show some (Value.bool (decide (p2.2 ≤ 17))) = some (Value.bool (decide (1 ≤ p2.2) && decide (p2.2 ≤ 17))); simp only [hb0, Bool.not_true, Bool.not_false, Bool.true_and, Bool.false_and, Bool.true_or, Bool.false_or, Bool.and_true, Bool.or_false, cond_true, cond_false]), trivial⟩, hW⟩
                  ·
                    rw [hb0] at hF
                    refine ls_skip hF (wanted_n hF rfl rfl rfl rfl rfl) rfl rfl (fun a hF => ?_)
                    refine ls_skip hF (wanted_n hF rfl rfl rfl rfl rfl) rfl rfl (fun a hF => ?_)
                    refine ls_skip hF (wanted_n hF rfl rfl rfl rfl rfl) rfl rfl (fun a hF => ?_)
                    refine ls hF hW rfl ((y_pick_f hF rfl rfl rfl).q) (fun a w hF hW => ?_)
                    refine ls_nil ?_
                    refine c_then ?_
                    exact ⟨hF.re ⟨rfl, rfl, rfl, rfl, (by show some (Value.bool false) = some (Value.bool (decide (1 ≤ p2.2) && decide (p2.2 ≤ 17))); simp only [hb0, Bool.not_true, Bool.not_false, Bool.true_and, Bool.false_and, Bool.true_or, Bool.false_or, Bool.and_true, Bool.or_false, cond_true, cond_false]), trivial⟩, hW⟩
                rintro a w ⟨hF, hW⟩
                refine c_cond hF rfl (fun hb => ?_) (fun hb => ?_)
                ·
                  have H := iteT hb H
                  rw [hb] at hF
                  clear hb
                  refine c_seq ?_
                  refine reg_list ?_
                  refine ls hF hW rfl ((y_move hF rfl).q) (fun a w hF hW => ?_)
                  refine ls hF hW rfl ((y_fieldAddr Try.underlying35 rfl rfl rfl T3 hF rfl 1 rfl).q) (fun a w hF hW => ?_)
                  refine ls hF hW rfl ((y_load (v := Value.int .i64 p2.2) 0 hF rfl rfl T3 rfl).q) (fun a w hF hW => ?_)
                  have hW := hW.frontM (i := 1) rfl rfl
                  refine l_callG (Ml := [(q_p0, [.string (bs p0.1), .int .i64 p0.2])]) (Zl := []) (M := [(b1, [.int .i64 p2.1, .int .i64 p2.2]), (q_p1, [.string (bs p1.1), .int .i64 p1.2.1, .int .i64 p1.2.2])]) (Z := []) (β := Unit) (rv := fun x => .tuple #[]) (MM := fun x => [(q_p0, [.string (bs ((octet_Reader_Wrong p0 p2.2).1)), .int .i64 ((octet_Reader_Wrong p0 p2.2).2)])]) (ZZ := fun x => []) hF hW H24 rfl rfl (fun hL => octet_Reader_Wrong_c _ _ w q_p0 p0 p2.2 _ rfl hL) (fun x a w hF hW => ?_)
                  have hW : Stw ⟨Y, X, w0⟩ [(q_p0, [.string (bs ((octet_Reader_Wrong p0 p2.2).1)), .int .i64 ((octet_Reader_Wrong p0 p2.2).2)]), (b1, [.int .i64 p2.1, .int .i64 p2.2]), (q_p1, [.string (bs p1.1), .int .i64 p1.2.1, .int .i64 p1.2.2])] [] w := hW
                  refine ls_nil ?_
                  refine c_then ?_
                  refine reg_list ?_
                  refine ls hF hW rfl ((y_move hF rfl).q) (fun a w hF hW => ?_)
                  refine ls hF hW rfl ((y_fieldAddr Try.underlying35 rfl rfl rfl T3 hF rfl 1 rfl).q) (fun a w hF hW => ?_)
                  refine ls hF hW rfl ((y_load (v := Value.int .i64 p2.2) 1 hF rfl rfl T3 rfl).q) (fun a w hF hW => ?_)
                  have hW := hW.frontM (i := 2) rfl rfl
                  refine l_callG (Ml := [(q_p1, [.string (bs p1.1), .int .i64 p1.2.1, .int .i64 p1.2.2])]) (Zl := []) (M := [(q_p0, [.string (bs ((octet_Reader_Wrong p0 p2.2).1)), .int .i64 ((octet_Reader_Wrong p0 p2.2).2)]), (b1, [.int .i64 p2.1, .int .i64 p2.2])]) (Z := []) (β := Unit) (rv := fun x => .tuple #[]) (MM := fun x => [(q_p1, [.string (bs ((r04_Reader_Wrong p1 p2.2).1)), .int .i64 ((r04_Reader_Wrong p1 p2.2).2.1), .int .i64 ((r04_Reader_Wrong p1 p2.2).2.2)])]) (ZZ := fun x => []) hF hW H32 rfl rfl (fun hL => r04_Reader_Wrong_c _ _ w q_p1 p1 p2.2 _ rfl hL) (fun x a w hF hW => ?_)
                  have hW : Stw ⟨Y, X, w0⟩ [(q_p1, [.string (bs ((r04_Reader_Wrong p1 p2.2).1)), .int .i64 ((r04_Reader_Wrong p1 p2.2).2.1), .int .i64 ((r04_Reader_Wrong p1 p2.2).2.2)]), (q_p0, [.string (bs ((octet_Reader_Wrong p0 p2.2).1)), .int .i64 ((octet_Reader_Wrong p0 p2.2).2)]), (b1, [.int .i64 p2.1, .int .i64 p2.2])] [] w := hW
                  refine ls_nil ?_
                  refine b_normal ?_
                  refine c_then ?_
                  have hW := hW.frontM (i := 1) rfl rfl
                  have hW := hW.frontM (i := 2) rfl rfl
                  exact ⟨_, _, _, _, _, H, hF.re ⟨rfl, trivial⟩, hW⟩
                ·
                  have H := iteF (by rw [hb]; decide) H
                  rw [hb] at hF
                  clear hb
                  refine wp_skip ?_
                  refine b_normal ?_
                  refine c_then ?_
                  have hW := hW.frontM (i := 2) rfl rfl
                  have hW := hW.frontM (i := 2) rfl rfl
                  have hW := hW.frontM (i := 2) rfl rfl
                  exact ⟨_, _, _, _, _, H, hF.re ⟨rfl, trivial⟩, hW⟩
              ·
                have H := iteF (of_decide_eq_false hb) H
                rw [hb] at hF
                clear hb
                refine c_seq ?_
                refine reg_list ?_
                refine ls hF hW rfl ((y_eql hF rfl rfl).q) (fun a w hF hW => ?_)
                refine ls hF hW rfl ((y_assign hF rfl).q) (fun a w hF hW => ?_)
                refine ls_nil ?_
                refine c_then ?_
                refine c_cond hF rfl (fun hb => ?_) (fun hb => ?_)
                ·
                  have H := iteT (of_decide_eq_true hb) H
                  rw [hb] at hF
                  clear hb
                  refine c_seq ?_
                  refine reg_list ?_
                  refine ls hF hW rfl ((y_move hF rfl).q) (fun a w hF hW => ?_)
                  obtain ⟨x17, h11, H⟩ := bindE H
                  have hW := hW.frontM (i := 1) rfl rfl
                  refine l_callG (Ml := [(q_p0, [.string (bs p0.1), .int .i64 p0.2])]) (Zl := []) (M := [(b1, [.int .i64 p2.1, .int .i64 p2.2]), (q_p1, [.string (bs p1.1), .int .i64 p1.2.1, .int .i64 p1.2.2])]) (Z := []) (β := Unit) (rv := fun x => .int .i64 x17.1) (MM := fun x => [(q_p0, [.string (bs x17.2.1), .int .i64 x17.2.2])]) (ZZ := fun x => []) hF hW H18 rfl rfl (fun hL => octet_Reader_End_c _ _ w q_p0 p0 _ h11 hL) (fun x a w hF hW => ?_)
                  have hW : Stw ⟨Y, X, w0⟩ [(q_p0, [.string (bs x17.2.1), .int .i64 x17.2.2]), (b1, [.int .i64 p2.1, .int .i64 p2.2]), (q_p1, [.string (bs p1.1), .int .i64 p1.2.1, .int .i64 p1.2.2])] [] w := hW
                  refine ls hF hW rfl ((y_move hF rfl).q) (fun a w hF hW => ?_)
                  obtain ⟨x18, h12, H⟩ := bindE H
                  have hW := hW.frontM (i := 2) rfl rfl
                  refine l_callG (Ml := [(q_p1, [.string (bs p1.1), .int .i64 p1.2.1, .int .i64 p1.2.2])]) (Zl := []) (M := [(q_p0, [.string (bs x17.2.1), .int .i64 x17.2.2]), (b1, [.int .i64 p2.1, .int .i64 p2.2])]) (Z := []) (β := Unit) (rv := fun x => .int .i64 x18.1) (MM := fun x => [(q_p1, [.string (bs x18.2.1), .int .i64 x18.2.2.1, .int .i64 x18.2.2.2])]) (ZZ := fun x => []) hF hW H19 rfl rfl (fun hL => r04_Reader_End_c _ _ w q_p1 p1 _ h12 hL) (fun x a w hF hW => ?_)
                  have hW : Stw ⟨Y, X, w0⟩ [(q_p1, [.string (bs x18.2.1), .int .i64 x18.2.2.1, .int .i64 x18.2.2.2]), (q_p0, [.string (bs x17.2.1), .int .i64 x17.2.2]), (b1, [.int .i64 p2.1, .int .i64 p2.2])] [] w := hW
                  refine ls hF hW rfl ((y_eql hF rfl rfl).q) (fun a w hF hW => ?_)
                  refine ls hF hW rfl ((y_assign hF rfl).q) (fun a w hF hW => ?_)
                  refine ls_nil ?_
                  refine c_then ?_
                  refine wp_ret ?_
                  refine r_block ?_
                  refine r_then ?_
                  have H := L1 _ H
                  have H := Option.some.inj H
                  subst H
                  refine post1 (.inl rfl) hF hW rfl (rv_tmp hF rfl) ?_
                  have hW := hW.frontM (i := 1) rfl rfl
                  have hW := hW.sub (M' := [(q_p0, [.string (bs x17.2.1), .int .i64 x17.2.2]), (q_p1, [.string (bs x18.2.1), .int .i64 x18.2.2.1, .int .i64 x18.2.2.2])]) (Z' := []) (List.Sublist.cons_cons _ (List.Sublist.cons_cons _ (List.nil_sublist _))) (List.Sublist.refl _)
                  exact ⟨(), rfl, hW⟩
                ·
                  have H := iteF (of_decide_eq_false hb) H
                  rw [hb] at hF
                  clear hb
                  refine c_seq ?_
                  refine reg_list ?_
                  refine ls hF hW rfl ((y_assign hF rfl).q) (fun a w hF hW => ?_)
                  refine ls_nil ?_
                  refine c_then ?_
                  refine wp_ret ?_
                  refine r_block ?_
                  refine r_then ?_
                  have H := L1 _ H
                  have H := Option.some.inj H
                  subst H
                  refine post1 (.inl rfl) hF hW rfl (rv_tmp hF rfl) ?_
                  have hW := hW.frontM (i := 2) rfl rfl
                  have hW := hW.frontM (i := 2) rfl rfl
                  have hW := hW.sub (M' := [(q_p0, [.string (bs p0.1), .int .i64 p0.2]), (q_p1, [.string (bs p1.1), .int .i64 p1.2.1, .int .i64 p1.2.2])]) (Z' := []) (List.Sublist.cons_cons _ (List.Sublist.cons_cons _ (List.nil_sublist _))) (List.Sublist.refl _)
                  exact ⟨(), rfl, hW⟩
  rintro a w ⟨x1, x2, x3, x4, x5, hj, hF, hW⟩
  have H := K1 _ hj
  clear hj G1 K1 L1
  refine c_seq ?_
  refine reg_list ?_
  refine ls hF hW rfl ((y_assign hF rfl).q) (fun a w hF hW => ?_)
  refine ls_nil ?_
  refine c_then ?_
  refine wp_ret ?_
  have H := Option.some.inj H
  subst H
  refine post1 (.inl rfl) hF hW rfl (rv_tmp hF rfl) ?_
  have hW := hW.frontM (i := 2) rfl rfl
  have hW := hW.frontM (i := 2) rfl rfl
  have hW := hW.sub (M' := [(q_p0, [.string (bs x1), .int .i64 x2]), (q_p1, [.string (bs x3), .int .i64 x4, .int .i64 x5])]) (Z' := []) (List.Sublist.cons_cons _ (List.Sublist.cons_cons _ (List.nil_sublist _))) (List.Sublist.refl _)
  exact ⟨(), rfl, hW⟩

theorem H14 : Has Try.prog 14 := ⟨fun args w => run_callFunc_body Try.func14 rfl (by decide) args w⟩
noncomputable def L04_OctetReads_l1 (p1 : List (Int × Int)) : (Int × List UInt8 × Int × Int × List UInt8 × Int) → Option ((Int × List UInt8 × Int × Int × List UInt8 × Int) ⊕ ((List UInt8 × Int × Int × List UInt8 × Int) ⊕ Bool))
  | (x7, x8, x9, x10, x11, x12) => (if (decide (x7 < (p1.length : Int)) && decide (x7 < 30)) = true then ((ix p1 x7).bind fun x19 => (L04_does (x11, x12) (x8, x9, x10) x19).bind fun x20 => (if (!x20.1) = true then some (true, x20.2.2.1, x20.2.2.2.1, x20.2.2.2.2, x20.2.1.1, x20.2.1.2) else (if (octet_Reader_Left x20.2.1) ≠ (r04_Reader_Left x20.2.2) then some (true, x20.2.2.1, x20.2.2.2.1, x20.2.2.2.2, x20.2.1.1, x20.2.1.2) else some (decide ((octet_Reader_Ok x20.2.1) ≠ (decide (x20.2.2.2.2 = 0))), x20.2.2.1, x20.2.2.2.1, x20.2.2.2.2, x20.2.1.1, x20.2.1.2)))).bind fun (x13, x14, x15, x16, x17, x18) => (if x13 = true then some (.inr (.inr false)) else some (.inl (w64 (x7 + 1), x14, x15, x16, x17, x18))) else some (.inr (.inl (x8, x9, x10, x11, x12))))
noncomputable def L04_OctetReads (p0 : List UInt8) (p1 : List (Int × Int)) : Option Bool := (if 500 < (p0.length : Int) then (L04_awake).bind fun x1 => some x1 else orR (loopW (L04_OctetReads_l1 p1) (0, p0, 0, 0, (octet_Open p0).1, (octet_Open p0).2)) fun (x2, x3, x4, x5, x6) => ((octet_Reader_End (x5, x6)).bind fun x27 => (r04_Reader_End (x2, x3, x4)).bind fun x28 => (if x27.1 = x28.1 then (L04_awake).bind fun x29 => some (x29, x28.2.1, x28.2.2.1, x28.2.2.2, x27.2.1, x27.2.2) else some (false, x28.2.1, x28.2.2.1, x28.2.2.2, x27.2.1, x27.2.2))).bind fun (x21, x22, x23, x24, x25, x26) => some x21)
theorem L04_OctetReads_c (Y : Nat → Prop) (w0 : World) (v1 : Value) (p0 : List UInt8) (p1 : List (Int × Int)) (r : Bool) (H : L04_OctetReads p0 p1 = some r) (h_v1 : Sl w0 (NX []) R35 v1 p1) :
    Calls Try.prog 4 #[.string (bs p0), v1] w0 fun e w' => e = .returned (.bool r) ∧ Below w0.heap.size w0 w' := by
  refine enter Try.func4 rfl Try.ntmps4 rfl (fun a hF => ?_)
  have hW := Stw.start Y w0
  unfold L04_OctetReads at H
  refine c_seq ?_
  refine reg_list ?_
  refine ls hF hW rfl ((y_assign hF rfl).q) (fun a w hF hW => ?_)
  refine ls_nil ?_
  refine c_then ?_
  refine c_seq ?_
  refine c_seq ?_
  refine reg_list ?_
  refine ls hF hW rfl ((y_move hF rfl).q) (fun a w hF hW => ?_)
  refine ls hF hW rfl ((y_slen (l := p0) Try.underlying9 rfl hF rfl).q) (fun a w hF hW => ?_)
  refine ls hF hW rfl ((y_gtr hF rfl rfl).q) (fun a w hF hW => ?_)
  refine ls_nil ?_
  refine c_then ?_
  refine c_cond hF rfl (fun hb => ?_) (fun hb => ?_)
  ·
    have H := iteT (of_decide_eq_true hb) H
    rw [hb] at hF
    clear hb
    refine c_seq ?_
    refine reg_list ?_
    obtain ⟨x1, h1, H⟩ := bindE H
    refine ls hF hW rfl (y_call (v := Value.bool x1) hF H12 rfl (fun w hW => L04_awake_c any w _ h1)) (fun a w hF hW => ?_)
    refine ls hF hW rfl ((y_assign hF rfl).q) (fun a w hF hW => ?_)
    refine ls_nil ?_
    refine c_then ?_
    refine wp_ret ?_
    refine r_then ?_
    have H := Option.some.inj H
    subst H
    refine post1 (.inl rfl) hF hW rfl (rv_tmp hF rfl) ?_
    exact ⟨rfl, hW.done⟩
  ·
    have H := iteF (of_decide_eq_false hb) H
    rw [hb] at hF
    clear hb
    refine wp_skip ?_
    refine c_then ?_
    refine c_seq ?_
    refine reg_list ?_
    refine ls hF hW rfl ((y_move hF rfl).q) (fun a w hF hW => ?_)
    refine l_callG (Ml := []) (Zl := []) (M := []) (Z := []) (β := Nat) (rv := fun x => .pointer (some ⟨x, 0, none⟩)) (MM := fun x => [(x, [.string (bs ((octet_Open p0).1)), .int .i64 ((octet_Open p0).2)])]) (ZZ := fun x => []) hF hW H13 rfl rfl (fun hL => octet_Open_c _ w p0 _ rfl) (fun x a w hF hW => ?_)
    obtain ⟨b1, rfl⟩ : ∃ y, y = x := ⟨x, rfl⟩
    have hW : Stw ⟨Y, [], w0⟩ [(b1, [.string (bs ((octet_Open p0).1)), .int .i64 ((octet_Open p0).2)])] [] w := hW
    refine ls hF hW rfl ((y_assign hF rfl).q) (fun a w hF hW => ?_)
    refine ls_nil ?_
    refine c_then ?_
    refine c_seq ?_
    refine reg_list ?_
    refine ls hF hW rfl ((y_move hF rfl).q) (fun a w hF hW => ?_)
    refine ls hF hW rfl ((y_build (v := Value.agg #[.string (bs p0), .int .i64 0, .int .i64 0]) B32 hF rfl rfl rfl).q) (fun a w hF hW => ?_)
    refine l_box (cs := [.string (bs p0), .int .i64 0, .int .i64 0]) hF hW rfl rfl rfl (fun b2 a w hF hW => ?_)
    refine ls hF hW rfl ((y_assign hF rfl).q) (fun a w hF hW => ?_)
    refine ls_nil ?_
    refine c_then ?_
    obtain ⟨o1, G1, K1, L1⟩ := orE H
    refine c_seqJ (fun a w => ∃ x2 : List UInt8, ∃ x3 : Int, ∃ x4 : Int, ∃ x5 : List UInt8, ∃ x6 : Int, some (Sum.inl (x2, x3, x4, x5, x6)) = some o1 ∧ Fr 60 [] [(4, .bool false), (5, .pointer (some ⟨b1, 0, none⟩)), (6, .pointer (some ⟨b2, 0, none⟩))] a ∧ Stw ⟨Y, [], w0⟩ [(b2, [.string (bs x2), .int .i64 x3, .int .i64 x4]), (b1, [.string (bs x5), .int .i64 x6])] [] w) ?_ ?_
    ·
      have H := G1
      clear G1 K1
      refine c_seq ?_
      refine reg_list ?_
      refine ls hF hW rfl ((y_assign hF rfl).q) (fun a w hF hW => ?_)
      refine ls_nil ?_
      refine c_then ?_
      refine wp_block ?_
      have hW := hW.frontM (i := 1) rfl rfl
      have hW := hW.frontM (i := 1) rfl rfl
      refine c_loopW H (fun s a w => Fr 60 [] [(1, v1), (4, .bool false), (5, .pointer (some ⟨b1, 0, none⟩)), (6, .pointer (some ⟨b2, 0, none⟩)), (7, .int .i64 s.1)] a ∧ Stw ⟨Y, [], w0⟩ [(b2, [.string (bs s.2.1), .int .i64 s.2.2.1, .int .i64 s.2.2.2.1]), (b1, [.string (bs s.2.2.2.2.1), .int .i64 s.2.2.2.2.2])] [] w) ⟨hF.re ⟨rfl, rfl, rfl, rfl, rfl, trivial⟩, hW⟩ (fun s o a w H L2 hR => ?_)
      obtain ⟨x7, x8, x9, x10, x11, x12⟩ := s
      obtain ⟨hF, hW⟩ := hR
      have hF : Fr 60 [] [(1, v1), (4, .bool false), (5, .pointer (some ⟨b1, 0, none⟩)), (6, .pointer (some ⟨b2, 0, none⟩)), (7, .int .i64 x7)] a := hF
      have hW : Stw ⟨Y, [], w0⟩ [(b2, [.string (bs x8), .int .i64 x9, .int .i64 x10]), (b1, [.string (bs x11), .int .i64 x12])] [] w := hW
      rw [L04_OctetReads_l1] at H
      refine c_seq ?_
      refine c_seqJ (fun a w => Fr 60 [] [(1, v1), (4, .bool false), (5, .pointer (some ⟨b1, 0, none⟩)), (6, .pointer (some ⟨b2, 0, none⟩)), (7, .int .i64 x7), (24, .bool (decide (x7 < (p1.length : Int)) && decide (x7 < 30)))] a ∧ Stw ⟨Y, [], w0⟩ [(b2, [.string (bs x8), .int .i64 x9, .int .i64 x10]), (b1, [.string (bs x11), .int .i64 x12])] [] w) ?_ ?_
      ·
        refine reg_list ?_
        refine ls hF hW rfl ((y_move hF rfl).q) (fun a w hF hW => ?_)
        refine ls hF hW rfl ((y_move hF rfl).q) (fun a w hF hW => ?_)
        refine ls hF hW rfl ((y_len (r := R35) (l := p1) Try.underlying27 rfl hF rfl (rdc_ro h_v1)).q) (fun a w hF hW => ?_)
        refine ls hF hW rfl ((y_lss hF rfl rfl).q) (fun a w hF hW => ?_)
        refine ls hF hW rfl ((y_move hF rfl).q) (fun a w hF hW => ?_)
        rcases Bool.eq_false_or_eq_true (decide (x7 < (p1.length : Int))) with hb0 | hb0
        ·
          rw [hb0] at hF
          refine ls_w hF hW (wanted_y hF rfl rfl rfl rfl) rfl (Nat.le_of_ble_eq_true rfl) ((y_move hF rfl).q) (fun a w hF hW => ?_)
          refine ls_w hF hW (wanted_y hF rfl rfl rfl rfl) rfl (Nat.le_of_ble_eq_true rfl) ((y_lss hF rfl rfl).q) (fun a w hF hW => ?_)
          refine ls hF hW rfl ((y_pick_t hF rfl rfl rfl).q) (fun a w hF hW => ?_)
          refine ls_nil ?_
          refine c_then ?_
          exact ⟨hF.re ⟨rfl, rfl, rfl, rfl, rfl, (by show some (Value.bool (decide (x7 < 30))) = some (Value.bool (decide (x7 < (p1.length : Int)) && decide (x7 < 30))); simp only [hb0, Bool.not_true, Bool.not_false, Bool.true_and, Bool.false_and, Bool.true_or, Bool.false_or, Bool.and_true, Bool.or_false, cond_true, cond_false]), trivial⟩, hW⟩
        ·
          rw [hb0] at hF
          refine ls_skip hF (wanted_n hF rfl rfl rfl rfl rfl) rfl rfl (fun a hF => ?_)
          refine ls_skip hF (wanted_n hF rfl rfl rfl rfl rfl) rfl rfl (fun a hF => ?_)
          refine ls hF hW rfl ((y_pick_f hF rfl rfl rfl).q) (fun a w hF hW => ?_)
          refine ls_nil ?_
          refine c_then ?_
          exact ⟨hF.re ⟨rfl, rfl, rfl, rfl, rfl, (by show some (Value.bool false) = some (Value.bool (decide (x7 < (p1.length : Int)) && decide (x7 < 30))); simp only [hb0, Bool.not_true, Bool.not_false, Bool.true_and, Bool.false_and, Bool.true_or, Bool.false_or, Bool.and_true, Bool.or_false, cond_true, cond_false]), trivial⟩, hW⟩
      rintro a w ⟨hF, hW⟩
      refine c_cond hF rfl (fun hb => ?_) (fun hb => ?_)
      ·
        have H := iteT hb H
        rw [hb] at hF
        clear hb
        refine wp_skip ?_
        refine c_then ?_
        refine c_seq ?_
        refine wp_block ?_
        obtain ⟨o3, G3, K3⟩ := bindE H
        refine c_seqJ (fun a w => ∃ x13 : Bool, ∃ x14 : List UInt8, ∃ x15 : Int, ∃ x16 : Int, ∃ x17 : List UInt8, ∃ x18 : Int, some ((x13, x14, x15, x16, x17, x18)) = some o3 ∧ Fr 60 [] [(1, v1), (4, .bool false), (5, .pointer (some ⟨b1, 0, none⟩)), (6, .pointer (some ⟨b2, 0, none⟩)), (7, .int .i64 x7), (51, .bool x13)] a ∧ Stw ⟨Y, [], w0⟩ [(b2, [.string (bs x14), .int .i64 x15, .int .i64 x16]), (b1, [.string (bs x17), .int .i64 x18])] [] w) ?_ ?_
        ·
          have H := G3
          clear G3 K3
          refine reg_plan [(true, 0), (true, 1), (true, 2), (true, 3), (true, 4), (true, 5), (false, 6), (true, 7), (true, 8), (true, 9), (true, 11), (false, 10), (false, 12), (true, 13), (true, 14), (true, 15), (true, 16), (true, 18), (true, 19), (true, 20), (true, 21), (true, 22), (false, 17), (true, 23), (true, 24)] (CN ⟨Y, [], w0⟩ [] []) (fun ch a d v w h => by cases d <;> exact h) MO (by kernel_rfl) hW (fun w hW => ⟨_, _, hW, (fun p h => nomatch h), (fun z h => nomatch h)⟩) (fun w hW => ?_)
          refine pl_t hF rfl rfl (yC fun M Z hN hZ => y_move hF rfl) (fun a hF => ?_)
          refine pl_t hF rfl rfl (yC fun M Z hN hZ => y_move hF rfl) (fun a hF => ?_)
          refine pl_t hF rfl rfl (yC fun M Z hN hZ => y_move hF rfl) (fun a hF => ?_)
          refine pl_t hF rfl rfl (yC fun M Z hN hZ => y_move hF rfl) (fun a hF => ?_)
          obtain ⟨x19, h2, H⟩ := bindE H
          refine pl_t hF rfl rfl (yC fun M Z hN hZ => y_index (r := R35) L27 hF rfl rfl (rdc_ro h_v1) h2) (fun a hF => ?_)
          refine pl_t hF rfl rfl (yC fun M Z hN hZ => y_load_el (y := Value.agg #[.int .i64 x19.1, .int .i64 x19.2]) (j := 0) (i := x7) hF rfl rfl (rdc_ro h_v1) h2 F35.to T35 rfl) (fun a hF => ?_)
          refine pl_f rfl ?_
          obtain ⟨x20, h3, H⟩ := bindE H
          have hW := hW.frontM (i := 1) rfl rfl
          refine l_callG (Ml := [(b1, [.string (bs x11), .int .i64 x12]), (b2, [.string (bs x8), .int .i64 x9, .int .i64 x10])]) (Zl := []) (M := []) (Z := []) (β := Unit) (rv := fun x => .bool x20.1) (MM := fun x => [(b1, [.string (bs x20.2.1.1), .int .i64 x20.2.1.2]), (b2, [.string (bs x20.2.2.1), .int .i64 x20.2.2.2.1, .int .i64 x20.2.2.2.2])]) (ZZ := fun x => []) hF hW H14 rfl rfl (fun hL => L04_does_c _ _ w b1 b2 (x11, x12) (x8, x9, x10) x19 _ h3 hL) (fun x a w hF hW => ?_)
          have hW : Stw ⟨Y, [], w0⟩ [(b1, [.string (bs x20.2.1.1), .int .i64 x20.2.1.2]), (b2, [.string (bs x20.2.2.1), .int .i64 x20.2.2.2.1, .int .i64 x20.2.2.2.2])] [] w := hW
          refine pl_next (N2 := []) (NZ2 := []) hW (fun p h => nomatch h) (fun z h => nomatch h) ?_
          refine pl_t hF rfl rfl (yC fun M Z hN hZ => y_not hF rfl) (fun a hF => ?_)
          refine pl_t hF rfl rfl (yC fun M Z hN hZ => y_move hF rfl) (fun a hF => ?_)
          rcases Bool.eq_false_or_eq_true (!x20.1) with hb | hb
          ·
            have H := iteT hb H
            rw [hb] at hF
            clear hb
            refine pl_skip hF rfl (wanted_n hF rfl rfl rfl rfl rfl) rfl rfl (fun a hF => ?_)
            refine pl_skip hF rfl (wanted_n hF rfl rfl rfl rfl rfl) rfl rfl (fun a hF => ?_)
            refine pl_f rfl ?_
            refine ls_skip hF (wanted_n hF rfl rfl rfl rfl rfl) rfl rfl (fun a hF => ?_)
            refine pl_next (N2 := []) (NZ2 := []) hW (fun p h => nomatch h) (fun z h => nomatch h) ?_
            refine pl_f rfl ?_
            refine ls_skip hF (wanted_n hF rfl rfl rfl rfl rfl) rfl rfl (fun a hF => ?_)
            refine pl_next (N2 := []) (NZ2 := []) hW (fun p h => nomatch h) (fun z h => nomatch h) ?_
            refine pl_skip hF rfl (wanted_n hF rfl rfl rfl rfl rfl) rfl rfl (fun a hF => ?_)
            refine pl_t hF rfl rfl (yC fun M Z hN hZ => y_pick_t hF rfl rfl rfl) (fun a hF => ?_)
            refine pl_t hF rfl rfl (yC fun M Z hN hZ => y_move hF rfl) (fun a hF => ?_)
            refine pl_skip hF rfl (wanted_n hF rfl rfl rfl rfl rfl) rfl rfl (fun a hF => ?_)
            refine pl_skip hF rfl (wanted_n hF rfl rfl rfl rfl rfl) rfl rfl (fun a hF => ?_)
            refine pl_skip hF rfl (wanted_n hF rfl rfl rfl rfl rfl) rfl rfl (fun a hF => ?_)
            refine pl_skip hF rfl (wanted_n hF rfl rfl rfl rfl rfl) rfl rfl (fun a hF => ?_)
            refine pl_skip hF rfl (wanted_n hF rfl rfl rfl rfl rfl) rfl rfl (fun a hF => ?_)
            refine pl_skip hF rfl (wanted_n hF rfl rfl rfl rfl rfl) rfl rfl (fun a hF => ?_)
            refine pl_f rfl ?_
            refine ls_skip hF (wanted_n hF rfl rfl rfl rfl rfl) rfl rfl (fun a hF => ?_)
            refine pl_next (N2 := []) (NZ2 := []) hW (fun p h => nomatch h) (fun z h => nomatch h) ?_
            refine pl_skip hF rfl (wanted_n hF rfl rfl rfl rfl rfl) rfl rfl (fun a hF => ?_)
            refine pl_t hF rfl rfl (yC fun M Z hN hZ => y_pick_t hF rfl rfl rfl) (fun a hF => ?_)
            refine pl_end ?_
            refine c_then ?_
            have hW := hW.frontM (i := 1) rfl rfl
            exact ⟨_, _, _, _, _, _, H, hF.re ⟨rfl, rfl, rfl, rfl, rfl, rfl, trivial⟩, hW⟩
          ·
            have H := iteF (by rw [hb]; decide) H
            rw [hb] at hF
            clear hb
            refine pl_w hF rfl (wanted_y hF rfl rfl rfl rfl) rfl rfl (yC fun M Z hN hZ => y_move hF rfl) (fun a hF => ?_)
            refine pl_w hF rfl (wanted_y hF rfl rfl rfl rfl) rfl rfl (yC fun M Z hN hZ => y_move hF rfl) (fun a hF => ?_)
            refine pl_f rfl ?_
            refine ls_g (wanted_y hF rfl rfl rfl rfl) ?_
            refine ls hF hW rfl (y_call (v := Value.int .i64 (octet_Reader_Left x20.2.1)) hF H15 rfl (fun w hW => octet_Reader_Left_c any w b1 x20.2.1 _ rfl (at_M hW 0 rfl))) (fun a w hF hW => ?_)
            refine pl_next (N2 := []) (NZ2 := []) hW (fun p h => nomatch h) (fun z h => nomatch h) ?_
            refine pl_f rfl ?_
            refine ls_g (wanted_y hF rfl rfl rfl rfl) ?_
            refine ls hF hW rfl (y_call (v := Value.int .i64 (r04_Reader_Left x20.2.2)) hF H16 rfl (fun w hW => r04_Reader_Left_c any w b2 x20.2.2 _ rfl (at_M hW 1 rfl))) (fun a w hF hW => ?_)
            refine pl_next (N2 := [(b2, [.string (bs x20.2.2.1), .int .i64 x20.2.2.2.1, .int .i64 x20.2.2.2.2])]) (NZ2 := []) hW (by intro p h; simp only [List.nil_append, List.append_nil, List.cons_append, List.mem_cons, List.not_mem_nil, or_false] at h; subst h; simp) (fun z h => nomatch h) ?_
            refine pl_w hF rfl (wanted_y hF rfl rfl rfl rfl) rfl rfl (yC fun M Z hN hZ => y_neq hF rfl rfl) (fun a hF => ?_)
            refine pl_t hF rfl rfl (yC fun M Z hN hZ => y_pick_f hF rfl rfl rfl) (fun a hF => ?_)
            refine pl_t hF rfl rfl (yC fun M Z hN hZ => y_move hF rfl) (fun a hF => ?_)
            rcases Bool.eq_false_or_eq_true (decide ((octet_Reader_Left x20.2.1) ≠ (r04_Reader_Left x20.2.2))) with hb | hb
            ·
              have H := iteT (of_decide_eq_true hb) H
              rw [hb] at hF
              clear hb
              refine pl_skip hF rfl (wanted_n hF rfl rfl rfl rfl rfl) rfl rfl (fun a hF => ?_)
              refine pl_skip hF rfl (wanted_n hF rfl rfl rfl rfl rfl) rfl rfl (fun a hF => ?_)
              refine pl_skip hF rfl (wanted_n hF rfl rfl rfl rfl rfl) rfl rfl (fun a hF => ?_)
              refine pl_skip hF rfl (wanted_n hF rfl rfl rfl rfl rfl) rfl rfl (fun a hF => ?_)
              refine pl_skip hF rfl (wanted_n hF rfl rfl rfl rfl rfl) rfl rfl (fun a hF => ?_)
              refine pl_skip hF rfl (wanted_n hF rfl rfl rfl rfl rfl) rfl rfl (fun a hF => ?_)
              refine pl_f rfl ?_
              refine ls_skip hF (wanted_n hF rfl rfl rfl rfl rfl) rfl rfl (fun a hF => ?_)
              refine pl_next (N2 := []) (NZ2 := []) hW (by intro p h; simp only [List.nil_append, List.append_nil, List.cons_append, List.mem_cons, List.not_mem_nil, or_false] at h; subst h; simp) (fun z h => nomatch h) ?_
              refine pl_skip hF rfl (wanted_n hF rfl rfl rfl rfl rfl) rfl rfl (fun a hF => ?_)
              refine pl_t hF rfl rfl (yC fun M Z hN hZ => y_pick_t hF rfl rfl rfl) (fun a hF => ?_)
              refine pl_end ?_
              refine c_then ?_
              have hW := hW.frontM (i := 1) rfl rfl
              exact ⟨_, _, _, _, _, _, H, hF.re ⟨rfl, rfl, rfl, rfl, rfl, rfl, trivial⟩, hW⟩
            ·
              have H := iteF (of_decide_eq_false hb) H
              rw [hb] at hF
              clear hb
              refine pl_w hF rfl (wanted_y hF rfl rfl rfl rfl) rfl rfl (yC fun M Z hN hZ => y_move hF rfl) (fun a hF => ?_)
              refine pl_w hF rfl (wanted_y hF rfl rfl rfl rfl) rfl rfl (yC fun M Z hN hZ => y_move hF rfl) (fun a hF => ?_)
              refine pl_w hF rfl (wanted_y hF rfl rfl rfl rfl) rfl rfl (yC fun M Z hN hZ => y_nilCheck hF rfl) (fun a hF => ?_)
              refine pl_w hF rfl (wanted_y hF rfl rfl rfl rfl) rfl rfl (yC fun M Z hN hZ => y_fieldAddr Try.underlying32 rfl rfl rfl T3 hF rfl 2 rfl) (fun a hF => ?_)
              refine pl_w hF rfl (wanted_y hF rfl rfl rfl rfl) rfl rfl (yC fun M Z hN hZ => y_load_m (cs := [.string (bs x20.2.2.1), .int .i64 x20.2.2.2.1, .int .i64 x20.2.2.2.2]) (v := Value.int .i64 x20.2.2.2.2) hF rfl (hN _ (.head _)) T3 rfl) (fun a hF => ?_)
              refine pl_w hF rfl (wanted_y hF rfl rfl rfl rfl) rfl rfl (yC fun M Z hN hZ => y_eql hF rfl rfl) (fun a hF => ?_)
              refine pl_f rfl ?_
              refine ls_g (wanted_y hF rfl rfl rfl rfl) ?_
              refine ls hF hW rfl (y_call (v := Value.bool (octet_Reader_Ok x20.2.1)) hF H17 rfl (fun w hW => octet_Reader_Ok_c any w b1 x20.2.1 _ rfl (at_M hW 0 rfl))) (fun a w hF hW => ?_)
              refine pl_next (N2 := []) (NZ2 := []) hW (by intro p h; simp only [List.nil_append, List.append_nil, List.cons_append, List.mem_cons, List.not_mem_nil, or_false] at h; subst h; simp) (fun z h => nomatch h) ?_
              refine pl_w hF rfl (wanted_y hF rfl rfl rfl rfl) rfl rfl (yC fun M Z hN hZ => y_neb Try.underlying4 hF rfl rfl) (fun a hF => ?_)
              refine pl_t hF rfl rfl (yC fun M Z hN hZ => y_pick_f hF rfl rfl rfl) (fun a hF => ?_)
              refine pl_end ?_
              refine c_then ?_
              have hW := hW.frontM (i := 1) rfl rfl
              exact ⟨_, _, _, _, _, _, H, hF.re ⟨rfl, rfl, rfl, rfl, rfl, rfl, trivial⟩, hW⟩
        rintro a w ⟨x13, x14, x15, x16, x17, x18, hj, hF, hW⟩
        have hj := Option.some.inj hj
        subst hj
        have H := K3
        clear G3 K3
        refine c_cond hF rfl (fun hb => ?_) (fun hb => ?_)
        ·
          have H := iteT hb H
          rw [hb] at hF
          clear hb
          refine c_seq ?_
          refine reg_list ?_
          refine ls hF hW rfl ((y_assign hF rfl).q) (fun a w hF hW => ?_)
          refine ls_nil ?_
          refine c_then ?_
          refine wp_ret ?_
          refine r_block ?_
          refine r_then ?_
          refine r_then ?_
          refine r_block ?_
          refine r_then ?_
          have H := L2 _ H
          have H := L1 _ H
          have H := Option.some.inj H
          subst H
          refine post1 (.inl rfl) hF hW rfl (rv_tmp hF rfl) ?_
          exact ⟨rfl, hW.done⟩
        ·
          have H := iteF (by rw [hb]; decide) H
          rw [hb] at hF
          clear hb
          refine wp_skip ?_
          refine b_normal ?_
          refine c_then ?_
          refine reg_list ?_
          refine ls hF hW rfl ((y_move hF rfl).q) (fun a w hF hW => ?_)
          refine ls hF hW rfl ((y_add hF rfl rfl rfl).q) (fun a w hF hW => ?_)
          refine ls hF hW rfl ((y_assign hF rfl).q) (fun a w hF hW => ?_)
          refine ls_nil ?_
          refine c_then ?_
          have hW := hW.frontM (i := 1) rfl rfl
          have hW := hW.frontM (i := 1) rfl rfl
          exact ⟨_, H, hF.re ⟨rfl, rfl, rfl, rfl, rfl, trivial⟩, hW⟩
      ·
        have H := iteF (by rw [hb]; decide) H
        rw [hb] at hF
        clear hb
        refine wp_exit ?_
        refine e_then ?_
        refine e_then ?_
        refine e_block ?_
        refine c_then ?_
        have hW := hW.frontM (i := 1) rfl rfl
        have hW := hW.frontM (i := 1) rfl rfl
        have H := L2 _ H
        exact ⟨_, _, _, _, _, H, hF.re ⟨rfl, rfl, rfl, trivial⟩, hW⟩
    rintro a w ⟨x2, x3, x4, x5, x6, hj, hF, hW⟩
    have H := K1 _ hj
    clear hj G1 K1 L1
    obtain ⟨o4, G4, K4⟩ := bindE H
    refine c_seqJ (fun a w => ∃ x21 : Bool, ∃ x22 : List UInt8, ∃ x23 : Int, ∃ x24 : Int, ∃ x25 : List UInt8, ∃ x26 : Int, some ((x21, x22, x23, x24, x25, x26)) = some o4 ∧ Fr 60 [] [(4, .bool x21)] a ∧ Stw ⟨Y, [], w0⟩ [(b2, [.string (bs x22), .int .i64 x23, .int .i64 x24]), (b1, [.string (bs x25), .int .i64 x26])] [] w) ?_ ?_
    ·
      have H := G4
      clear G4 K4
      refine reg_list ?_
      refine ls hF hW rfl ((y_move hF rfl).q) (fun a w hF hW => ?_)
      obtain ⟨x27, h4, H⟩ := bindE H
      have hW := hW.frontM (i := 1) rfl rfl
      refine l_callG (Ml := [(b1, [.string (bs x5), .int .i64 x6])]) (Zl := []) (M := [(b2, [.string (bs x2), .int .i64 x3, .int .i64 x4])]) (Z := []) (β := Unit) (rv := fun x => .int .i64 x27.1) (MM := fun x => [(b1, [.string (bs x27.2.1), .int .i64 x27.2.2])]) (ZZ := fun x => []) hF hW H18 rfl rfl (fun hL => octet_Reader_End_c _ _ w b1 (x5, x6) _ h4 hL) (fun x a w hF hW => ?_)
      have hW : Stw ⟨Y, [], w0⟩ [(b1, [.string (bs x27.2.1), .int .i64 x27.2.2]), (b2, [.string (bs x2), .int .i64 x3, .int .i64 x4])] [] w := hW
      refine ls hF hW rfl ((y_move hF rfl).q) (fun a w hF hW => ?_)
      obtain ⟨x28, h5, H⟩ := bindE H
      have hW := hW.frontM (i := 1) rfl rfl
      refine l_callG (Ml := [(b2, [.string (bs x2), .int .i64 x3, .int .i64 x4])]) (Zl := []) (M := [(b1, [.string (bs x27.2.1), .int .i64 x27.2.2])]) (Z := []) (β := Unit) (rv := fun x => .int .i64 x28.1) (MM := fun x => [(b2, [.string (bs x28.2.1), .int .i64 x28.2.2.1, .int .i64 x28.2.2.2])]) (ZZ := fun x => []) hF hW H19 rfl rfl (fun hL => r04_Reader_End_c _ _ w b2 (x2, x3, x4) _ h5 hL) (fun x a w hF hW => ?_)
      have hW : Stw ⟨Y, [], w0⟩ [(b2, [.string (bs x28.2.1), .int .i64 x28.2.2.1, .int .i64 x28.2.2.2]), (b1, [.string (bs x27.2.1), .int .i64 x27.2.2])] [] w := hW
      refine ls hF hW rfl ((y_eql hF rfl rfl).q) (fun a w hF hW => ?_)
      refine ls hF hW rfl ((y_move hF rfl).q) (fun a w hF hW => ?_)
      rcases Bool.eq_false_or_eq_true (decide (x27.1 = x28.1)) with hb | hb
      ·
        have H := iteT (of_decide_eq_true hb) H
        rw [hb] at hF
        clear hb
        refine ls_g (wanted_y hF rfl rfl rfl rfl) ?_
        obtain ⟨x29, h6, H⟩ := bindE H
        refine ls hF hW rfl (y_call (v := Value.bool x29) hF H12 rfl (fun w hW => L04_awake_c any w _ h6)) (fun a w hF hW => ?_)
        refine ls hF hW rfl ((y_pick_t hF rfl rfl rfl).q) (fun a w hF hW => ?_)
        refine ls hF hW rfl ((y_assign hF rfl).q) (fun a w hF hW => ?_)
        refine ls_nil ?_
        refine c_then ?_
        have hW := hW.frontM (i := 1) rfl rfl
        have hW := hW.frontM (i := 1) rfl rfl
        exact ⟨_, _, _, _, _, _, H, hF.re ⟨rfl, trivial⟩, hW⟩
      ·
        have H := iteF (of_decide_eq_false hb) H
        rw [hb] at hF
        clear hb
        refine ls_skip hF (wanted_n hF rfl rfl rfl rfl rfl) rfl rfl (fun a hF => ?_)
        refine ls hF hW rfl ((y_pick_f hF rfl rfl rfl).q) (fun a w hF hW => ?_)
        refine ls hF hW rfl ((y_assign hF rfl).q) (fun a w hF hW => ?_)
        refine ls_nil ?_
        refine c_then ?_
        have hW := hW.frontM (i := 1) rfl rfl
        have hW := hW.frontM (i := 1) rfl rfl
        exact ⟨_, _, _, _, _, _, H, hF.re ⟨rfl, trivial⟩, hW⟩
    rintro a w ⟨x21, x22, x23, x24, x25, x26, hj, hF, hW⟩
    have hj := Option.some.inj hj
    subst hj
    have H := K4
    clear G4 K4
    refine wp_ret ?_
    have H := Option.some.inj H
    subst H
    refine post1 (.inl rfl) hF hW rfl (rv_tmp hF rfl) ?_
    exact ⟨rfl, hW.done⟩

end Go.Proofs.Ytkpifofijmimdaa
