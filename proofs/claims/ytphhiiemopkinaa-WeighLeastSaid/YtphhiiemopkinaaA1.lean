/- The functions of layer 18, lifted. Conditions: none. -/
import Derived.Test.YtphhiiemopkinaaA0
namespace Go.Proofs.Ytphhiiemopkinaa
open Go Go.RowKit
set_option linter.unusedVariables false
set_option linter.unusedSimpArgs false
set_option maxRecDepth 20000
theorem H30 : Has Try.prog 30 := ⟨fun args w => run_callFunc_body Try.func30 rfl (by decide) args w⟩
noncomputable def r18_Walk_l1 (p0 : List Int) (p1 : List Int) : Int → Option (Int ⊕ (Unit ⊕ Int))
  | x1 => (if x1 < (p1.length : Int) then ((ix p1 x1).bind fun x3 => (if x3 < 0 then some true else (ix p1 x1).bind fun x4 => some (decide ((p0.length : Int) ≤ x4)))).bind fun x2 => (if x2 = true then some (.inr (.inr 9218868437227405312)) else some (.inl (w64 (x1 + 1)))) else some (.inr (.inl ())))
noncomputable def r18_Walk_st (fRec : (List Int) → (List Int) → Option Int) (p0 : List Int) (p1 : List Int) : Option Int := (if (p1.length : Int) = 0 then some 0 else orR (loopW (r18_Walk_l1 p0 p1) 0) fun _ => (ix p1 0).bind fun x5 => (ix p0 x5).bind fun x6 => (subl p1 1 (p1.length : Int)).bind fun x7 => (fRec p0 x7).bind fun x8 => some (r18_Plus x6 x8))
noncomputable def r18_Walk_n : Nat → (List Int) → (List Int) → Option Int
  | 0 => fun _ _ => none
  | n + 1 => r18_Walk_st (r18_Walk_n n)
noncomputable def r18_Walk (p0 : List Int) (p1 : List Int) : Option Int := limF fun n => r18_Walk_n n p0 p1
theorem r18_Walk_stc (fRec : (List Int) → (List Int) → Option Int) (ih : ∀ (Y : Nat → Prop) (w0 : World) (v1 : Value) (v2 : Value) (p0 : List Int) (p1 : List Int) (r : Int) (H : fRec p0 p1 = some r) (h_v1 : Sl w0 (NX []) (Rp.int .u64) v1 p0) (h_v2 : Sl w0 (NX []) (Rp.int .i64) v2 p1), Calls Try.prog 15 #[v1, v2] w0 fun e w' => e = .returned (.int .u64 r) ∧ Below w0.heap.size w0 w') (Y : Nat → Prop) (w0 : World) (v1 : Value) (v2 : Value) (p0 : List Int) (p1 : List Int) (r : Int) (H : r18_Walk_st fRec p0 p1 = some r) (h_v1 : Sl w0 (NX []) (Rp.int .u64) v1 p0) (h_v2 : Sl w0 (NX []) (Rp.int .i64) v2 p1) :
    Calls Try.prog 15 #[v1, v2] w0 fun e w' => e = .returned (.int .u64 r) ∧ Below w0.heap.size w0 w' := by
 refine enter Try.func15 rfl Try.ntmps15 rfl (fun a hF => ?_)
 have hW := Stw.start Y w0
 unfold r18_Walk_st at H
 refine c_seq (reg_list ?_)
 refine ls hF hW rfl ((y_assign hF rfl).q) (fun a w hF hW => ?_)
 refine ls_nil (c_then ?_)
 refine c_seq ?_
 refine c_seq (reg_list ?_)
 refine ls hF hW rfl ((y_move hF rfl).q) (fun a w hF hW => ?_)
 refine ls hF hW rfl ((y_len (r := (Rp.int .i64)) (l := p1) u23_ rfl hF rfl (rdc_ro h_v2)).q) (fun a w hF hW => ?_)
 refine ls hF hW rfl ((y_eql hF rfl rfl).q) (fun a w hF hW => ?_)
 refine ls_nil (c_then ?_)
 refine c_cond hF rfl (fun hb => ?_) (fun hb => ?_)
 ·
  have H := iteT (of_decide_eq_true hb) H
  rw [hb] at hF
  clear hb
  refine c_seq (reg_list ?_)
  refine ls hF hW rfl ((y_assign hF rfl).q) (fun a w hF hW => ?_)
  refine ls_nil (c_then ?_)
  refine wr_ret ?_
  refine r_then ?_
  have H := Option.some.inj H
  subst H
  refine post1 (.inl rfl) hF hW rfl (rv_tmp hF rfl) ?_
  exact ⟨rfl, hW.done⟩
 ·
  have H := iteF (of_decide_eq_false hb) H
  rw [hb] at hF
  clear hb
  refine wr_skip ?_
  refine c_then ?_
  obtain ⟨o1, G1, K1, L1⟩ := orE H
  refine c_seqJ (fun a w => some (Sum.inl ()) = some o1 ∧ Fr 40 [] [(0, v1), (1, v2), (4, .int .u64 0)] a ∧ Stw ⟨Y, [], w0⟩ [] [] w) ?_ ?_
  ·
   have H := G1
   clear G1 K1
   refine c_seq (reg_list ?_)
   refine ls hF hW rfl ((y_assign hF rfl).q) (fun a w hF hW => ?_)
   refine ls_nil (c_then ?_)
   refine wr_block ?_
   refine c_loopW H (fun s a w => Fr 40 [] [(0, v1), (1, v2), (4, .int .u64 0), (5, .int .i64 s)] a ∧ Stw ⟨Y, [], w0⟩ [] [] w) ⟨hF.re ⟨rfl, rfl, rfl, rfl, trivial⟩, hW⟩ (fun s o a w H L2 hR => ?_)
   obtain ⟨x1, rfl⟩ : ∃ x, x = s := ⟨s, rfl⟩
   obtain ⟨hF, hW⟩ := hR
   have hF : Fr 40 [] [(0, v1), (1, v2), (4, .int .u64 0), (5, .int .i64 x1)] a := hF
   have hW : Stw ⟨Y, [], w0⟩ [] [] w := hW
   rw [r18_Walk_l1] at H
   refine c_seq ?_
   refine c_seq (reg_list ?_)
   iterate 2 refine ls hF hW rfl ((y_move hF rfl).q) (fun a w hF hW => ?_)
   refine ls hF hW rfl ((y_len (r := (Rp.int .i64)) (l := p1) u23_ rfl hF rfl (rdc_ro h_v2)).q) (fun a w hF hW => ?_)
   refine ls hF hW rfl ((y_lss hF rfl rfl).q) (fun a w hF hW => ?_)
   refine ls_nil (c_then ?_)
   refine c_cond hF rfl (fun hb => ?_) (fun hb => ?_)
   ·
    have H := iteT (of_decide_eq_true hb) H
    rw [hb] at hF
    clear hb
    refine wr_skip ?_
    refine c_then ?_
    refine c_seq ?_
    refine wr_block ?_
    obtain ⟨o3, G3, K3⟩ := bindE H
    refine c_seqJ (fun a w => ∃ x2 : Bool, some (x2) = some o3 ∧ Fr 40 [] [(0, v1), (1, v2), (4, .int .u64 0), (5, .int .i64 x1), (28, .bool x2)] a ∧ Stw ⟨Y, [], w0⟩ [] [] w) ?_ ?_
    ·
     have H := G3
     clear G3 K3
     refine reg_list ?_
     iterate 2 refine ls hF hW rfl ((y_move hF rfl).q) (fun a w hF hW => ?_)
     obtain ⟨x3, h1, H⟩ := bindE H
     refine ls hF hW rfl ((y_index (r := (Rp.int .i64)) L23 hF rfl rfl (rdc_ro h_v2) h1).q) (fun a w hF hW => ?_)
     refine ls hF hW rfl ((y_load_el (y := Value.int .i64 x3) (j := 0) (i := x1) hF rfl rfl (rdc_ro h_v2) h1 Fl.int.to T3 rfl).q) (fun a w hF hW => ?_)
     refine ls hF hW rfl ((y_lss hF rfl rfl).q) (fun a w hF hW => ?_)
     refine ls hF hW rfl ((y_move hF rfl).q) (fun a w hF hW => ?_)
     rcases Bool.eq_false_or_eq_true (decide (x3 < 0)) with hb | hb
     ·
      have H := iteT (of_decide_eq_true hb) H
      rw [hb] at hF
      clear hb
      iterate 7 refine lsn hF rfl rfl rfl rfl rfl rfl rfl (fun a hF => ?_)
      refine ls hF hW rfl ((y_pick_t hF rfl rfl rfl).q) (fun a w hF hW => ?_)
      refine ls_nil (c_then ?_)
      exact ⟨_, H, hF.re ⟨rfl, rfl, rfl, rfl, rfl, trivial⟩, hW⟩
     ·
      have H := iteF (of_decide_eq_false hb) H
      rw [hb] at hF
      clear hb
      iterate 2 refine ls_w hF hW (wanted_y hF rfl rfl rfl rfl) rfl (Nat.le_of_ble_eq_true rfl) ((y_move hF rfl).q) (fun a w hF hW => ?_)
      obtain ⟨x4, h2, H⟩ := bindE H
      refine ls_w hF hW (wanted_y hF rfl rfl rfl rfl) rfl (Nat.le_of_ble_eq_true rfl) ((y_index (r := (Rp.int .i64)) L23 hF rfl rfl (rdc_ro h_v2) h2).q) (fun a w hF hW => ?_)
      refine ls_w hF hW (wanted_y hF rfl rfl rfl rfl) rfl (Nat.le_of_ble_eq_true rfl) ((y_load_el (y := Value.int .i64 x4) (j := 0) (i := x1) hF rfl rfl (rdc_ro h_v2) h2 Fl.int.to T3 rfl).q) (fun a w hF hW => ?_)
      refine ls_w hF hW (wanted_y hF rfl rfl rfl rfl) rfl (Nat.le_of_ble_eq_true rfl) ((y_move hF rfl).q) (fun a w hF hW => ?_)
      refine ls_w hF hW (wanted_y hF rfl rfl rfl rfl) rfl (Nat.le_of_ble_eq_true rfl) ((y_len (r := (Rp.int .u64)) (l := p0) u22_ rfl hF rfl (rdc_ro h_v1)).q) (fun a w hF hW => ?_)
      refine ls_w hF hW (wanted_y hF rfl rfl rfl rfl) rfl (Nat.le_of_ble_eq_true rfl) ((y_geq hF rfl rfl).q) (fun a w hF hW => ?_)
      refine ls hF hW rfl ((y_pick_f hF rfl rfl rfl).q) (fun a w hF hW => ?_)
      refine ls_nil (c_then ?_)
      exact ⟨_, H, hF.re ⟨rfl, rfl, rfl, rfl, rfl, trivial⟩, hW⟩
    rintro a w ⟨x2, hj, hF, hW⟩
    have hj := Option.some.inj hj
    subst hj
    have H := K3
    clear G3 K3
    refine c_cond hF rfl (fun hb => ?_) (fun hb => ?_)
    ·
     have H := iteT hb H
     rw [hb] at hF
     clear hb
     refine c_seq (reg_list ?_)
     refine ls hF hW rfl ((y_assign hF rfl).q) (fun a w hF hW => ?_)
     refine ls_nil (c_then ?_)
     refine wr_ret ?_
     refine r_block ?_
     iterate 2 refine r_then ?_
     refine r_block ?_
     refine r_then ?_
     have H := L2 _ H
     have H := L1 _ H
     have H := Option.some.inj H
     subst H
     refine post1 (.inl rfl) hF hW rfl (rv_tmp hF rfl) ?_
     exact ⟨rfl, hW.done⟩
    ·
     have H := iteF (by rw [hb]; decide) H
     rw [hb] at hF
     clear hb
     refine wr_skip ?_
     refine b_normal ?_
     refine c_then ?_
     refine reg_list ?_
     refine ls hF hW rfl ((y_move hF rfl).q) (fun a w hF hW => ?_)
     refine ls hF hW rfl ((y_add hF rfl rfl rfl).q) (fun a w hF hW => ?_)
     refine ls hF hW rfl ((y_assign hF rfl).q) (fun a w hF hW => ?_)
     refine ls_nil (c_then ?_)
     exact ⟨_, H, hF.re ⟨rfl, rfl, rfl, rfl, trivial⟩, hW⟩
   ·
    have H := iteF (of_decide_eq_false hb) H
    rw [hb] at hF
    clear hb
    refine wr_exit ?_
    iterate 2 refine e_then ?_
    refine e_block ?_
    refine c_then ?_
    have H := L2 _ H
    exact ⟨H, hF.re ⟨rfl, rfl, rfl, trivial⟩, hW⟩
  rintro a w ⟨hj, hF, hW⟩
  have H := K1 _ hj
  clear hj G1 K1 L1
  refine c_seq ?_
  refine reg_quiet hW MO (by kernel_rfl) ?_
  iterate 2 refine qs hF rfl ((y_move hF rfl).q) (fun a hF => ?_)
  obtain ⟨x5, h3, H⟩ := bindE H
  refine qs hF rfl ((y_index (r := (Rp.int .i64)) L23 hF rfl rfl (rdc_ro h_v2) h3).q) (fun a hF => ?_)
  refine qs hF rfl ((y_load_el (y := Value.int .i64 x5) (j := 0) (i := 0) hF rfl rfl (rdc_ro h_v2) h3 Fl.int.to T3 rfl).q) (fun a hF => ?_)
  obtain ⟨x6, h4, H⟩ := bindE H
  refine qs hF rfl ((y_index (r := (Rp.int .u64)) L22 hF rfl rfl (rdc_ro h_v1) h4).q) (fun a hF => ?_)
  refine qs hF rfl ((y_load_el (y := Value.int .u64 x6) (j := 0) (i := x5) hF rfl rfl (rdc_ro h_v1) h4 Fl.int.to T30 rfl).q) (fun a hF => ?_)
  iterate 2 refine qs hF rfl ((y_move hF rfl).q) (fun a hF => ?_)
  obtain ⟨x7, h5, H⟩ := bindE H
  refine qs hF rfl ((y_slice (r := (Rp.int .i64)) L23 hF rfl rfl rfl (rdc_ro h_v2) h5).q) (fun a hF => ?_)
  obtain ⟨x8, h6, H⟩ := bindE H
  refine qs hF rfl (y_call (v := Value.int .u64 x8) hF H15 rfl (fun w hW => ih any w (v1) ((slSub v2 (1 : Int) (p1.length : Int) 1)) p0 x7 _ h6 (((rdc_ro h_v1) : Rdc _ _ _ _ _ _) w hW).nx (((rdc_sub (rdc_ro h_v2) h5) : Rdc _ _ _ _ _ _) w hW).nx)) (fun a hF => ?_)
  refine qs hF rfl (y_call (v := Value.int .u64 (r18_Plus x6 x8)) hF H30 rfl (fun w hW => r18_Plus_c any w x6 x8 _ rfl)) (fun a hF => ?_)
  refine qs hF rfl ((y_assign hF rfl).q) (fun a hF => ?_)
  refine quiet_end (fun w hW => ?_)
  refine c_then ?_
  refine wr_ret ?_
  have H := Option.some.inj H
  subst H
  refine post1 (.inl rfl) hF hW rfl (rv_tmp hF rfl) ?_
  exact ⟨rfl, hW.done⟩
theorem r18_Walk_nc : ∀ (n : Nat) (Y : Nat → Prop) (w0 : World) (v1 : Value) (v2 : Value) (p0 : List Int) (p1 : List Int) (r : Int) (H : r18_Walk_n n p0 p1 = some r) (h_v1 : Sl w0 (NX []) (Rp.int .u64) v1 p0) (h_v2 : Sl w0 (NX []) (Rp.int .i64) v2 p1), Calls Try.prog 15 #[v1, v2] w0 fun e w' => e = .returned (.int .u64 r) ∧ Below w0.heap.size w0 w' := by
  intro n
  induction n with
  | zero => intro Y w0 v1 v2 p0 p1 r H; exact nomatch H
  | succ n ih => intro Y w0 v1 v2 p0 p1 r H h_v1 h_v2; exact r18_Walk_stc (r18_Walk_n n) ih Y w0 v1 v2 p0 p1 r H h_v1 h_v2
theorem r18_Walk_c (Y : Nat → Prop) (w0 : World) (v1 : Value) (v2 : Value) (p0 : List Int) (p1 : List Int) (r : Int) (H : r18_Walk p0 p1 = some r) (h_v1 : Sl w0 (NX []) (Rp.int .u64) v1 p0) (h_v2 : Sl w0 (NX []) (Rp.int .i64) v2 p1) :
    Calls Try.prog 15 #[v1, v2] w0 fun e w' => e = .returned (.int .u64 r) ∧ Below w0.heap.size w0 w' := by
  obtain ⟨n, H⟩ := limF_some H
  exact r18_Walk_nc n Y w0 v1 v2 p0 p1 r H h_v1 h_v2

theorem u4_ : type_of% Try.underlying4 := Try.underlying4
noncomputable def L18_WeighTells_l1 (p0 : List Int) (x3 : List Int) : Int → Option (Int ⊕ (Unit ⊕ Bool))
  | x11 => (if x11 < (x3.length : Int) then (ix x3 x11).bind fun x12 => (ix p0 x11).bind fun x13 => (if x12 ≠ (r03_Clean x13) then some (.inr (.inr false)) else some (.inl (w64 (x11 + 1)))) else some (.inr (.inl ())))
noncomputable def L18_WeighTells (p0 : List Int) (p1 : Int) (p2 : Int) (p3 : List Int) : Option Bool := (if (decide (40 < (p0.length : Int)) || decide (40 < (p3.length : Int))) = true then (L18_awake).bind fun x1 => some x1 else (weigh_Of p0).bind fun x2 => (weigh_Bits x2).bind fun x3 => (if (x3.length : Int) ≠ (p0.length : Int) then some true else (weigh_Right x2 p1).bind fun x5 => (r18_Right p0 p1).bind fun x6 => (if x5 ≠ x6 then some true else (weigh_Up x2 p2).bind fun x7 => (r18_Up p0 p2).bind fun x8 => (if x7 ≠ x8 then some true else (weigh_Walk x2 p3).bind fun x9 => (r18_Walk p0 p3).bind fun x10 => some (decide ((float_Bits x9) ≠ x10))))).bind fun x4 => (if x4 = true then some false else orR (loopW (L18_WeighTells_l1 p0 x3) 0) fun _ => (L18_awake).bind fun x14 => some x14))
theorem L18_WeighTells_c (Y : Nat → Prop) (w0 : World) (v1 : Value) (v2 : Value) (p0 : List Int) (p1 : Int) (p2 : Int) (p3 : List Int) (r : Bool) (H : L18_WeighTells p0 p1 p2 p3 = some r) (h_v1 : Sl w0 (NX []) (Rp.int .u64) v1 p0) (h_v2 : Sl w0 (NX []) (Rp.int .i64) v2 p3) :
    Calls Try.prog 3 #[v1, .int .i64 p1, .int .i64 p2, v2] w0 fun e w' => e = .returned (.bool r) ∧ Below w0.heap.size w0 w' := by
 refine enter Try.func3 rfl Try.ntmps3 rfl (fun a hF => ?_)
 have hW := Stw.start Y w0
 unfold L18_WeighTells at H
 refine c_seq (reg_list ?_)
 refine ls hF hW rfl ((y_assign hF rfl).q) (fun a w hF hW => ?_)
 refine ls_nil (c_then ?_)
 refine c_seq ?_
 refine c_seqJ (fun a w => Fr 75 [] [(0, v1), (1, .int .i64 p1), (2, .int .i64 p2), (3, v2), (8, .bool false), (19, .bool (decide (40 < (p0.length : Int)) || decide (40 < (p3.length : Int))))] a ∧ Stw ⟨Y, [], w0⟩ [] [] w) ?_ ?_
 ·
  refine reg_list ?_
  refine ls hF hW rfl ((y_move hF rfl).q) (fun a w hF hW => ?_)
  refine ls hF hW rfl ((y_len (r := (Rp.int .u64)) (l := p0) u22_ rfl hF rfl (rdc_ro h_v1)).q) (fun a w hF hW => ?_)
  refine ls hF hW rfl ((y_gtr hF rfl rfl).q) (fun a w hF hW => ?_)
  refine ls hF hW rfl ((y_move hF rfl).q) (fun a w hF hW => ?_)
  rcases Bool.eq_false_or_eq_true (decide (40 < (p0.length : Int))) with hb0 | hb0
  ·
   rw [hb0] at hF
   iterate 3 refine lsn hF rfl rfl rfl rfl rfl rfl rfl (fun a hF => ?_)
   refine ls hF hW rfl ((y_pick_t hF rfl rfl rfl).q) (fun a w hF hW => ?_)
   refine ls_nil (c_then ?_)
   exact ⟨hF.re ⟨rfl, rfl, rfl, rfl, rfl, (by show some (Value.bool true) = some (Value.bool (decide (40 < (p0.length : Int)) || decide (40 < (p3.length : Int)))); try rw [hb0]; all_goals simp only [Bool.not_true, Bool.not_false, Bool.true_and, Bool.false_and, Bool.true_or, Bool.false_or, Bool.and_true, Bool.or_false, cond_true, cond_false]), trivial⟩, hW⟩
  ·
   rw [hb0] at hF
   refine ls_w hF hW (wanted_y hF rfl rfl rfl rfl) rfl (Nat.le_of_ble_eq_true rfl) ((y_move hF rfl).q) (fun a w hF hW => ?_)
   refine ls_w hF hW (wanted_y hF rfl rfl rfl rfl) rfl (Nat.le_of_ble_eq_true rfl) ((y_len (r := (Rp.int .i64)) (l := p3) u23_ rfl hF rfl (rdc_ro h_v2)).q) (fun a w hF hW => ?_)
   refine ls_w hF hW (wanted_y hF rfl rfl rfl rfl) rfl (Nat.le_of_ble_eq_true rfl) ((y_gtr hF rfl rfl).q) (fun a w hF hW => ?_)
   refine ls hF hW rfl ((y_pick_f hF rfl rfl rfl).q) (fun a w hF hW => ?_)
   refine ls_nil (c_then ?_)
   exact ⟨hF.re ⟨rfl, rfl, rfl, rfl, rfl, (by show some (Value.bool (decide (40 < (p3.length : Int)))) = some (Value.bool (decide (40 < (p0.length : Int)) || decide (40 < (p3.length : Int)))); try rw [hb0]; all_goals simp only [Bool.not_true, Bool.not_false, Bool.true_and, Bool.false_and, Bool.true_or, Bool.false_or, Bool.and_true, Bool.or_false, cond_true, cond_false]), trivial⟩, hW⟩
 rintro a w ⟨hF, hW⟩
 refine c_cond hF rfl (fun hb => ?_) (fun hb => ?_)
 ·
  have H := iteT hb H
  rw [hb] at hF
  clear hb
  refine c_seq (reg_list ?_)
  obtain ⟨x1, h1, H⟩ := bindE H
  refine ls hF hW rfl (y_call (v := Value.bool x1) hF H6 rfl (fun w hW => L18_awake_c any w _ h1)) (fun a w hF hW => ?_)
  refine ls hF hW rfl ((y_assign hF rfl).q) (fun a w hF hW => ?_)
  refine ls_nil (c_then ?_)
  refine wr_ret ?_
  refine r_then ?_
  have H := Option.some.inj H
  subst H
  refine post1 (.inl rfl) hF hW rfl (rv_tmp hF rfl) ?_
  exact ⟨rfl, hW.done⟩
 ·
  have H := iteF (by rw [hb]; decide) H
  rw [hb] at hF
  clear hb
  refine wr_skip ?_
  refine c_then ?_
  refine c_seq (reg_list ?_)
  refine ls hF hW rfl ((y_move hF rfl).q) (fun a w hF hW => ?_)
  obtain ⟨x2, h2, H⟩ := bindE H
  refine l_callG (Ml := []) (Zl := []) (M := []) (Z := []) (β := Value) (rv := fun x => x) (MM := fun x => []) (ZZ := fun x => [row x 32 (Rp.flt .f64) x2]) hF hW H7 rfl rfl (fun hL => weigh_Of_c _ w (v1) p0 _ h2 ((rdc_ro h_v1) w hW).nx) (fun x a w hF hW => ?_)
  obtain ⟨v3, rfl⟩ : ∃ y, y = x := ⟨x, rfl⟩
  have hW : Stw ⟨Y, [], w0⟩ [] [row v3 32 (Rp.flt .f64) x2] w := hW
  refine ls hF hW rfl ((y_assign hF rfl).q) (fun a w hF hW => ?_)
  refine ls_nil (c_then ?_)
  refine c_seq (reg_list ?_)
  refine ls hF hW rfl ((y_move hF rfl).q) (fun a w hF hW => ?_)
  obtain ⟨x3, h3, H⟩ := bindE H
  refine l_callG (Ml := []) (Zl := []) (M := []) (Z := [row v3 32 (Rp.flt .f64) x2]) (β := Value) (rv := fun x => x) (MM := fun x => []) (ZZ := fun x => [row x 30 (Rp.int .u64) x3]) hF hW H8 rfl rfl (fun hL => weigh_Bits_c _ w (v3) x2 _ h3 ((rdc_row 0 rfl) w hW).nx) (fun x a w hF hW => ?_)
  obtain ⟨v4, rfl⟩ : ∃ y, y = x := ⟨x, rfl⟩
  have hW : Stw ⟨Y, [], w0⟩ [] [row v4 30 (Rp.int .u64) x3, row v3 32 (Rp.flt .f64) x2] w := hW
  refine ls hF hW rfl ((y_assign hF rfl).q) (fun a w hF hW => ?_)
  refine ls_nil (c_then ?_)
  refine c_seq ?_
  obtain ⟨o1, G1, K1⟩ := bindE H
  refine c_seqJ (fun a w => ∃ x4 : Bool, some (x4) = some o1 ∧ Fr 75 [] [(0, v1), (8, .bool false), (10, v4), (57, .bool x4)] a ∧ Stw ⟨Y, [], w0⟩ [] [row v4 30 (Rp.int .u64) x3] w) ?_ ?_
  ·
   have H := G1
   clear G1 K1
   refine reg_list ?_
   refine ls hF hW rfl ((y_move hF rfl).q) (fun a w hF hW => ?_)
   refine ls hF hW rfl ((y_len (r := (Rp.int .u64)) (l := x3) u22_ rfl hF rfl (rdc_row 0 rfl)).q) (fun a w hF hW => ?_)
   refine ls hF hW rfl ((y_move hF rfl).q) (fun a w hF hW => ?_)
   refine ls hF hW rfl ((y_len (r := (Rp.int .u64)) (l := p0) u22_ rfl hF rfl (rdc_ro h_v1)).q) (fun a w hF hW => ?_)
   refine ls hF hW rfl ((y_neq hF rfl rfl).q) (fun a w hF hW => ?_)
   refine ls hF hW rfl ((y_move hF rfl).q) (fun a w hF hW => ?_)
   rcases Bool.eq_false_or_eq_true (decide ((x3.length : Int) ≠ (p0.length : Int))) with hb | hb
   ·
    have H := iteT (of_decide_eq_true hb) H
    rw [hb] at hF
    clear hb
    iterate 7 refine lsn hF rfl rfl rfl rfl rfl rfl rfl (fun a hF => ?_)
    refine ls hF hW rfl ((y_pick_t hF rfl rfl rfl).q) (fun a w hF hW => ?_)
    refine ls hF hW rfl ((y_move hF rfl).q) (fun a w hF hW => ?_)
    iterate 7 refine lsn hF rfl rfl rfl rfl rfl rfl rfl (fun a hF => ?_)
    refine ls hF hW rfl ((y_pick_t hF rfl rfl rfl).q) (fun a w hF hW => ?_)
    refine ls hF hW rfl ((y_move hF rfl).q) (fun a w hF hW => ?_)
    iterate 8 refine lsn hF rfl rfl rfl rfl rfl rfl rfl (fun a hF => ?_)
    refine ls hF hW rfl ((y_pick_t hF rfl rfl rfl).q) (fun a w hF hW => ?_)
    refine ls_nil (c_then ?_)
    have hW := hW.sub (M' := []) (Z' := [row v4 30 (Rp.int .u64) x3]) (List.Sublist.refl _) (List.Sublist.cons_cons _ (List.nil_sublist _))
    exact ⟨_, H, hF.re ⟨rfl, rfl, rfl, rfl, trivial⟩, hW⟩
   ·
    have H := iteF (of_decide_eq_false hb) H
    rw [hb] at hF
    clear hb
    iterate 2 refine ls_w hF hW (wanted_y hF rfl rfl rfl rfl) rfl (Nat.le_of_ble_eq_true rfl) ((y_move hF rfl).q) (fun a w hF hW => ?_)
    refine ls_g (wanted_y hF rfl rfl rfl rfl) ?_
    obtain ⟨x5, h4, H⟩ := bindE H
    refine ls hF hW rfl (y_call (v := Value.bool x5) hF H9 rfl (fun w hW => weigh_Right_c any w (v3) x2 p1 _ h4 (((rdc_row 1 rfl) : Rdc _ _ _ _ _ _) w hW).nx)) (fun a w hF hW => ?_)
    iterate 2 refine ls_w hF hW (wanted_y hF rfl rfl rfl rfl) rfl (Nat.le_of_ble_eq_true rfl) ((y_move hF rfl).q) (fun a w hF hW => ?_)
    refine ls_g (wanted_y hF rfl rfl rfl rfl) ?_
    obtain ⟨x6, h5, H⟩ := bindE H
    refine ls hF hW rfl (y_call (v := Value.bool x6) hF H10 rfl (fun w hW => r18_Right_c any w (v1) p0 p1 _ h5 (((rdc_ro h_v1) : Rdc _ _ _ _ _ _) w hW).nx)) (fun a w hF hW => ?_)
    refine ls_w hF hW (wanted_y hF rfl rfl rfl rfl) rfl (Nat.le_of_ble_eq_true rfl) ((y_neb u4_ hF rfl rfl).q) (fun a w hF hW => ?_)
    refine ls hF hW rfl ((y_pick_f hF rfl rfl rfl).q) (fun a w hF hW => ?_)
    refine ls hF hW rfl ((y_move hF rfl).q) (fun a w hF hW => ?_)
    rcases Bool.eq_false_or_eq_true (decide (x5 ≠ x6)) with hb | hb
    ·
     have H := iteT (of_decide_eq_true hb) H
     rw [hb] at hF
     clear hb
     iterate 7 refine lsn hF rfl rfl rfl rfl rfl rfl rfl (fun a hF => ?_)
     refine ls hF hW rfl ((y_pick_t hF rfl rfl rfl).q) (fun a w hF hW => ?_)
     refine ls hF hW rfl ((y_move hF rfl).q) (fun a w hF hW => ?_)
     iterate 8 refine lsn hF rfl rfl rfl rfl rfl rfl rfl (fun a hF => ?_)
     refine ls hF hW rfl ((y_pick_t hF rfl rfl rfl).q) (fun a w hF hW => ?_)
     refine ls_nil (c_then ?_)
     have hW := hW.sub (M' := []) (Z' := [row v4 30 (Rp.int .u64) x3]) (List.Sublist.refl _) (List.Sublist.cons_cons _ (List.nil_sublist _))
     exact ⟨_, H, hF.re ⟨rfl, rfl, rfl, rfl, trivial⟩, hW⟩
    ·
     have H := iteF (of_decide_eq_false hb) H
     rw [hb] at hF
     clear hb
     iterate 2 refine ls_w hF hW (wanted_y hF rfl rfl rfl rfl) rfl (Nat.le_of_ble_eq_true rfl) ((y_move hF rfl).q) (fun a w hF hW => ?_)
     refine ls_g (wanted_y hF rfl rfl rfl rfl) ?_
     obtain ⟨x7, h6, H⟩ := bindE H
     refine ls hF hW rfl (y_call (v := Value.bool x7) hF H11 rfl (fun w hW => weigh_Up_c any w (v3) x2 p2 _ h6 (((rdc_row 1 rfl) : Rdc _ _ _ _ _ _) w hW).nx)) (fun a w hF hW => ?_)
     iterate 2 refine ls_w hF hW (wanted_y hF rfl rfl rfl rfl) rfl (Nat.le_of_ble_eq_true rfl) ((y_move hF rfl).q) (fun a w hF hW => ?_)
     refine ls_g (wanted_y hF rfl rfl rfl rfl) ?_
     obtain ⟨x8, h7, H⟩ := bindE H
     refine ls hF hW rfl (y_call (v := Value.bool x8) hF H12 rfl (fun w hW => r18_Up_c any w (v1) p0 p2 _ h7 (((rdc_ro h_v1) : Rdc _ _ _ _ _ _) w hW).nx)) (fun a w hF hW => ?_)
     refine ls_w hF hW (wanted_y hF rfl rfl rfl rfl) rfl (Nat.le_of_ble_eq_true rfl) ((y_neb u4_ hF rfl rfl).q) (fun a w hF hW => ?_)
     refine ls hF hW rfl ((y_pick_f hF rfl rfl rfl).q) (fun a w hF hW => ?_)
     refine ls hF hW rfl ((y_move hF rfl).q) (fun a w hF hW => ?_)
     rcases Bool.eq_false_or_eq_true (decide (x7 ≠ x8)) with hb | hb
     ·
      have H := iteT (of_decide_eq_true hb) H
      rw [hb] at hF
      clear hb
      iterate 8 refine lsn hF rfl rfl rfl rfl rfl rfl rfl (fun a hF => ?_)
      refine ls hF hW rfl ((y_pick_t hF rfl rfl rfl).q) (fun a w hF hW => ?_)
      refine ls_nil (c_then ?_)
      have hW := hW.sub (M' := []) (Z' := [row v4 30 (Rp.int .u64) x3]) (List.Sublist.refl _) (List.Sublist.cons_cons _ (List.nil_sublist _))
      exact ⟨_, H, hF.re ⟨rfl, rfl, rfl, rfl, trivial⟩, hW⟩
     ·
      have H := iteF (of_decide_eq_false hb) H
      rw [hb] at hF
      clear hb
      iterate 2 refine ls_w hF hW (wanted_y hF rfl rfl rfl rfl) rfl (Nat.le_of_ble_eq_true rfl) ((y_move hF rfl).q) (fun a w hF hW => ?_)
      refine ls_g (wanted_y hF rfl rfl rfl rfl) ?_
      obtain ⟨x9, h8, H⟩ := bindE H
      refine ls hF hW rfl (y_call (v := Value.float .f64 x9) hF H14 rfl (fun w hW => weigh_Walk_c any w (v3) (v2) x2 p3 _ h8 (((rdc_row 1 rfl) : Rdc _ _ _ _ _ _) w hW).nx (((rdc_ro h_v2) : Rdc _ _ _ _ _ _) w hW).nx)) (fun a w hF hW => ?_)
      refine ls_g (wanted_y hF rfl rfl rfl rfl) ?_
      refine ls hF hW rfl (y_call (v := Value.int .u64 (float_Bits x9)) hF H13 rfl (fun w hW => float_Bits_c any w x9 _ rfl)) (fun a w hF hW => ?_)
      iterate 2 refine ls_w hF hW (wanted_y hF rfl rfl rfl rfl) rfl (Nat.le_of_ble_eq_true rfl) ((y_move hF rfl).q) (fun a w hF hW => ?_)
      refine ls_g (wanted_y hF rfl rfl rfl rfl) ?_
      obtain ⟨x10, h9, H⟩ := bindE H
      refine ls hF hW rfl (y_call (v := Value.int .u64 x10) hF H15 rfl (fun w hW => r18_Walk_c any w (v1) (v2) p0 p3 _ h9 (((rdc_ro h_v1) : Rdc _ _ _ _ _ _) w hW).nx (((rdc_ro h_v2) : Rdc _ _ _ _ _ _) w hW).nx)) (fun a w hF hW => ?_)
      refine ls_w hF hW (wanted_y hF rfl rfl rfl rfl) rfl (Nat.le_of_ble_eq_true rfl) ((y_neq hF rfl rfl).q) (fun a w hF hW => ?_)
      refine ls hF hW rfl ((y_pick_f hF rfl rfl rfl).q) (fun a w hF hW => ?_)
      refine ls_nil (c_then ?_)
      have hW := hW.sub (M' := []) (Z' := [row v4 30 (Rp.int .u64) x3]) (List.Sublist.refl _) (List.Sublist.cons_cons _ (List.nil_sublist _))
      exact ⟨_, H, hF.re ⟨rfl, rfl, rfl, rfl, trivial⟩, hW⟩
  rintro a w ⟨x4, hj, hF, hW⟩
  have hj := Option.some.inj hj
  subst hj
  have H := K1
  clear G1 K1
  refine c_cond hF rfl (fun hb => ?_) (fun hb => ?_)
  ·
   have H := iteT hb H
   rw [hb] at hF
   clear hb
   refine c_seq (reg_list ?_)
   refine ls hF hW rfl ((y_assign hF rfl).q) (fun a w hF hW => ?_)
   refine ls_nil (c_then ?_)
   refine wr_ret ?_
   refine r_then ?_
   have H := Option.some.inj H
   subst H
   refine post1 (.inl rfl) hF hW rfl (rv_tmp hF rfl) ?_
   exact ⟨rfl, hW.done⟩
  ·
   have H := iteF (by rw [hb]; decide) H
   rw [hb] at hF
   clear hb
   refine wr_skip ?_
   refine c_then ?_
   obtain ⟨o2, G2, K2, L2⟩ := orE H
   refine c_seqJ (fun a w => some (Sum.inl ()) = some o2 ∧ Fr 75 [] [(8, .bool false)] a ∧ Stw ⟨Y, [], w0⟩ [] [] w) ?_ ?_
   ·
    have H := G2
    clear G2 K2
    refine c_seq (reg_list ?_)
    refine ls hF hW rfl ((y_assign hF rfl).q) (fun a w hF hW => ?_)
    refine ls_nil (c_then ?_)
    refine wr_block ?_
    refine c_loopW H (fun s a w => Fr 75 [] [(0, v1), (8, .bool false), (10, v4), (11, .int .i64 s)] a ∧ Stw ⟨Y, [], w0⟩ [] [row v4 30 (Rp.int .u64) x3] w) ⟨hF.re ⟨rfl, rfl, rfl, rfl, trivial⟩, hW⟩ (fun s o a w H L3 hR => ?_)
    obtain ⟨x11, rfl⟩ : ∃ x, x = s := ⟨s, rfl⟩
    obtain ⟨hF, hW⟩ := hR
    have hF : Fr 75 [] [(0, v1), (8, .bool false), (10, v4), (11, .int .i64 x11)] a := hF
    have hW : Stw ⟨Y, [], w0⟩ [] [row v4 30 (Rp.int .u64) x3] w := hW
    rw [L18_WeighTells_l1] at H
    refine c_seq ?_
    refine c_seq (reg_list ?_)
    iterate 2 refine ls hF hW rfl ((y_move hF rfl).q) (fun a w hF hW => ?_)
    refine ls hF hW rfl ((y_len (r := (Rp.int .u64)) (l := x3) u22_ rfl hF rfl (rdc_row 0 rfl)).q) (fun a w hF hW => ?_)
    refine ls hF hW rfl ((y_lss hF rfl rfl).q) (fun a w hF hW => ?_)
    refine ls_nil (c_then ?_)
    refine c_cond hF rfl (fun hb => ?_) (fun hb => ?_)
    ·
     have H := iteT (of_decide_eq_true hb) H
     rw [hb] at hF
     clear hb
     refine wr_skip ?_
     refine c_then ?_
     refine c_seq ?_
     refine wr_block ?_
     refine c_seq ?_
     refine reg_quiet hW MO (by kernel_rfl) ?_
     iterate 2 refine qs hF rfl ((y_move hF rfl).q) (fun a hF => ?_)
     obtain ⟨x12, h10, H⟩ := bindE H
     refine qs hF rfl ((y_index (r := (Rp.int .u64)) L22 hF rfl rfl (rdc_row 0 rfl) h10).q) (fun a hF => ?_)
     refine qs hF rfl ((y_load_el (y := Value.int .u64 x12) (j := 0) (i := x11) hF rfl rfl (rdc_row 0 rfl) h10 Fl.int.to T30 rfl).q) (fun a hF => ?_)
     iterate 2 refine qs hF rfl ((y_move hF rfl).q) (fun a hF => ?_)
     obtain ⟨x13, h11, H⟩ := bindE H
     refine qs hF rfl ((y_index (r := (Rp.int .u64)) L22 hF rfl rfl (rdc_ro h_v1) h11).q) (fun a hF => ?_)
     refine qs hF rfl ((y_load_el (y := Value.int .u64 x13) (j := 0) (i := x11) hF rfl rfl (rdc_ro h_v1) h11 Fl.int.to T30 rfl).q) (fun a hF => ?_)
     refine qs hF rfl (y_call (v := Value.int .u64 (r03_Clean x13)) hF H16 rfl (fun w hW => r03_Clean_c any w x13 _ rfl)) (fun a hF => ?_)
     refine qs hF rfl ((y_neq hF rfl rfl).q) (fun a hF => ?_)
     refine quiet_end (fun w hW => ?_)
     refine c_then ?_
     refine c_cond hF rfl (fun hb => ?_) (fun hb => ?_)
     ·
      have H := iteT (of_decide_eq_true hb) H
      rw [hb] at hF
      clear hb
      refine c_seq (reg_list ?_)
      refine ls hF hW rfl ((y_assign hF rfl).q) (fun a w hF hW => ?_)
      refine ls_nil (c_then ?_)
      refine wr_ret ?_
      refine r_block ?_
      iterate 2 refine r_then ?_
      refine r_block ?_
      refine r_then ?_
      have H := L3 _ H
      have H := L2 _ H
      have H := Option.some.inj H
      subst H
      refine post1 (.inl rfl) hF hW rfl (rv_tmp hF rfl) ?_
      exact ⟨rfl, hW.done⟩
     ·
      have H := iteF (of_decide_eq_false hb) H
      rw [hb] at hF
      clear hb
      refine wr_skip ?_
      refine b_normal ?_
      refine c_then ?_
      refine reg_list ?_
      refine ls hF hW rfl ((y_move hF rfl).q) (fun a w hF hW => ?_)
      refine ls hF hW rfl ((y_add hF rfl rfl rfl).q) (fun a w hF hW => ?_)
      refine ls hF hW rfl ((y_assign hF rfl).q) (fun a w hF hW => ?_)
      refine ls_nil (c_then ?_)
      exact ⟨_, H, hF.re ⟨rfl, rfl, rfl, rfl, trivial⟩, hW⟩
    ·
     have H := iteF (of_decide_eq_false hb) H
     rw [hb] at hF
     clear hb
     refine wr_exit ?_
     iterate 2 refine e_then ?_
     refine e_block ?_
     refine c_then ?_
     have hW := hW.sub (M' := []) (Z' := []) (List.Sublist.refl _) (List.nil_sublist _)
     have H := L3 _ H
     exact ⟨H, hF.re ⟨rfl, trivial⟩, hW⟩
   rintro a w ⟨hj, hF, hW⟩
   have H := K2 _ hj
   clear hj G2 K2 L2
   refine c_seq (reg_list ?_)
   obtain ⟨x14, h12, H⟩ := bindE H
   refine ls hF hW rfl (y_call (v := Value.bool x14) hF H6 rfl (fun w hW => L18_awake_c any w _ h12)) (fun a w hF hW => ?_)
   refine ls hF hW rfl ((y_assign hF rfl).q) (fun a w hF hW => ?_)
   refine ls_nil (c_then ?_)
   refine wr_ret ?_
   have H := Option.some.inj H
   subst H
   refine post1 (.inl rfl) hF hW rfl (rv_tmp hF rfl) ?_
   exact ⟨rfl, hW.done⟩

def r03_Place (p0 : Int) : Int := (if 9223372036854775808 ≤ (r03_Clean p0) then IntKind.u64.wrap (9223372036854775807 - (Int.tmod (r03_Clean p0) 9223372036854775808)) else IntKind.u64.wrap (9223372036854775808 + (r03_Clean p0)))
theorem r03_Place_c (Y : Nat → Prop) (w0 : World)  (p0 : Int) (r : Int) (H : r03_Place p0 = r)  :
    Calls Try.prog 32 #[.int .u64 p0] w0 fun e w' => e = .returned (.int .u64 r) ∧ Below w0.heap.size w0 w' := by
 refine enter Try.func32 rfl Try.ntmps32 rfl (fun a hF => ?_)
 have hW := Stw.start Y w0
 unfold r03_Place at H
 refine c_seq (reg_list ?_)
 refine ls hF hW rfl ((y_assign hF rfl).q) (fun a w hF hW => ?_)
 refine ls_nil (c_then ?_)
 refine c_seq (reg_list ?_)
 refine ls hF hW rfl ((y_move hF rfl).q) (fun a w hF hW => ?_)
 refine ls hF hW rfl (y_call (v := Value.int .u64 (r03_Clean p0)) hF H16 rfl (fun w hW => r03_Clean_c any w p0 _ rfl)) (fun a w hF hW => ?_)
 refine ls hF hW rfl ((y_assign hF rfl).q) (fun a w hF hW => ?_)
 refine ls_nil (c_then ?_)
 refine c_seq ?_
 refine c_seq (reg_list ?_)
 refine ls hF hW rfl ((y_move hF rfl).q) (fun a w hF hW => ?_)
 refine ls hF hW rfl ((y_geq hF rfl rfl).q) (fun a w hF hW => ?_)
 refine ls_nil (c_then ?_)
 refine c_cond hF rfl (fun hb => ?_) (fun hb => ?_)
 ·
  have H := iteT (of_decide_eq_true hb) H
  rw [hb] at hF
  clear hb
  refine c_seq (reg_list ?_)
  refine ls hF hW rfl ((y_move hF rfl).q) (fun a w hF hW => ?_)
  refine ls hF hW rfl ((y_rem hF rfl rfl (by decide) rfl).q) (fun a w hF hW => ?_)
  refine ls hF hW rfl ((y_sub hF rfl rfl rfl).q) (fun a w hF hW => ?_)
  refine ls hF hW rfl ((y_assign hF rfl).q) (fun a w hF hW => ?_)
  refine ls_nil (c_then ?_)
  refine wr_ret ?_
  refine r_then ?_
  subst H
  refine post1 (.inl rfl) hF hW rfl (rv_tmp hF rfl) ?_
  exact ⟨rfl, hW.done⟩
 ·
  have H := iteF (of_decide_eq_false hb) H
  rw [hb] at hF
  clear hb
  refine wr_skip ?_
  refine c_then ?_
  refine c_seq (reg_list ?_)
  refine ls hF hW rfl ((y_move hF rfl).q) (fun a w hF hW => ?_)
  refine ls hF hW rfl ((y_add hF rfl rfl rfl).q) (fun a w hF hW => ?_)
  refine ls hF hW rfl ((y_assign hF rfl).q) (fun a w hF hW => ?_)
  refine ls_nil (c_then ?_)
  refine wr_ret ?_
  subst H
  refine post1 (.inl rfl) hF hW rfl (rv_tmp hF rfl) ?_
  exact ⟨rfl, hW.done⟩

theorem H32 : Has Try.prog 32 := ⟨fun args w => run_callFunc_body Try.func32 rfl (by decide) args w⟩
noncomputable def r18_Least_l1 (p0 : List Int) (p1 : List (List Int)) : (Int × Int) → Option ((Int × Int) ⊕ Int)
  | (x2, x3) => (if x3 < (p1.length : Int) then ((if x2 = (-1) then some true else (ix p1 x3).bind fun x6 => (r18_Walk p0 x6).bind fun x7 => (ix p1 x2).bind fun x8 => (r18_Walk p0 x8).bind fun x9 => some (decide ((r03_Place x7) < (r03_Place x9)))).bind fun x5 => (if x5 = true then some x3 else some x2)).bind fun x4 => some (.inl (x4, w64 (x3 + 1))) else some (.inr x2))
noncomputable def r18_Least (p0 : List Int) (p1 : List (List Int)) : Option Int := (loopW (r18_Least_l1 p0 p1) ((-1), 0)).bind fun x1 => some x1
theorem r18_Least_c (Y : Nat → Prop) (w0 : World) (v1 : Value) (v2 : Value) (p0 : List Int) (p1 : List (List Int)) (r : Int) (H : r18_Least p0 p1 = some r) (h_v1 : Sl w0 (NX []) (Rp.int .u64) v1 p0) (h_v2 : Sl w0 (NX []) (Rp.slice (Rp.int .i64)) v2 p1) :
    Calls Try.prog 18 #[v1, v2] w0 fun e w' => e = .returned (.int .i64 r) ∧ Below w0.heap.size w0 w' := by
 refine enter Try.func18 rfl Try.ntmps18 rfl (fun a hF => ?_)
 have hW := Stw.start Y w0
 obtain ⟨v3, h1, h_v2⟩ := h_v2.ex EX23
 unfold r18_Least at H
 refine c_seq (reg_list ?_)
 refine ls hF hW rfl ((y_assign hF rfl).q) (fun a w hF hW => ?_)
 refine ls_nil (c_then ?_)
 refine c_seq (reg_list ?_)
 refine ls hF hW rfl ((y_assign hF rfl).q) (fun a w hF hW => ?_)
 refine ls_nil (c_then ?_)
 obtain ⟨o1, G1, K1⟩ := bindE H
 refine c_seqJ (fun a w => ∃ x1 : Int, some (x1) = some o1 ∧ Fr 34 [] [(4, .int .i64 0), (5, .int .i64 x1)] a ∧ Stw ⟨Y, [], w0⟩ [] [] w) ?_ ?_
 ·
  have H := G1
  clear G1 K1
  refine c_seq (reg_list ?_)
  refine ls hF hW rfl ((y_assign hF rfl).q) (fun a w hF hW => ?_)
  refine ls_nil (c_then ?_)
  refine wr_block ?_
  refine c_loopW H (fun s a w => Fr 34 [] [(0, v1), (1, v2), (4, .int .i64 0), (5, .int .i64 s.1), (6, .int .i64 s.2)] a ∧ Stw ⟨Y, [], w0⟩ [] [] w) ⟨hF.re ⟨rfl, rfl, rfl, rfl, rfl, trivial⟩, hW⟩ (fun s o a w H L2 hR => ?_)
  obtain ⟨x2, x3⟩ := s
  obtain ⟨hF, hW⟩ := hR
  have hF : Fr 34 [] [(0, v1), (1, v2), (4, .int .i64 0), (5, .int .i64 x2), (6, .int .i64 x3)] a := hF
  have hW : Stw ⟨Y, [], w0⟩ [] [] w := hW
  rw [r18_Least_l1] at H
  refine c_seq ?_
  refine c_seq (reg_list ?_)
  iterate 2 refine ls hF hW rfl ((y_move hF rfl).q) (fun a w hF hW => ?_)
  refine ls hF hW rfl ((y_len (r := (Rp.slice (Rp.int .i64))) (l := p1) u37_ rfl hF rfl (rdc_hide EX23 h1 (rdc_ro h_v2))).q) (fun a w hF hW => ?_)
  refine ls hF hW rfl ((y_lss hF rfl rfl).q) (fun a w hF hW => ?_)
  refine ls_nil (c_then ?_)
  refine c_cond hF rfl (fun hb => ?_) (fun hb => ?_)
  ·
   have H := iteT (of_decide_eq_true hb) H
   rw [hb] at hF
   clear hb
   refine wr_skip ?_
   refine c_then ?_
   obtain ⟨o3, G3, K3⟩ := bindE H
   refine c_seqJ (fun a w => ∃ x4 : Int, some (x4) = some o3 ∧ Fr 34 [] [(0, v1), (1, v2), (4, .int .i64 0), (5, .int .i64 x4), (6, .int .i64 x3)] a ∧ Stw ⟨Y, [], w0⟩ [] [] w) ?_ ?_
   ·
    have H := G3
    clear G3 K3
    refine wr_block ?_
    obtain ⟨o4, G4, K4⟩ := bindE H
    refine c_seqJ (fun a w => ∃ x5 : Bool, some (x5) = some o4 ∧ Fr 34 [] [(0, v1), (1, v2), (4, .int .i64 0), (5, .int .i64 x2), (6, .int .i64 x3), (31, .bool x5)] a ∧ Stw ⟨Y, [], w0⟩ [] [] w) ?_ ?_
    ·
     have H := G4
     clear G4 K4
     refine reg_quiet hW MO (by kernel_rfl) ?_
     refine qs hF rfl ((y_move hF rfl).q) (fun a hF => ?_)
     refine qs hF rfl ((y_eql hF rfl rfl).q) (fun a hF => ?_)
     refine qs hF rfl ((y_move hF rfl).q) (fun a hF => ?_)
     rcases Bool.eq_false_or_eq_true (decide (x2 = (-1))) with hb | hb
     ·
      have H := iteT (of_decide_eq_true hb) H
      rw [hb] at hF
      clear hb
      iterate 15 refine qs_skip hF (wanted_n hF rfl rfl rfl rfl rfl) rfl rfl (fun a hF => ?_)
      refine qs hF rfl ((y_pick_t hF rfl rfl rfl).q) (fun a hF => ?_)
      refine quiet_end (fun w hW => ?_)
      refine c_then ?_
      exact ⟨_, H, hF.re ⟨rfl, rfl, rfl, rfl, rfl, rfl, trivial⟩, hW⟩
     ·
      have H := iteF (of_decide_eq_false hb) H
      rw [hb] at hF
      clear hb
      iterate 3 refine qs_w hF (wanted_y hF rfl rfl rfl rfl) rfl (Nat.le_of_ble_eq_true rfl) ((y_move hF rfl).q) (fun a hF => ?_)
      obtain ⟨x6, h2, H⟩ := bindE H
      obtain ⟨v4, h3, h4⟩ := ix_ex h1 h2
      have h5 : EE23 v4 = [(v4.1)] := congrArg (fun q : List Int => ([(v4.1)] : List Value)) h4
      refine qs_w hF (wanted_y hF rfl rfl rfl rfl) rfl (Nat.le_of_ble_eq_true rfl) ((y_index (r := (Rp.vsl (Rp.int .i64))) L37 hF rfl rfl (rdc_ro h_v2) h3).q) (fun a hF => ?_)
      refine qs_w hF (wanted_y hF rfl rfl rfl rfl) rfl (Nat.le_of_ble_eq_true rfl) ((y_load_el (y := (v4.1)) (j := 0) (i := x3) (enc := EE23) hF rfl rfl (rdc_ro h_v2) h3 FE23 T23 (by rw [h5]; rfl)).q) (fun a hF => ?_)
      obtain ⟨x7, h6, H⟩ := bindE H
      refine qs_w hF (wanted_y hF rfl rfl rfl rfl) rfl (Nat.le_of_ble_eq_true rfl) (y_call (v := Value.int .u64 x7) hF H15 rfl (fun w hW => r18_Walk_c any w (v1) ((v4.1)) p0 x6 _ h6 (((rdc_ro h_v1) : Rdc _ _ _ _ _ _) w hW).nx (((rdc_at (rdc_ro h_v2) h3 Path.here (congrArg (fun q : List Int => q) h4)) : Rdc _ _ _ _ _ _) w hW).nx)) (fun a hF => ?_)
      refine qs_w hF (wanted_y hF rfl rfl rfl rfl) rfl (Nat.le_of_ble_eq_true rfl) (y_call (v := Value.int .u64 (r03_Place x7)) hF H32 rfl (fun w hW => r03_Place_c any w x7 _ rfl)) (fun a hF => ?_)
      iterate 3 refine qs_w hF (wanted_y hF rfl rfl rfl rfl) rfl (Nat.le_of_ble_eq_true rfl) ((y_move hF rfl).q) (fun a hF => ?_)
      obtain ⟨x8, h7, H⟩ := bindE H
      obtain ⟨v5, h8, h9⟩ := ix_ex h1 h7
      have h10 : EE23 v5 = [(v5.1)] := congrArg (fun q : List Int => ([(v5.1)] : List Value)) h9
      refine qs_w hF (wanted_y hF rfl rfl rfl rfl) rfl (Nat.le_of_ble_eq_true rfl) ((y_index (r := (Rp.vsl (Rp.int .i64))) L37 hF rfl rfl (rdc_ro h_v2) h8).q) (fun a hF => ?_)
      refine qs_w hF (wanted_y hF rfl rfl rfl rfl) rfl (Nat.le_of_ble_eq_true rfl) ((y_load_el (y := (v5.1)) (j := 0) (i := x2) (enc := EE23) hF rfl rfl (rdc_ro h_v2) h8 FE23 T23 (by rw [h10]; rfl)).q) (fun a hF => ?_)
      obtain ⟨x9, h11, H⟩ := bindE H
      refine qs_w hF (wanted_y hF rfl rfl rfl rfl) rfl (Nat.le_of_ble_eq_true rfl) (y_call (v := Value.int .u64 x9) hF H15 rfl (fun w hW => r18_Walk_c any w (v1) ((v5.1)) p0 x8 _ h11 (((rdc_ro h_v1) : Rdc _ _ _ _ _ _) w hW).nx (((rdc_at (rdc_ro h_v2) h8 Path.here (congrArg (fun q : List Int => q) h9)) : Rdc _ _ _ _ _ _) w hW).nx)) (fun a hF => ?_)
      refine qs_w hF (wanted_y hF rfl rfl rfl rfl) rfl (Nat.le_of_ble_eq_true rfl) (y_call (v := Value.int .u64 (r03_Place x9)) hF H32 rfl (fun w hW => r03_Place_c any w x9 _ rfl)) (fun a hF => ?_)
      refine qs_w hF (wanted_y hF rfl rfl rfl rfl) rfl (Nat.le_of_ble_eq_true rfl) ((y_lss hF rfl rfl).q) (fun a hF => ?_)
      refine qs hF rfl ((y_pick_f hF rfl rfl rfl).q) (fun a hF => ?_)
      refine quiet_end (fun w hW => ?_)
      refine c_then ?_
      exact ⟨_, H, hF.re ⟨rfl, rfl, rfl, rfl, rfl, rfl, trivial⟩, hW⟩
    rintro a w ⟨x5, hj, hF, hW⟩
    have hj := Option.some.inj hj
    subst hj
    have H := K4
    clear G4 K4
    refine c_cond hF rfl (fun hb => ?_) (fun hb => ?_)
    ·
     have H := iteT hb H
     rw [hb] at hF
     clear hb
     refine reg_list ?_
     refine ls hF hW rfl ((y_move hF rfl).q) (fun a w hF hW => ?_)
     refine ls hF hW rfl ((y_assign hF rfl).q) (fun a w hF hW => ?_)
     refine ls_nil ?_
     refine b_normal ?_
     refine c_then ?_
     exact ⟨_, H, hF.re ⟨rfl, rfl, rfl, rfl, rfl, trivial⟩, hW⟩
    ·
     have H := iteF (by rw [hb]; decide) H
     rw [hb] at hF
     clear hb
     refine wr_skip ?_
     refine b_normal ?_
     refine c_then ?_
     exact ⟨_, H, hF.re ⟨rfl, rfl, rfl, rfl, rfl, trivial⟩, hW⟩
   rintro a w ⟨x4, hj, hF, hW⟩
   have hj := Option.some.inj hj
   subst hj
   have H := K3
   clear G3 K3
   refine reg_list ?_
   refine ls hF hW rfl ((y_move hF rfl).q) (fun a w hF hW => ?_)
   refine ls hF hW rfl ((y_add hF rfl rfl rfl).q) (fun a w hF hW => ?_)
   refine ls hF hW rfl ((y_assign hF rfl).q) (fun a w hF hW => ?_)
   refine ls_nil (c_then ?_)
   exact ⟨_, H, hF.re ⟨rfl, rfl, rfl, rfl, rfl, trivial⟩, hW⟩
  ·
   have H := iteF (of_decide_eq_false hb) H
   rw [hb] at hF
   clear hb
   refine wr_exit ?_
   iterate 2 refine e_then ?_
   refine e_block ?_
   refine c_then ?_
   have H := L2 _ H
   exact ⟨_, H, hF.re ⟨rfl, rfl, trivial⟩, hW⟩
 rintro a w ⟨x1, hj, hF, hW⟩
 have hj := Option.some.inj hj
 subst hj
 have H := K1
 clear G1 K1
 refine c_seq (reg_list ?_)
 refine ls hF hW rfl ((y_move hF rfl).q) (fun a w hF hW => ?_)
 refine ls hF hW rfl ((y_assign hF rfl).q) (fun a w hF hW => ?_)
 refine ls_nil (c_then ?_)
 refine wr_ret ?_
 have H := Option.some.inj H
 subst H
 refine post1 (.inl rfl) hF hW rfl (rv_tmp hF rfl) ?_
 exact ⟨rfl, hW.done⟩

theorem H18 : Has Try.prog 18 := ⟨fun args w => run_callFunc_body Try.func18 rfl (by decide) args w⟩
noncomputable def L18_WeighLeast_l1 (p1 : List (List Int)) : Int → Option (Int ⊕ (Unit ⊕ Bool))
  | x2 => (if x2 < (p1.length : Int) then (ix p1 x2).bind fun x3 => (if 20 < (x3.length : Int) then (L18_awake).bind fun x4 => some (.inr (.inr x4)) else some (.inl (w64 (x2 + 1)))) else some (.inr (.inl ())))
noncomputable def L18_WeighLeast_l2 (p0 : List Int) (p1 : List (List Int)) (x5 : List Nat) (x6 : Int) : Int → Option (Int ⊕ (Unit ⊕ Bool))
  | x8 => (if x8 < (p1.length : Int) then (if x6 < 0 then some true else (if (p1.length : Int) ≤ x6 then some true else (r18_Right p0 (p0.length : Int)).bind fun x10 => (if x10 = true then (ix p1 x8).bind fun x11 => (weigh_Walk x5 x11).bind fun x12 => (ix p1 x6).bind fun x13 => (weigh_Walk x5 x13).bind fun x14 => some (fLt x12 x14) else some false))).bind fun x9 => (if x9 = true then some (.inr (.inr false)) else some (.inl (w64 (x8 + 1)))) else some (.inr (.inl ())))
noncomputable def L18_WeighLeast (p0 : List Int) (p1 : List (List Int)) : Option Bool := (if (decide (20 < (p0.length : Int)) || decide (12 < (p1.length : Int))) = true then (L18_awake).bind fun x1 => some x1 else orR (loopW (L18_WeighLeast_l1 p1) 0) fun _ => (weigh_Of p0).bind fun x5 => (weigh_Least x5 p1).bind fun x6 => (r18_Least p0 p1).bind fun x7 => (if x6 ≠ x7 then some false else orR (loopW (L18_WeighLeast_l2 p0 p1 x5 x6) 0) fun _ => (L18_awake).bind fun x15 => some x15))
theorem L18_WeighLeast_c (Y : Nat → Prop) (w0 : World) (v1 : Value) (v2 : Value) (p0 : List Int) (p1 : List (List Int)) (r : Bool) (H : L18_WeighLeast p0 p1 = some r) (h_v1 : Sl w0 (NX []) (Rp.int .u64) v1 p0) (h_v2 : Sl w0 (NX []) (Rp.slice (Rp.int .i64)) v2 p1) :
    Calls Try.prog 4 #[v1, v2] w0 fun e w' => e = .returned (.bool r) ∧ Below w0.heap.size w0 w' := by
 refine enter Try.func4 rfl Try.ntmps4 rfl (fun a hF => ?_)
 have hW := Stw.start Y w0
 obtain ⟨v3, h1, h_v2⟩ := h_v2.ex EX23
 unfold L18_WeighLeast at H
 refine c_seq (reg_list ?_)
 refine ls hF hW rfl ((y_assign hF rfl).q) (fun a w hF hW => ?_)
 refine ls_nil (c_then ?_)
 refine c_seq ?_
 refine c_seqJ (fun a w => Fr 77 [] [(0, v1), (1, v2), (4, .bool false), (16, .bool (decide (20 < (p0.length : Int)) || decide (12 < (p1.length : Int))))] a ∧ Stw ⟨Y, [], w0⟩ [] [] w) ?_ ?_
 ·
  refine reg_list ?_
  refine ls hF hW rfl ((y_move hF rfl).q) (fun a w hF hW => ?_)
  refine ls hF hW rfl ((y_len (r := (Rp.int .u64)) (l := p0) u22_ rfl hF rfl (rdc_ro h_v1)).q) (fun a w hF hW => ?_)
  refine ls hF hW rfl ((y_gtr hF rfl rfl).q) (fun a w hF hW => ?_)
  refine ls hF hW rfl ((y_move hF rfl).q) (fun a w hF hW => ?_)
  rcases Bool.eq_false_or_eq_true (decide (20 < (p0.length : Int))) with hb0 | hb0
  ·
   rw [hb0] at hF
   iterate 3 refine lsn hF rfl rfl rfl rfl rfl rfl rfl (fun a hF => ?_)
   refine ls hF hW rfl ((y_pick_t hF rfl rfl rfl).q) (fun a w hF hW => ?_)
   refine ls_nil (c_then ?_)
   exact ⟨hF.re ⟨rfl, rfl, rfl, (by show some (Value.bool true) = some (Value.bool (decide (20 < (p0.length : Int)) || decide (12 < (p1.length : Int)))); try rw [hb0]; all_goals simp only [Bool.not_true, Bool.not_false, Bool.true_and, Bool.false_and, Bool.true_or, Bool.false_or, Bool.and_true, Bool.or_false, cond_true, cond_false]), trivial⟩, hW⟩
  ·
   rw [hb0] at hF
   refine ls_w hF hW (wanted_y hF rfl rfl rfl rfl) rfl (Nat.le_of_ble_eq_true rfl) ((y_move hF rfl).q) (fun a w hF hW => ?_)
   refine ls_w hF hW (wanted_y hF rfl rfl rfl rfl) rfl (Nat.le_of_ble_eq_true rfl) ((y_len (r := (Rp.slice (Rp.int .i64))) (l := p1) u37_ rfl hF rfl (rdc_hide EX23 h1 (rdc_ro h_v2))).q) (fun a w hF hW => ?_)
   refine ls_w hF hW (wanted_y hF rfl rfl rfl rfl) rfl (Nat.le_of_ble_eq_true rfl) ((y_gtr hF rfl rfl).q) (fun a w hF hW => ?_)
   refine ls hF hW rfl ((y_pick_f hF rfl rfl rfl).q) (fun a w hF hW => ?_)
   refine ls_nil (c_then ?_)
   exact ⟨hF.re ⟨rfl, rfl, rfl, (by show some (Value.bool (decide (12 < (p1.length : Int)))) = some (Value.bool (decide (20 < (p0.length : Int)) || decide (12 < (p1.length : Int)))); try rw [hb0]; all_goals simp only [Bool.not_true, Bool.not_false, Bool.true_and, Bool.false_and, Bool.true_or, Bool.false_or, Bool.and_true, Bool.or_false, cond_true, cond_false]), trivial⟩, hW⟩
 rintro a w ⟨hF, hW⟩
 refine c_cond hF rfl (fun hb => ?_) (fun hb => ?_)
 ·
  have H := iteT hb H
  rw [hb] at hF
  clear hb
  refine c_seq (reg_list ?_)
  obtain ⟨x1, h2, H⟩ := bindE H
  refine ls hF hW rfl (y_call (v := Value.bool x1) hF H6 rfl (fun w hW => L18_awake_c any w _ h2)) (fun a w hF hW => ?_)
  refine ls hF hW rfl ((y_assign hF rfl).q) (fun a w hF hW => ?_)
  refine ls_nil (c_then ?_)
  refine wr_ret ?_
  refine r_then ?_
  have H := Option.some.inj H
  subst H
  refine post1 (.inl rfl) hF hW rfl (rv_tmp hF rfl) ?_
  exact ⟨rfl, hW.done⟩
 ·
  have H := iteF (by rw [hb]; decide) H
  rw [hb] at hF
  clear hb
  refine wr_skip ?_
  refine c_then ?_
  obtain ⟨o1, G1, K1, L1⟩ := orE H
  refine c_seqJ (fun a w => some (Sum.inl ()) = some o1 ∧ Fr 77 [] [(0, v1), (1, v2), (4, .bool false)] a ∧ Stw ⟨Y, [], w0⟩ [] [] w) ?_ ?_
  ·
   have H := G1
   clear G1 K1
   refine c_seq (reg_list ?_)
   refine ls hF hW rfl ((y_assign hF rfl).q) (fun a w hF hW => ?_)
   refine ls_nil (c_then ?_)
   refine wr_block ?_
   refine c_loopW H (fun s a w => Fr 77 [] [(0, v1), (1, v2), (4, .bool false), (5, .int .i64 s)] a ∧ Stw ⟨Y, [], w0⟩ [] [] w) ⟨hF.re ⟨rfl, rfl, rfl, rfl, trivial⟩, hW⟩ (fun s o a w H L2 hR => ?_)
   obtain ⟨x2, rfl⟩ : ∃ x, x = s := ⟨s, rfl⟩
   obtain ⟨hF, hW⟩ := hR
   have hF : Fr 77 [] [(0, v1), (1, v2), (4, .bool false), (5, .int .i64 x2)] a := hF
   have hW : Stw ⟨Y, [], w0⟩ [] [] w := hW
   rw [L18_WeighLeast_l1] at H
   refine c_seq ?_
   refine c_seq (reg_list ?_)
   iterate 2 refine ls hF hW rfl ((y_move hF rfl).q) (fun a w hF hW => ?_)
   refine ls hF hW rfl ((y_len (r := (Rp.slice (Rp.int .i64))) (l := p1) u37_ rfl hF rfl (rdc_hide EX23 h1 (rdc_ro h_v2))).q) (fun a w hF hW => ?_)
   refine ls hF hW rfl ((y_lss hF rfl rfl).q) (fun a w hF hW => ?_)
   refine ls_nil (c_then ?_)
   refine c_cond hF rfl (fun hb => ?_) (fun hb => ?_)
   ·
    have H := iteT (of_decide_eq_true hb) H
    rw [hb] at hF
    clear hb
    refine wr_skip ?_
    refine c_then ?_
    refine c_seq ?_
    refine wr_block ?_
    refine c_seq (reg_list ?_)
    iterate 2 refine ls hF hW rfl ((y_move hF rfl).q) (fun a w hF hW => ?_)
    obtain ⟨x3, h3, H⟩ := bindE H
    obtain ⟨v4, h4, h5⟩ := ix_ex h1 h3
    have h6 : EE23 v4 = [(v4.1)] := congrArg (fun q : List Int => ([(v4.1)] : List Value)) h5
    refine ls hF hW rfl ((y_index (r := (Rp.vsl (Rp.int .i64))) L37 hF rfl rfl (rdc_ro h_v2) h4).q) (fun a w hF hW => ?_)
    refine ls hF hW rfl ((y_load_el (y := (v4.1)) (j := 0) (i := x2) (enc := EE23) hF rfl rfl (rdc_ro h_v2) h4 FE23 T23 (by rw [h6]; rfl)).q) (fun a w hF hW => ?_)
    refine ls hF hW rfl ((y_len (r := (Rp.int .i64)) (l := x3) u23_ rfl hF rfl (rdc_at (rdc_ro h_v2) h4 Path.here (congrArg (fun q : List Int => q) h5))).q) (fun a w hF hW => ?_)
    refine ls hF hW rfl ((y_gtr hF rfl rfl).q) (fun a w hF hW => ?_)
    refine ls_nil (c_then ?_)
    refine c_cond hF rfl (fun hb => ?_) (fun hb => ?_)
    ·
     have H := iteT (of_decide_eq_true hb) H
     rw [hb] at hF
     clear hb
     refine c_seq (reg_list ?_)
     obtain ⟨x4, h7, H⟩ := bindE H
     refine ls hF hW rfl (y_call (v := Value.bool x4) hF H6 rfl (fun w hW => L18_awake_c any w _ h7)) (fun a w hF hW => ?_)
     refine ls hF hW rfl ((y_assign hF rfl).q) (fun a w hF hW => ?_)
     refine ls_nil (c_then ?_)
     refine wr_ret ?_
     refine r_block ?_
     iterate 2 refine r_then ?_
     refine r_block ?_
     refine r_then ?_
     have H := L2 _ H
     have H := L1 _ H
     have H := Option.some.inj H
     subst H
     refine post1 (.inl rfl) hF hW rfl (rv_tmp hF rfl) ?_
     exact ⟨rfl, hW.done⟩
    ·
     have H := iteF (of_decide_eq_false hb) H
     rw [hb] at hF
     clear hb
     refine wr_skip ?_
     refine b_normal ?_
     refine c_then ?_
     refine reg_list ?_
     refine ls hF hW rfl ((y_move hF rfl).q) (fun a w hF hW => ?_)
     refine ls hF hW rfl ((y_add hF rfl rfl rfl).q) (fun a w hF hW => ?_)
     refine ls hF hW rfl ((y_assign hF rfl).q) (fun a w hF hW => ?_)
     refine ls_nil (c_then ?_)
     exact ⟨_, H, hF.re ⟨rfl, rfl, rfl, rfl, trivial⟩, hW⟩
   ·
    have H := iteF (of_decide_eq_false hb) H
    rw [hb] at hF
    clear hb
    refine wr_exit ?_
    iterate 2 refine e_then ?_
    refine e_block ?_
    refine c_then ?_
    have H := L2 _ H
    exact ⟨H, hF.re ⟨rfl, rfl, rfl, trivial⟩, hW⟩
  rintro a w ⟨hj, hF, hW⟩
  have H := K1 _ hj
  clear hj G1 K1 L1
  refine c_seq (reg_list ?_)
  refine ls hF hW rfl ((y_move hF rfl).q) (fun a w hF hW => ?_)
  obtain ⟨x5, h8, H⟩ := bindE H
  refine l_callG (Ml := []) (Zl := []) (M := []) (Z := []) (β := Value) (rv := fun x => x) (MM := fun x => []) (ZZ := fun x => [row x 32 (Rp.flt .f64) x5]) hF hW H7 rfl rfl (fun hL => weigh_Of_c _ w (v1) p0 _ h8 ((rdc_ro h_v1) w hW).nx) (fun x a w hF hW => ?_)
  obtain ⟨v5, rfl⟩ : ∃ y, y = x := ⟨x, rfl⟩
  have hW : Stw ⟨Y, [], w0⟩ [] [row v5 32 (Rp.flt .f64) x5] w := hW
  refine ls hF hW rfl ((y_assign hF rfl).q) (fun a w hF hW => ?_)
  refine ls_nil (c_then ?_)
  refine c_seq (reg_list ?_)
  iterate 2 refine ls hF hW rfl ((y_move hF rfl).q) (fun a w hF hW => ?_)
  obtain ⟨x6, h9, H⟩ := bindE H
  refine ls hF hW rfl (y_call (v := Value.int .i64 x6) hF H17 rfl (fun w hW => weigh_Least_c any w (v5) (v2) x5 p1 _ h9 (((rdc_row 0 rfl) : Rdc _ _ _ _ _ _) w hW).nx (((rdc_hide EX23 h1 (rdc_ro h_v2)) : Rdc _ _ _ _ _ _) w hW).nx)) (fun a w hF hW => ?_)
  refine ls hF hW rfl ((y_assign hF rfl).q) (fun a w hF hW => ?_)
  refine ls_nil (c_then ?_)
  refine c_seq ?_
  refine c_seq (reg_list ?_)
  iterate 3 refine ls hF hW rfl ((y_move hF rfl).q) (fun a w hF hW => ?_)
  obtain ⟨x7, h10, H⟩ := bindE H
  refine ls hF hW rfl (y_call (v := Value.int .i64 x7) hF H18 rfl (fun w hW => r18_Least_c any w (v1) (v2) p0 p1 _ h10 (((rdc_ro h_v1) : Rdc _ _ _ _ _ _) w hW).nx (((rdc_hide EX23 h1 (rdc_ro h_v2)) : Rdc _ _ _ _ _ _) w hW).nx)) (fun a w hF hW => ?_)
  refine ls hF hW rfl ((y_neq hF rfl rfl).q) (fun a w hF hW => ?_)
  refine ls_nil (c_then ?_)
  refine c_cond hF rfl (fun hb => ?_) (fun hb => ?_)
  ·
   have H := iteT (of_decide_eq_true hb) H
   rw [hb] at hF
   clear hb
   refine c_seq (reg_list ?_)
   refine ls hF hW rfl ((y_assign hF rfl).q) (fun a w hF hW => ?_)
   refine ls_nil (c_then ?_)
   refine wr_ret ?_
   refine r_then ?_
   have H := Option.some.inj H
   subst H
   refine post1 (.inl rfl) hF hW rfl (rv_tmp hF rfl) ?_
   exact ⟨rfl, hW.done⟩
  ·
   have H := iteF (of_decide_eq_false hb) H
   rw [hb] at hF
   clear hb
   refine wr_skip ?_
   refine c_then ?_
   obtain ⟨o3, G3, K3, L3⟩ := orE H
   refine c_seqJ (fun a w => some (Sum.inl ()) = some o3 ∧ Fr 77 [] [(4, .bool false)] a ∧ Stw ⟨Y, [], w0⟩ [] [] w) ?_ ?_
   ·
    have H := G3
    clear G3 K3
    refine c_seq (reg_list ?_)
    refine ls hF hW rfl ((y_assign hF rfl).q) (fun a w hF hW => ?_)
    refine ls_nil (c_then ?_)
    refine wr_block ?_
    refine c_loopW H (fun s a w => Fr 77 [] [(0, v1), (1, v2), (4, .bool false), (6, v5), (7, .int .i64 x6), (8, .int .i64 s)] a ∧ Stw ⟨Y, [], w0⟩ [] [row v5 32 (Rp.flt .f64) x5] w) ⟨hF.re ⟨rfl, rfl, rfl, rfl, rfl, rfl, trivial⟩, hW⟩ (fun s o a w H L4 hR => ?_)
    obtain ⟨x8, rfl⟩ : ∃ x, x = s := ⟨s, rfl⟩
    obtain ⟨hF, hW⟩ := hR
    have hF : Fr 77 [] [(0, v1), (1, v2), (4, .bool false), (6, v5), (7, .int .i64 x6), (8, .int .i64 x8)] a := hF
    have hW : Stw ⟨Y, [], w0⟩ [] [row v5 32 (Rp.flt .f64) x5] w := hW
    rw [L18_WeighLeast_l2] at H
    refine c_seq ?_
    refine c_seq (reg_list ?_)
    iterate 2 refine ls hF hW rfl ((y_move hF rfl).q) (fun a w hF hW => ?_)
    refine ls hF hW rfl ((y_len (r := (Rp.slice (Rp.int .i64))) (l := p1) u37_ rfl hF rfl (rdc_hide EX23 h1 (rdc_ro h_v2))).q) (fun a w hF hW => ?_)
    refine ls hF hW rfl ((y_lss hF rfl rfl).q) (fun a w hF hW => ?_)
    refine ls_nil (c_then ?_)
    refine c_cond hF rfl (fun hb => ?_) (fun hb => ?_)
    ·
     have H := iteT (of_decide_eq_true hb) H
     rw [hb] at hF
     clear hb
     refine wr_skip ?_
     refine c_then ?_
     refine c_seq ?_
     refine wr_block ?_
     obtain ⟨o5, G5, K5⟩ := bindE H
     refine c_seqJ (fun a w => ∃ x9 : Bool, some (x9) = some o5 ∧ Fr 77 [] [(0, v1), (1, v2), (4, .bool false), (6, v5), (7, .int .i64 x6), (8, .int .i64 x8), (75, .bool x9)] a ∧ Stw ⟨Y, [], w0⟩ [] [row v5 32 (Rp.flt .f64) x5] w) ?_ ?_
     ·
      have H := G5
      clear G5 K5
      refine reg_quiet hW MO (by kernel_rfl) ?_
      refine qs hF rfl ((y_move hF rfl).q) (fun a hF => ?_)
      refine qs hF rfl ((y_lss hF rfl rfl).q) (fun a hF => ?_)
      refine qs hF rfl ((y_move hF rfl).q) (fun a hF => ?_)
      rcases Bool.eq_false_or_eq_true (decide (x6 < 0)) with hb | hb
      ·
       have H := iteT (of_decide_eq_true hb) H
       rw [hb] at hF
       clear hb
       iterate 4 refine qs_skip hF (wanted_n hF rfl rfl rfl rfl rfl) rfl rfl (fun a hF => ?_)
       refine qs hF rfl ((y_pick_t hF rfl rfl rfl).q) (fun a hF => ?_)
       refine qs hF rfl ((y_move hF rfl).q) (fun a hF => ?_)
       iterate 5 refine qs_skip hF (wanted_n hF rfl rfl rfl rfl rfl) rfl rfl (fun a hF => ?_)
       iterate 13 refine qs_skip hF (wanted_undef hF rfl rfl rfl rfl) rfl rfl (fun a hF => ?_)
       refine qs_skip hF (wanted_n hF rfl rfl rfl rfl rfl) rfl rfl (fun a hF => ?_)
       refine qs hF rfl ((y_pick_t hF rfl rfl rfl).q) (fun a hF => ?_)
       refine quiet_end (fun w hW => ?_)
       refine c_then ?_
       exact ⟨_, H, hF.re ⟨rfl, rfl, rfl, rfl, rfl, rfl, rfl, trivial⟩, hW⟩
      ·
       have H := iteF (of_decide_eq_false hb) H
       rw [hb] at hF
       clear hb
       iterate 2 refine qs_w hF (wanted_y hF rfl rfl rfl rfl) rfl (Nat.le_of_ble_eq_true rfl) ((y_move hF rfl).q) (fun a hF => ?_)
       refine qs_w hF (wanted_y hF rfl rfl rfl rfl) rfl (Nat.le_of_ble_eq_true rfl) ((y_len (r := (Rp.slice (Rp.int .i64))) (l := p1) u37_ rfl hF rfl (rdc_hide EX23 h1 (rdc_ro h_v2))).q) (fun a hF => ?_)
       refine qs_w hF (wanted_y hF rfl rfl rfl rfl) rfl (Nat.le_of_ble_eq_true rfl) ((y_geq hF rfl rfl).q) (fun a hF => ?_)
       refine qs hF rfl ((y_pick_f hF rfl rfl rfl).q) (fun a hF => ?_)
       refine qs hF rfl ((y_move hF rfl).q) (fun a hF => ?_)
       rcases Bool.eq_false_or_eq_true (decide ((p1.length : Int) ≤ x6)) with hb | hb
       ·
        have H := iteT (of_decide_eq_true hb) H
        rw [hb] at hF
        clear hb
        iterate 5 refine qs_skip hF (wanted_n hF rfl rfl rfl rfl rfl) rfl rfl (fun a hF => ?_)
        iterate 13 refine qs_skip hF (wanted_undef hF rfl rfl rfl rfl) rfl rfl (fun a hF => ?_)
        refine qs_skip hF (wanted_n hF rfl rfl rfl rfl rfl) rfl rfl (fun a hF => ?_)
        refine qs hF rfl ((y_pick_t hF rfl rfl rfl).q) (fun a hF => ?_)
        refine quiet_end (fun w hW => ?_)
        refine c_then ?_
        exact ⟨_, H, hF.re ⟨rfl, rfl, rfl, rfl, rfl, rfl, rfl, trivial⟩, hW⟩
       ·
        have H := iteF (of_decide_eq_false hb) H
        rw [hb] at hF
        clear hb
        iterate 2 refine qs_w hF (wanted_y hF rfl rfl rfl rfl) rfl (Nat.le_of_ble_eq_true rfl) ((y_move hF rfl).q) (fun a hF => ?_)
        refine qs_w hF (wanted_y hF rfl rfl rfl rfl) rfl (Nat.le_of_ble_eq_true rfl) ((y_len (r := (Rp.int .u64)) (l := p0) u22_ rfl hF rfl (rdc_ro h_v1)).q) (fun a hF => ?_)
        obtain ⟨x10, h11, H⟩ := bindE H
        refine qs_w hF (wanted_y hF rfl rfl rfl rfl) rfl (Nat.le_of_ble_eq_true rfl) (y_call (v := Value.bool x10) hF H10 rfl (fun w hW => r18_Right_c any w (v1) p0 (p0.length : Int) _ h11 (((rdc_ro h_v1) : Rdc _ _ _ _ _ _) w hW).nx)) (fun a hF => ?_)
        refine qs_w hF (wanted_y hF rfl rfl rfl rfl) rfl (Nat.le_of_ble_eq_true rfl) ((y_move hF rfl).q) (fun a hF => ?_)
        rcases Bool.eq_false_or_eq_true x10 with hb | hb
        ·
         have H := iteT hb H
         rw [hb] at hF
         clear hb
         iterate 3 refine qs_w hF (wanted_y hF rfl rfl rfl rfl) rfl (Nat.le_of_ble_eq_true rfl) ((y_move hF rfl).q) (fun a hF => ?_)
         obtain ⟨x11, h12, H⟩ := bindE H
         obtain ⟨v6, h13, h14⟩ := ix_ex h1 h12
         have h15 : EE23 v6 = [(v6.1)] := congrArg (fun q : List Int => ([(v6.1)] : List Value)) h14
         refine qs_w hF (wanted_y hF rfl rfl rfl rfl) rfl (Nat.le_of_ble_eq_true rfl) ((y_index (r := (Rp.vsl (Rp.int .i64))) L37 hF rfl rfl (rdc_ro h_v2) h13).q) (fun a hF => ?_)
         refine qs_w hF (wanted_y hF rfl rfl rfl rfl) rfl (Nat.le_of_ble_eq_true rfl) ((y_load_el (y := (v6.1)) (j := 0) (i := x8) (enc := EE23) hF rfl rfl (rdc_ro h_v2) h13 FE23 T23 (by rw [h15]; rfl)).q) (fun a hF => ?_)
         obtain ⟨x12, h16, H⟩ := bindE H
         refine qs_w hF (wanted_y hF rfl rfl rfl rfl) rfl (Nat.le_of_ble_eq_true rfl) (y_call (v := Value.float .f64 x12) hF H14 rfl (fun w hW => weigh_Walk_c any w (v5) ((v6.1)) x5 x11 _ h16 (((rdc_row 0 rfl) : Rdc _ _ _ _ _ _) w hW).nx (((rdc_at (rdc_ro h_v2) h13 Path.here (congrArg (fun q : List Int => q) h14)) : Rdc _ _ _ _ _ _) w hW).nx)) (fun a hF => ?_)
         iterate 3 refine qs_w hF (wanted_y hF rfl rfl rfl rfl) rfl (Nat.le_of_ble_eq_true rfl) ((y_move hF rfl).q) (fun a hF => ?_)
         obtain ⟨x13, h17, H⟩ := bindE H
         obtain ⟨v7, h18, h19⟩ := ix_ex h1 h17
         have h20 : EE23 v7 = [(v7.1)] := congrArg (fun q : List Int => ([(v7.1)] : List Value)) h19
         refine qs_w hF (wanted_y hF rfl rfl rfl rfl) rfl (Nat.le_of_ble_eq_true rfl) ((y_index (r := (Rp.vsl (Rp.int .i64))) L37 hF rfl rfl (rdc_ro h_v2) h18).q) (fun a hF => ?_)
         refine qs_w hF (wanted_y hF rfl rfl rfl rfl) rfl (Nat.le_of_ble_eq_true rfl) ((y_load_el (y := (v7.1)) (j := 0) (i := x6) (enc := EE23) hF rfl rfl (rdc_ro h_v2) h18 FE23 T23 (by rw [h20]; rfl)).q) (fun a hF => ?_)
         obtain ⟨x14, h21, H⟩ := bindE H
         refine qs_w hF (wanted_y hF rfl rfl rfl rfl) rfl (Nat.le_of_ble_eq_true rfl) (y_call (v := Value.float .f64 x14) hF H14 rfl (fun w hW => weigh_Walk_c any w (v5) ((v7.1)) x5 x13 _ h21 (((rdc_row 0 rfl) : Rdc _ _ _ _ _ _) w hW).nx (((rdc_at (rdc_ro h_v2) h18 Path.here (congrArg (fun q : List Int => q) h19)) : Rdc _ _ _ _ _ _) w hW).nx)) (fun a hF => ?_)
         refine qs_w hF (wanted_y hF rfl rfl rfl rfl) rfl (Nat.le_of_ble_eq_true rfl) ((y_flss hF rfl rfl).q) (fun a hF => ?_)
         refine qs_w hF (wanted_y hF rfl rfl rfl rfl) rfl (Nat.le_of_ble_eq_true rfl) ((y_pick_t hF rfl rfl rfl).q) (fun a hF => ?_)
         refine qs hF rfl ((y_pick_f hF rfl rfl rfl).q) (fun a hF => ?_)
         refine quiet_end (fun w hW => ?_)
         refine c_then ?_
         exact ⟨_, H, hF.re ⟨rfl, rfl, rfl, rfl, rfl, rfl, rfl, trivial⟩, hW⟩
        ·
         have H := iteF (by rw [hb]; decide) H
         rw [hb] at hF
         clear hb
         iterate 13 refine qs_skip hF (wanted_n hF rfl rfl rfl rfl rfl) rfl rfl (fun a hF => ?_)
         refine qs_w hF (wanted_y hF rfl rfl rfl rfl) rfl (Nat.le_of_ble_eq_true rfl) ((y_pick_f hF rfl rfl rfl).q) (fun a hF => ?_)
         refine qs hF rfl ((y_pick_f hF rfl rfl rfl).q) (fun a hF => ?_)
         refine quiet_end (fun w hW => ?_)
         refine c_then ?_
         exact ⟨_, H, hF.re ⟨rfl, rfl, rfl, rfl, rfl, rfl, rfl, trivial⟩, hW⟩
     rintro a w ⟨x9, hj, hF, hW⟩
     have hj := Option.some.inj hj
     subst hj
     have H := K5
     clear G5 K5
     refine c_cond hF rfl (fun hb => ?_) (fun hb => ?_)
     ·
      have H := iteT hb H
      rw [hb] at hF
      clear hb
      refine c_seq (reg_list ?_)
      refine ls hF hW rfl ((y_assign hF rfl).q) (fun a w hF hW => ?_)
      refine ls_nil (c_then ?_)
      refine wr_ret ?_
      refine r_block ?_
      iterate 2 refine r_then ?_
      refine r_block ?_
      refine r_then ?_
      have H := L4 _ H
      have H := L3 _ H
      have H := Option.some.inj H
      subst H
      refine post1 (.inl rfl) hF hW rfl (rv_tmp hF rfl) ?_
      exact ⟨rfl, hW.done⟩
     ·
      have H := iteF (by rw [hb]; decide) H
      rw [hb] at hF
      clear hb
      refine wr_skip ?_
      refine b_normal ?_
      refine c_then ?_
      refine reg_list ?_
      refine ls hF hW rfl ((y_move hF rfl).q) (fun a w hF hW => ?_)
      refine ls hF hW rfl ((y_add hF rfl rfl rfl).q) (fun a w hF hW => ?_)
      refine ls hF hW rfl ((y_assign hF rfl).q) (fun a w hF hW => ?_)
      refine ls_nil (c_then ?_)
      exact ⟨_, H, hF.re ⟨rfl, rfl, rfl, rfl, rfl, rfl, trivial⟩, hW⟩
    ·
     have H := iteF (of_decide_eq_false hb) H
     rw [hb] at hF
     clear hb
     refine wr_exit ?_
     iterate 2 refine e_then ?_
     refine e_block ?_
     refine c_then ?_
     have hW := hW.sub (M' := []) (Z' := []) (List.Sublist.refl _) (List.nil_sublist _)
     have H := L4 _ H
     exact ⟨H, hF.re ⟨rfl, trivial⟩, hW⟩
   rintro a w ⟨hj, hF, hW⟩
   have H := K3 _ hj
   clear hj G3 K3 L3
   refine c_seq (reg_list ?_)
   obtain ⟨x15, h22, H⟩ := bindE H
   refine ls hF hW rfl (y_call (v := Value.bool x15) hF H6 rfl (fun w hW => L18_awake_c any w _ h22)) (fun a w hF hW => ?_)
   refine ls hF hW rfl ((y_assign hF rfl).q) (fun a w hF hW => ?_)
   refine ls_nil (c_then ?_)
   refine wr_ret ?_
   have H := Option.some.inj H
   subst H
   refine post1 (.inl rfl) hF hW rfl (rv_tmp hF rfl) ?_
   exact ⟨rfl, hW.done⟩

noncomputable def L18_WeighGrows_l1 (x4 : List Nat) (x6 : List Int) (x7 : Nat) : Int → Option (Int ⊕ (Unit ⊕ Bool))
  | x9 => (if x9 < (x6.length : Int) then ((ix x6 x9).bind fun x11 => (weigh_Up x4 x11).bind fun x12 => (if (!x12) = true then (float_Class x7).bind fun x13 => some (decide (x13 ≠ 6)) else some false)).bind fun x10 => (if x10 = true then some (.inr (.inr false)) else some (.inl (w64 (x9 + 1)))) else some (.inr (.inl ())))
noncomputable def L18_WeighGrows (p0 : List Int) (p1 : List Int) (p2 : List Int) : Option Bool := (if 20 < (p0.length : Int) then some true else (if 20 < (p1.length : Int) then some true else (if 20 < (p2.length : Int) then some true else (r18_Right p0 (p0.length : Int)).bind fun x2 => some (!x2)))).bind fun x1 => (if x1 = true then (L18_awake).bind fun x3 => some x3 else (weigh_Of p0).bind fun x4 => (app ([] : List Int) p1).bind fun x5 => (app x5 p2).bind fun x6 => (weigh_Walk x4 x6).bind fun x7 => (weigh_Walk x4 p2).bind fun x8 => (if (fLt x7 x8 || (!(float_Cost x7) || !(float_Cost x8))) = true then some false else orR (loopW (L18_WeighGrows_l1 x4 x6 x7) 0) fun _ => (L18_awake).bind fun x14 => some x14))
theorem L18_WeighGrows_c (Y : Nat → Prop) (w0 : World) (v1 : Value) (v2 : Value) (v3 : Value) (p0 : List Int) (p1 : List Int) (p2 : List Int) (r : Bool) (H : L18_WeighGrows p0 p1 p2 = some r) (h_v1 : Sl w0 (NX []) (Rp.int .u64) v1 p0) (s_v2 : Sl w0 Y (Rp.int .i64) v2 p1) (s_v3 : Sl w0 Y (Rp.int .i64) v3 p2) :
    Calls Try.prog 5 #[v1, v2, v3] w0 fun e w' => e = .returned (.bool r) ∧ Below w0.heap.size w0 w' := by
 refine enter Try.func5 rfl Try.ntmps5 rfl (fun a hF => ?_)
 have hW := Stw.start Y w0
 have h_v2 := hW.nx s_v2
 have h_v3 := hW.nx s_v3
 unfold L18_WeighGrows at H
 refine c_seq (reg_list ?_)
 refine ls hF hW rfl ((y_assign hF rfl).q) (fun a w hF hW => ?_)
 refine ls_nil (c_then ?_)
 refine c_seq ?_
 obtain ⟨o1, G1, K1⟩ := bindE H
 refine c_seqJ (fun a w => ∃ x1 : Bool, some (x1) = some o1 ∧ Fr 79 [] [(0, v1), (1, v2), (2, v3), (6, .bool false), (31, .bool x1)] a ∧ Stw ⟨Y, [], w0⟩ [] [] w) ?_ ?_
 ·
  have H := G1
  clear G1 K1
  refine reg_list ?_
  refine ls hF hW rfl ((y_move hF rfl).q) (fun a w hF hW => ?_)
  refine ls hF hW rfl ((y_len (r := (Rp.int .u64)) (l := p0) u22_ rfl hF rfl (rdc_ro h_v1)).q) (fun a w hF hW => ?_)
  refine ls hF hW rfl ((y_gtr hF rfl rfl).q) (fun a w hF hW => ?_)
  refine ls hF hW rfl ((y_move hF rfl).q) (fun a w hF hW => ?_)
  rcases Bool.eq_false_or_eq_true (decide (20 < (p0.length : Int))) with hb | hb
  ·
   have H := iteT (of_decide_eq_true hb) H
   rw [hb] at hF
   clear hb
   iterate 3 refine lsn hF rfl rfl rfl rfl rfl rfl rfl (fun a hF => ?_)
   refine ls hF hW rfl ((y_pick_t hF rfl rfl rfl).q) (fun a w hF hW => ?_)
   refine ls hF hW rfl ((y_move hF rfl).q) (fun a w hF hW => ?_)
   iterate 3 refine lsn hF rfl rfl rfl rfl rfl rfl rfl (fun a hF => ?_)
   refine ls hF hW rfl ((y_pick_t hF rfl rfl rfl).q) (fun a w hF hW => ?_)
   refine ls hF hW rfl ((y_move hF rfl).q) (fun a w hF hW => ?_)
   iterate 5 refine lsn hF rfl rfl rfl rfl rfl rfl rfl (fun a hF => ?_)
   refine ls hF hW rfl ((y_pick_t hF rfl rfl rfl).q) (fun a w hF hW => ?_)
   refine ls_nil (c_then ?_)
   exact ⟨_, H, hF.re ⟨rfl, rfl, rfl, rfl, rfl, trivial⟩, hW⟩
  ·
   have H := iteF (of_decide_eq_false hb) H
   rw [hb] at hF
   clear hb
   refine ls_w hF hW (wanted_y hF rfl rfl rfl rfl) rfl (Nat.le_of_ble_eq_true rfl) ((y_move hF rfl).q) (fun a w hF hW => ?_)
   refine ls_w hF hW (wanted_y hF rfl rfl rfl rfl) rfl (Nat.le_of_ble_eq_true rfl) ((y_len (r := (Rp.int .i64)) (l := p1) u23_ rfl hF rfl (rdc_ro h_v2)).q) (fun a w hF hW => ?_)
   refine ls_w hF hW (wanted_y hF rfl rfl rfl rfl) rfl (Nat.le_of_ble_eq_true rfl) ((y_gtr hF rfl rfl).q) (fun a w hF hW => ?_)
   refine ls hF hW rfl ((y_pick_f hF rfl rfl rfl).q) (fun a w hF hW => ?_)
   refine ls hF hW rfl ((y_move hF rfl).q) (fun a w hF hW => ?_)
   rcases Bool.eq_false_or_eq_true (decide (20 < (p1.length : Int))) with hb | hb
   ·
    have H := iteT (of_decide_eq_true hb) H
    rw [hb] at hF
    clear hb
    iterate 3 refine lsn hF rfl rfl rfl rfl rfl rfl rfl (fun a hF => ?_)
    refine ls hF hW rfl ((y_pick_t hF rfl rfl rfl).q) (fun a w hF hW => ?_)
    refine ls hF hW rfl ((y_move hF rfl).q) (fun a w hF hW => ?_)
    iterate 5 refine lsn hF rfl rfl rfl rfl rfl rfl rfl (fun a hF => ?_)
    refine ls hF hW rfl ((y_pick_t hF rfl rfl rfl).q) (fun a w hF hW => ?_)
    refine ls_nil (c_then ?_)
    exact ⟨_, H, hF.re ⟨rfl, rfl, rfl, rfl, rfl, trivial⟩, hW⟩
   ·
    have H := iteF (of_decide_eq_false hb) H
    rw [hb] at hF
    clear hb
    refine ls_w hF hW (wanted_y hF rfl rfl rfl rfl) rfl (Nat.le_of_ble_eq_true rfl) ((y_move hF rfl).q) (fun a w hF hW => ?_)
    refine ls_w hF hW (wanted_y hF rfl rfl rfl rfl) rfl (Nat.le_of_ble_eq_true rfl) ((y_len (r := (Rp.int .i64)) (l := p2) u23_ rfl hF rfl (rdc_ro h_v3)).q) (fun a w hF hW => ?_)
    refine ls_w hF hW (wanted_y hF rfl rfl rfl rfl) rfl (Nat.le_of_ble_eq_true rfl) ((y_gtr hF rfl rfl).q) (fun a w hF hW => ?_)
    refine ls hF hW rfl ((y_pick_f hF rfl rfl rfl).q) (fun a w hF hW => ?_)
    refine ls hF hW rfl ((y_move hF rfl).q) (fun a w hF hW => ?_)
    rcases Bool.eq_false_or_eq_true (decide (20 < (p2.length : Int))) with hb | hb
    ·
     have H := iteT (of_decide_eq_true hb) H
     rw [hb] at hF
     clear hb
     iterate 5 refine lsn hF rfl rfl rfl rfl rfl rfl rfl (fun a hF => ?_)
     refine ls hF hW rfl ((y_pick_t hF rfl rfl rfl).q) (fun a w hF hW => ?_)
     refine ls_nil (c_then ?_)
     exact ⟨_, H, hF.re ⟨rfl, rfl, rfl, rfl, rfl, trivial⟩, hW⟩
    ·
     have H := iteF (of_decide_eq_false hb) H
     rw [hb] at hF
     clear hb
     iterate 2 refine ls_w hF hW (wanted_y hF rfl rfl rfl rfl) rfl (Nat.le_of_ble_eq_true rfl) ((y_move hF rfl).q) (fun a w hF hW => ?_)
     refine ls_w hF hW (wanted_y hF rfl rfl rfl rfl) rfl (Nat.le_of_ble_eq_true rfl) ((y_len (r := (Rp.int .u64)) (l := p0) u22_ rfl hF rfl (rdc_ro h_v1)).q) (fun a w hF hW => ?_)
     refine ls_g (wanted_y hF rfl rfl rfl rfl) ?_
     obtain ⟨x2, h1, H⟩ := bindE H
     refine ls hF hW rfl (y_call (v := Value.bool x2) hF H10 rfl (fun w hW => r18_Right_c any w (v1) p0 (p0.length : Int) _ h1 (((rdc_ro h_v1) : Rdc _ _ _ _ _ _) w hW).nx)) (fun a w hF hW => ?_)
     refine ls_w hF hW (wanted_y hF rfl rfl rfl rfl) rfl (Nat.le_of_ble_eq_true rfl) ((y_not hF rfl).q) (fun a w hF hW => ?_)
     refine ls hF hW rfl ((y_pick_f hF rfl rfl rfl).q) (fun a w hF hW => ?_)
     refine ls_nil (c_then ?_)
     exact ⟨_, H, hF.re ⟨rfl, rfl, rfl, rfl, rfl, trivial⟩, hW⟩
 rintro a w ⟨x1, hj, hF, hW⟩
 have hj := Option.some.inj hj
 subst hj
 have H := K1
 clear G1 K1
 refine c_cond hF rfl (fun hb => ?_) (fun hb => ?_)
 ·
  have H := iteT hb H
  rw [hb] at hF
  clear hb
  refine c_seq (reg_list ?_)
  obtain ⟨x3, h2, H⟩ := bindE H
  refine ls hF hW rfl (y_call (v := Value.bool x3) hF H6 rfl (fun w hW => L18_awake_c any w _ h2)) (fun a w hF hW => ?_)
  refine ls hF hW rfl ((y_assign hF rfl).q) (fun a w hF hW => ?_)
  refine ls_nil (c_then ?_)
  refine wr_ret ?_
  refine r_then ?_
  have H := Option.some.inj H
  subst H
  refine post1 (.inl rfl) hF hW rfl (rv_tmp hF rfl) ?_
  exact ⟨rfl, hW.done⟩
 ·
  have H := iteF (by rw [hb]; decide) H
  rw [hb] at hF
  clear hb
  refine wr_skip ?_
  refine c_then ?_
  refine c_seq (reg_list ?_)
  refine ls hF hW rfl ((y_move hF rfl).q) (fun a w hF hW => ?_)
  obtain ⟨x4, h3, H⟩ := bindE H
  refine l_callG (Ml := []) (Zl := []) (M := []) (Z := []) (β := Value) (rv := fun x => x) (MM := fun x => []) (ZZ := fun x => [row x 32 (Rp.flt .f64) x4]) hF hW H7 rfl rfl (fun hL => weigh_Of_c _ w (v1) p0 _ h3 ((rdc_ro h_v1) w hW).nx) (fun x a w hF hW => ?_)
  obtain ⟨v4, rfl⟩ : ∃ y, y = x := ⟨x, rfl⟩
  have hW : Stw ⟨Y, [], w0⟩ [] [row v4 32 (Rp.flt .f64) x4] w := hW
  refine ls hF hW rfl ((y_assign hF rfl).q) (fun a w hF hW => ?_)
  refine ls_nil (c_then ?_)
  refine c_seq (reg_list ?_)
  refine ls hF hW rfl ((y_assign hF rfl).q) (fun a w hF hW => ?_)
  refine ls_nil (c_then ?_)
  refine c_seq (reg_list ?_)
  iterate 2 refine ls hF hW rfl ((y_move hF rfl).q) (fun a w hF hW => ?_)
  have hW := hW.nilRow 3 (Rp.int .i64)
  obtain ⟨x5, h4, H⟩ := bindE H
  refine l_append (r := (Rp.int .i64)) (i := 0) hF hW rfl L23 rfl rfl rfl rfl (src_old hW s_v2) h4 rfl (fun v5 a w hF hW => ?_)
  have hW : Stw ⟨Y, [], w0⟩ [] [row v5 3 (Rp.int .i64) x5, row v4 32 (Rp.flt .f64) x4] w := hW
  refine ls hF hW rfl ((y_assign hF rfl).q) (fun a w hF hW => ?_)
  refine ls_nil (c_then ?_)
  refine c_seq (reg_list ?_)
  iterate 2 refine ls hF hW rfl ((y_move hF rfl).q) (fun a w hF hW => ?_)
  obtain ⟨x6, h5, H⟩ := bindE H
  refine l_append (r := (Rp.int .i64)) (i := 0) hF hW rfl L23 rfl rfl rfl rfl (src_old hW s_v3) h5 rfl (fun v6 a w hF hW => ?_)
  have hW : Stw ⟨Y, [], w0⟩ [] [row v6 3 (Rp.int .i64) x6, row v4 32 (Rp.flt .f64) x4] w := hW
  refine ls hF hW rfl ((y_assign hF rfl).q) (fun a w hF hW => ?_)
  refine ls_nil (c_then ?_)
  refine c_seq (reg_list ?_)
  iterate 2 refine ls hF hW rfl ((y_move hF rfl).q) (fun a w hF hW => ?_)
  obtain ⟨x7, h6, H⟩ := bindE H
  refine ls hF hW rfl (y_call (v := Value.float .f64 x7) hF H14 rfl (fun w hW => weigh_Walk_c any w (v4) (v6) x4 x6 _ h6 (((rdc_row 1 rfl) : Rdc _ _ _ _ _ _) w hW).nx (((rdc_row 0 rfl) : Rdc _ _ _ _ _ _) w hW).nx)) (fun a w hF hW => ?_)
  iterate 2 refine ls hF hW rfl ((y_move hF rfl).q) (fun a w hF hW => ?_)
  obtain ⟨x8, h7, H⟩ := bindE H
  refine ls hF hW rfl (y_call (v := Value.float .f64 x8) hF H14 rfl (fun w hW => weigh_Walk_c any w (v4) (v3) x4 p2 _ h7 (((rdc_row 1 rfl) : Rdc _ _ _ _ _ _) w hW).nx (((rdc_ro h_v3) : Rdc _ _ _ _ _ _) w hW).nx)) (fun a w hF hW => ?_)
  iterate 2 refine ls hF hW rfl ((y_assign hF rfl).q) (fun a w hF hW => ?_)
  refine ls_nil (c_then ?_)
  refine c_seq ?_
  refine c_seqJ (fun a w => Fr 79 [] [(6, .bool false), (7, v4), (8, v6), (9, .float .f64 x7), (59, .bool (fLt x7 x8 || (!(float_Cost x7) || !(float_Cost x8))))] a ∧ Stw ⟨Y, [], w0⟩ [] [row v6 3 (Rp.int .i64) x6, row v4 32 (Rp.flt .f64) x4] w) ?_ ?_
  ·
   refine reg_list ?_
   iterate 2 refine ls hF hW rfl ((y_move hF rfl).q) (fun a w hF hW => ?_)
   refine ls hF hW rfl ((y_flss hF rfl rfl).q) (fun a w hF hW => ?_)
   refine ls hF hW rfl ((y_move hF rfl).q) (fun a w hF hW => ?_)
   rcases Bool.eq_false_or_eq_true (fLt x7 x8) with hb0 | hb0
   ·
    rw [hb0] at hF
    iterate 3 refine lsn hF rfl rfl rfl rfl rfl rfl rfl (fun a hF => ?_)
    refine ls hF hW rfl ((y_pick_t hF rfl rfl rfl).q) (fun a w hF hW => ?_)
    refine ls hF hW rfl ((y_move hF rfl).q) (fun a w hF hW => ?_)
    iterate 3 refine lsn hF rfl rfl rfl rfl rfl rfl rfl (fun a hF => ?_)
    refine ls hF hW rfl ((y_pick_t hF rfl rfl rfl).q) (fun a w hF hW => ?_)
    refine ls_nil (c_then ?_)
    exact ⟨hF.re ⟨rfl, rfl, rfl, rfl, (by show some (Value.bool true) = some (Value.bool (fLt x7 x8 || (!(float_Cost x7) || !(float_Cost x8)))); try rw [hb0]; all_goals simp only [Bool.not_true, Bool.not_false, Bool.true_and, Bool.false_and, Bool.true_or, Bool.false_or, Bool.and_true, Bool.or_false, cond_true, cond_false]), trivial⟩, hW⟩
   ·
    rw [hb0] at hF
    refine ls_w hF hW (wanted_y hF rfl rfl rfl rfl) rfl (Nat.le_of_ble_eq_true rfl) ((y_move hF rfl).q) (fun a w hF hW => ?_)
    refine ls_g (wanted_y hF rfl rfl rfl rfl) ?_
    refine ls hF hW rfl (y_call (v := Value.bool (float_Cost x7)) hF H19 rfl (fun w hW => float_Cost_c any w x7 _ rfl)) (fun a w hF hW => ?_)
    refine ls_w hF hW (wanted_y hF rfl rfl rfl rfl) rfl (Nat.le_of_ble_eq_true rfl) ((y_not hF rfl).q) (fun a w hF hW => ?_)
    refine ls hF hW rfl ((y_pick_f hF rfl rfl rfl).q) (fun a w hF hW => ?_)
    refine ls hF hW rfl ((y_move hF rfl).q) (fun a w hF hW => ?_)
    rcases Bool.eq_false_or_eq_true (!(float_Cost x7)) with hb1 | hb1
    ·
     rw [hb1] at hF
     iterate 3 refine lsn hF rfl rfl rfl rfl rfl rfl rfl (fun a hF => ?_)
     refine ls hF hW rfl ((y_pick_t hF rfl rfl rfl).q) (fun a w hF hW => ?_)
     refine ls_nil (c_then ?_)
     exact ⟨hF.re ⟨rfl, rfl, rfl, rfl, (by show some (Value.bool true) = some (Value.bool (fLt x7 x8 || (!(float_Cost x7) || !(float_Cost x8)))); try rw [hb1]; try rw [hb0]; all_goals simp only [Bool.not_true, Bool.not_false, Bool.true_and, Bool.false_and, Bool.true_or, Bool.false_or, Bool.and_true, Bool.or_false, cond_true, cond_false]), trivial⟩, hW⟩
    ·
     rw [hb1] at hF
     refine ls_w hF hW (wanted_y hF rfl rfl rfl rfl) rfl (Nat.le_of_ble_eq_true rfl) ((y_move hF rfl).q) (fun a w hF hW => ?_)
     refine ls_g (wanted_y hF rfl rfl rfl rfl) ?_
     refine ls hF hW rfl (y_call (v := Value.bool (float_Cost x8)) hF H19 rfl (fun w hW => float_Cost_c any w x8 _ rfl)) (fun a w hF hW => ?_)
     refine ls_w hF hW (wanted_y hF rfl rfl rfl rfl) rfl (Nat.le_of_ble_eq_true rfl) ((y_not hF rfl).q) (fun a w hF hW => ?_)
     refine ls hF hW rfl ((y_pick_f hF rfl rfl rfl).q) (fun a w hF hW => ?_)
     refine ls_nil (c_then ?_)
     exact ⟨hF.re ⟨rfl, rfl, rfl, rfl, (by show some (Value.bool (!(float_Cost x8))) = some (Value.bool (fLt x7 x8 || (!(float_Cost x7) || !(float_Cost x8)))); try rw [hb1]; try rw [hb0]; all_goals simp only [Bool.not_true, Bool.not_false, Bool.true_and, Bool.false_and, Bool.true_or, Bool.false_or, Bool.and_true, Bool.or_false, cond_true, cond_false]), trivial⟩, hW⟩
  rintro a w ⟨hF, hW⟩
  refine c_cond hF rfl (fun hb => ?_) (fun hb => ?_)
  ·
   have H := iteT hb H
   rw [hb] at hF
   clear hb
   refine c_seq (reg_list ?_)
   refine ls hF hW rfl ((y_assign hF rfl).q) (fun a w hF hW => ?_)
   refine ls_nil (c_then ?_)
   refine wr_ret ?_
   refine r_then ?_
   have H := Option.some.inj H
   subst H
   refine post1 (.inl rfl) hF hW rfl (rv_tmp hF rfl) ?_
   exact ⟨rfl, hW.done⟩
  ·
   have H := iteF (by rw [hb]; decide) H
   rw [hb] at hF
   clear hb
   refine wr_skip ?_
   refine c_then ?_
   obtain ⟨o2, G2, K2, L2⟩ := orE H
   refine c_seqJ (fun a w => some (Sum.inl ()) = some o2 ∧ Fr 79 [] [(6, .bool false)] a ∧ Stw ⟨Y, [], w0⟩ [] [] w) ?_ ?_
   ·
    have H := G2
    clear G2 K2
    refine c_seq (reg_list ?_)
    refine ls hF hW rfl ((y_assign hF rfl).q) (fun a w hF hW => ?_)
    refine ls_nil (c_then ?_)
    refine wr_block ?_
    have hW := hW.frontZ (i := 1) rfl rfl
    refine c_loopW H (fun s a w => Fr 79 [] [(6, .bool false), (7, v4), (8, v6), (9, .float .f64 x7), (11, .int .i64 s)] a ∧ Stw ⟨Y, [], w0⟩ [] [row v4 32 (Rp.flt .f64) x4, row v6 3 (Rp.int .i64) x6] w) ⟨hF.re ⟨rfl, rfl, rfl, rfl, rfl, trivial⟩, hW⟩ (fun s o a w H L3 hR => ?_)
    obtain ⟨x9, rfl⟩ : ∃ x, x = s := ⟨s, rfl⟩
    obtain ⟨hF, hW⟩ := hR
    have hF : Fr 79 [] [(6, .bool false), (7, v4), (8, v6), (9, .float .f64 x7), (11, .int .i64 x9)] a := hF
    have hW : Stw ⟨Y, [], w0⟩ [] [row v4 32 (Rp.flt .f64) x4, row v6 3 (Rp.int .i64) x6] w := hW
    rw [L18_WeighGrows_l1] at H
    refine c_seq ?_
    refine c_seq (reg_list ?_)
    iterate 2 refine ls hF hW rfl ((y_move hF rfl).q) (fun a w hF hW => ?_)
    refine ls hF hW rfl ((y_len (r := (Rp.int .i64)) (l := x6) u23_ rfl hF rfl (rdc_row 1 rfl)).q) (fun a w hF hW => ?_)
    refine ls hF hW rfl ((y_lss hF rfl rfl).q) (fun a w hF hW => ?_)
    refine ls_nil (c_then ?_)
    refine c_cond hF rfl (fun hb => ?_) (fun hb => ?_)
    ·
     have H := iteT (of_decide_eq_true hb) H
     rw [hb] at hF
     clear hb
     refine wr_skip ?_
     refine c_then ?_
     refine c_seq ?_
     refine wr_block ?_
     obtain ⟨o4, G4, K4⟩ := bindE H
     refine c_seqJ (fun a w => ∃ x10 : Bool, some (x10) = some o4 ∧ Fr 79 [] [(6, .bool false), (7, v4), (8, v6), (9, .float .f64 x7), (11, .int .i64 x9), (77, .bool x10)] a ∧ Stw ⟨Y, [], w0⟩ [] [row v4 32 (Rp.flt .f64) x4, row v6 3 (Rp.int .i64) x6] w) ?_ ?_
     ·
      have H := G4
      clear G4 K4
      refine reg_list ?_
      iterate 3 refine ls hF hW rfl ((y_move hF rfl).q) (fun a w hF hW => ?_)
      obtain ⟨x11, h8, H⟩ := bindE H
      refine ls hF hW rfl ((y_index (r := (Rp.int .i64)) L23 hF rfl rfl (rdc_row 1 rfl) h8).q) (fun a w hF hW => ?_)
      refine ls hF hW rfl ((y_load_el (y := Value.int .i64 x11) (j := 0) (i := x9) hF rfl rfl (rdc_row 1 rfl) h8 Fl.int.to T3 rfl).q) (fun a w hF hW => ?_)
      obtain ⟨x12, h9, H⟩ := bindE H
      refine ls hF hW rfl (y_call (v := Value.bool x12) hF H11 rfl (fun w hW => weigh_Up_c any w (v4) x4 x11 _ h9 (((rdc_row 0 rfl) : Rdc _ _ _ _ _ _) w hW).nx)) (fun a w hF hW => ?_)
      refine ls hF hW rfl ((y_not hF rfl).q) (fun a w hF hW => ?_)
      refine ls hF hW rfl ((y_move hF rfl).q) (fun a w hF hW => ?_)
      rcases Bool.eq_false_or_eq_true (!x12) with hb | hb
      ·
       have H := iteT hb H
       rw [hb] at hF
       clear hb
       refine ls_w hF hW (wanted_y hF rfl rfl rfl rfl) rfl (Nat.le_of_ble_eq_true rfl) ((y_move hF rfl).q) (fun a w hF hW => ?_)
       refine ls_g (wanted_y hF rfl rfl rfl rfl) ?_
       obtain ⟨x13, h10, H⟩ := bindE H
       refine ls hF hW rfl (y_call (v := Value.int .i64 x13) hF H20 rfl (fun w hW => float_Class_c any w x7 _ h10)) (fun a w hF hW => ?_)
       refine ls_w hF hW (wanted_y hF rfl rfl rfl rfl) rfl (Nat.le_of_ble_eq_true rfl) ((y_neq hF rfl rfl).q) (fun a w hF hW => ?_)
       refine ls hF hW rfl ((y_pick_t hF rfl rfl rfl).q) (fun a w hF hW => ?_)
       refine ls_nil (c_then ?_)
       have hW := hW.frontZ (i := 1) rfl rfl
       have hW := hW.frontZ (i := 1) rfl rfl
       exact ⟨_, H, hF.re ⟨rfl, rfl, rfl, rfl, rfl, rfl, trivial⟩, hW⟩
      ·
       have H := iteF (by rw [hb]; decide) H
       rw [hb] at hF
       clear hb
       iterate 3 refine lsn hF rfl rfl rfl rfl rfl rfl rfl (fun a hF => ?_)
       refine ls hF hW rfl ((y_pick_f hF rfl rfl rfl).q) (fun a w hF hW => ?_)
       refine ls_nil (c_then ?_)
       have hW := hW.frontZ (i := 1) rfl rfl
       have hW := hW.frontZ (i := 1) rfl rfl
       exact ⟨_, H, hF.re ⟨rfl, rfl, rfl, rfl, rfl, rfl, trivial⟩, hW⟩
     rintro a w ⟨x10, hj, hF, hW⟩
     have hj := Option.some.inj hj
     subst hj
     have H := K4
     clear G4 K4
     refine c_cond hF rfl (fun hb => ?_) (fun hb => ?_)
     ·
      have H := iteT hb H
      rw [hb] at hF
      clear hb
      refine c_seq (reg_list ?_)
      refine ls hF hW rfl ((y_assign hF rfl).q) (fun a w hF hW => ?_)
      refine ls_nil (c_then ?_)
      refine wr_ret ?_
      refine r_block ?_
      iterate 2 refine r_then ?_
      refine r_block ?_
      refine r_then ?_
      have H := L3 _ H
      have H := L2 _ H
      have H := Option.some.inj H
      subst H
      refine post1 (.inl rfl) hF hW rfl (rv_tmp hF rfl) ?_
      exact ⟨rfl, hW.done⟩
     ·
      have H := iteF (by rw [hb]; decide) H
      rw [hb] at hF
      clear hb
      refine wr_skip ?_
      refine b_normal ?_
      refine c_then ?_
      refine reg_list ?_
      refine ls hF hW rfl ((y_move hF rfl).q) (fun a w hF hW => ?_)
      refine ls hF hW rfl ((y_add hF rfl rfl rfl).q) (fun a w hF hW => ?_)
      refine ls hF hW rfl ((y_assign hF rfl).q) (fun a w hF hW => ?_)
      refine ls_nil (c_then ?_)
      have hW := hW.frontZ (i := 1) rfl rfl
      have hW := hW.frontZ (i := 1) rfl rfl
      exact ⟨_, H, hF.re ⟨rfl, rfl, rfl, rfl, rfl, trivial⟩, hW⟩
    ·
     have H := iteF (of_decide_eq_false hb) H
     rw [hb] at hF
     clear hb
     refine wr_exit ?_
     iterate 2 refine e_then ?_
     refine e_block ?_
     refine c_then ?_
     have hW := hW.sub (M' := []) (Z' := []) (List.Sublist.refl _) (List.nil_sublist _)
     have H := L3 _ H
     exact ⟨H, hF.re ⟨rfl, trivial⟩, hW⟩
   rintro a w ⟨hj, hF, hW⟩
   have H := K2 _ hj
   clear hj G2 K2 L2
   refine c_seq (reg_list ?_)
   obtain ⟨x14, h11, H⟩ := bindE H
   refine ls hF hW rfl (y_call (v := Value.bool x14) hF H6 rfl (fun w hW => L18_awake_c any w _ h11)) (fun a w hF hW => ?_)
   refine ls hF hW rfl ((y_assign hF rfl).q) (fun a w hF hW => ?_)
   refine ls_nil (c_then ?_)
   refine wr_ret ?_
   have H := Option.some.inj H
   subst H
   refine post1 (.inl rfl) hF hW rfl (rv_tmp hF rfl) ?_
   exact ⟨rfl, hW.done⟩

end Go.Proofs.Ytphhiiemopkinaa
