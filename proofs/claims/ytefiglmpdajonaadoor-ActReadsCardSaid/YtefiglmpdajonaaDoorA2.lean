/- The functions of layer 9, lifted. Conditions: none. -/
import Derived.Test.YtefiglmpdajonaaDoorA1
namespace Go.Proofs.YtefiglmpdajonaaDoor
open Go Go.RowKit
set_option linter.unusedVariables false
set_option linter.unusedSimpArgs false
set_option maxRecDepth 20000
theorem H18 : Has Tryd.prog 18 := ⟨fun args w => run_callFunc_body Tryd.func18 rfl (by decide) args w⟩
theorem QD27 (dd : Nat) (x0 : Int) (x1 : Int) (x2 : Int) (y0 : Int) (y1 : Int) (y2 : Int) (w : World) : (Op.equalIn (dd + 2) 27 (.agg #[.int .i64 x0, .int .i64 x1, .int .i64 x2]) (.agg #[.int .i64 y0, .int .i64 y1, .int .i64 y2])).run Tryd.prog w = .ok (decide (x0 = y0 ∧ x1 = y1 ∧ x2 = y2)) w :=
  eq_struct (d := dd + 1) (rs := [decide (x0 = y0), decide (x1 = y1), decide (x2 = y2)]) u27_ (by kernel_rfl) ⟨rfl, fld_int (d := dd + 0) rfl rfl u3_ T3 rfl rfl, rfl, fld_int (d := dd + 0) rfl rfl u3_ T3 rfl rfl, rfl, fld_int (d := dd + 0) rfl rfl u3_ T3 rfl rfl, trivial⟩ (by simp) w
theorem G27 : Tryd.prog.eqGuardType Tryd.prog.depth 27 = false := by kernel_rfl
theorem Q27 (x0 : Int) (x1 : Int) (x2 : Int) (y0 : Int) (y1 : Int) (y2 : Int) (w : World) : (Op.equalIn 10000 27 (.agg #[.int .i64 x0, .int .i64 x1, .int .i64 x2]) (.agg #[.int .i64 y0, .int .i64 y1, .int .i64 y2])).run Tryd.prog w = .ok (decide (x0 = y0 ∧ x1 = y1 ∧ x2 = y2)) w := QD27 9998 x0 x1 x2 y0 y1 y2 w
noncomputable def r09_Same_l1 (p0 : List (Int × Int × Int)) (p1 : List (Int × Int × Int)) : Int → Option (Int ⊕ (Unit ⊕ Bool))
  | x1 => (if x1 < (p0.length : Int) then (ix p0 x1).bind fun x2 => (ix p1 x1).bind fun x3 => (if (!(decide (x2.1 = x3.1 ∧ x2.2.1 = x3.2.1 ∧ x2.2.2 = x3.2.2))) = true then some (.inr (.inr false)) else some (.inl (w64 (x1 + 1)))) else some (.inr (.inl ())))
noncomputable def r09_Same (p0 : List (Int × Int × Int)) (p1 : List (Int × Int × Int)) : Option Bool := (if (p0.length : Int) ≠ (p1.length : Int) then some false else orR (loopW (r09_Same_l1 p0 p1) 0) fun _ => some true)
theorem r09_Same_c (Y : Nat → Prop) (w0 : World) (v1 : Value) (v2 : Value) (p0 : List (Int × Int × Int)) (p1 : List (Int × Int × Int)) (r : Bool) (H : r09_Same p0 p1 = some r) (h_v1 : Sl w0 (NX []) R27 v1 p0) (h_v2 : Sl w0 (NX []) R27 v2 p1) :
    Calls Tryd.prog 16 #[v1, v2] w0 fun e w' => e = .returned (.bool r) ∧ Below w0.heap.size w0 w' := by
 refine enter Tryd.func16 rfl Tryd.ntmps16 rfl (fun a hF => ?_)
 have hW := Stw.start Y w0
 unfold r09_Same at H
 refine c_seq (reg_list ?_)
 refine ls hF hW rfl ((y_assign hF rfl).q) (fun a w hF hW => ?_)
 refine ls_nil (c_then ?_)
 refine c_seq ?_
 refine c_seq (reg_list ?_)
 refine ls hF hW rfl ((y_move hF rfl).q) (fun a w hF hW => ?_)
 refine ls hF hW rfl ((y_len (r := R27) (l := p0) u22_ rfl hF rfl (rdc_ro h_v1)).q) (fun a w hF hW => ?_)
 refine ls hF hW rfl ((y_move hF rfl).q) (fun a w hF hW => ?_)
 refine ls hF hW rfl ((y_len (r := R27) (l := p1) u22_ rfl hF rfl (rdc_ro h_v2)).q) (fun a w hF hW => ?_)
 refine ls hF hW rfl ((y_neq hF rfl rfl).q) (fun a w hF hW => ?_)
 refine ls_nil (c_then ?_)
 refine c_cond hF rfl (fun hb => ?_) (fun hb => ?_)
 ·
  have H := iteT (of_decide_eq_true hb) H
  rw [hb] at hF
  clear hb
  refine c_seq (reg_list ?_)
  refine ls hF hW rfl ((y_assign hF rfl).q) (fun a w hF hW => ?_)
  refine ls_nil (c_then ?_)
  refine wr_ret ?_
  refine r_then ?_
  have H := Option.some.inj H
  subst H
  refine post1 (.inl rfl) hF hW rfl (rv_tmp hF rfl) ?_
  exact ⟨rfl, hW.done⟩
 ·
  have H := iteF (of_decide_eq_false hb) H
  rw [hb] at hF
  clear hb
  refine wr_skip ?_
  refine c_then ?_
  obtain ⟨o1, G1, K1, L1⟩ := orE H
  refine c_seqJ (fun a w => some (Sum.inl ()) = some o1 ∧ Fr 26 [] [(4, .bool false)] a ∧ Stw ⟨Y, [], w0⟩ [] [] w) ?_ ?_
  ·
   have H := G1
   clear G1 K1
   refine c_seq (reg_list ?_)
   refine ls hF hW rfl ((y_assign hF rfl).q) (fun a w hF hW => ?_)
   refine ls_nil (c_then ?_)
   refine wr_block ?_
   refine c_loopW H (fun s a w => Fr 26 [] [(0, v1), (1, v2), (4, .bool false), (5, .int .i64 s)] a ∧ Stw ⟨Y, [], w0⟩ [] [] w) ⟨hF.re ⟨rfl, rfl, rfl, rfl, trivial⟩, hW⟩ (fun s o a w H L2 hR => ?_)
   obtain ⟨x1, rfl⟩ : ∃ x, x = s := ⟨s, rfl⟩
   obtain ⟨hF, hW⟩ := hR
   have hF : Fr 26 [] [(0, v1), (1, v2), (4, .bool false), (5, .int .i64 x1)] a := hF
   have hW : Stw ⟨Y, [], w0⟩ [] [] w := hW
   rw [r09_Same_l1] at H
   refine c_seq ?_
   refine c_seq (reg_list ?_)
   iterate 2 refine ls hF hW rfl ((y_move hF rfl).q) (fun a w hF hW => ?_)
   refine ls hF hW rfl ((y_len (r := R27) (l := p0) u22_ rfl hF rfl (rdc_ro h_v1)).q) (fun a w hF hW => ?_)
   refine ls hF hW rfl ((y_lss hF rfl rfl).q) (fun a w hF hW => ?_)
   refine ls_nil (c_then ?_)
   refine c_cond hF rfl (fun hb => ?_) (fun hb => ?_)
   ·
    have H := iteT (of_decide_eq_true hb) H
    rw [hb] at hF
    clear hb
    refine wr_skip ?_
    refine c_then ?_
    refine c_seq ?_
    refine wr_block ?_
    refine c_seq ?_
    refine reg_quiet hW MO (by kernel_rfl) ?_
    iterate 2 refine qs hF rfl ((y_move hF rfl).q) (fun a hF => ?_)
    obtain ⟨x2, h1, H⟩ := bindE H
    refine qs hF rfl ((y_index (r := R27) L22 hF rfl rfl (rdc_ro h_v1) h1).q) (fun a hF => ?_)
    refine qs hF rfl ((y_load_el (y := Value.agg #[.int .i64 x2.1, .int .i64 x2.2.1, .int .i64 x2.2.2]) (j := 0) (i := x1) hF rfl rfl (rdc_ro h_v1) h1 F27.to T27 rfl).q) (fun a hF => ?_)
    iterate 2 refine qs hF rfl ((y_move hF rfl).q) (fun a hF => ?_)
    obtain ⟨x3, h2, H⟩ := bindE H
    refine qs hF rfl ((y_index (r := R27) L22 hF rfl rfl (rdc_ro h_v2) h2).q) (fun a hF => ?_)
    refine qs hF rfl ((y_load_el (y := Value.agg #[.int .i64 x3.1, .int .i64 x3.2.1, .int .i64 x3.2.2]) (j := 0) (i := x1) hF rfl rfl (rdc_ro h_v2) h2 F27.to T27 rfl).q) (fun a hF => ?_)
    refine qs hF rfl ((y_nea (t := decide (x2.1 = x3.1 ∧ x2.2.1 = x3.2.1 ∧ x2.2.2 = x3.2.2)) G27 (Q27 _ _ _ _ _ _) hF rfl rfl).q) (fun a hF => ?_)
    refine quiet_end (fun w hW => ?_)
    refine c_then ?_
    refine c_cond hF rfl (fun hb => ?_) (fun hb => ?_)
    ·
     have H := iteT hb H
     rw [hb] at hF
     clear hb
     refine c_seq (reg_list ?_)
     refine ls hF hW rfl ((y_assign hF rfl).q) (fun a w hF hW => ?_)
     refine ls_nil (c_then ?_)
     refine wr_ret ?_
     refine r_block ?_
     iterate 2 refine r_then ?_
     refine r_block ?_
     refine r_then ?_
     have H := L2 _ H
     have H := L1 _ H
     have H := Option.some.inj H
     subst H
     refine post1 (.inl rfl) hF hW rfl (rv_tmp hF rfl) ?_
     exact ⟨rfl, hW.done⟩
    ·
     have H := iteF (by rw [hb]; decide) H
     rw [hb] at hF
     clear hb
     refine wr_skip ?_
     refine b_normal ?_
     refine c_then ?_
     refine reg_list ?_
     refine ls hF hW rfl ((y_move hF rfl).q) (fun a w hF hW => ?_)
     refine ls hF hW rfl ((y_add hF rfl rfl rfl).q) (fun a w hF hW => ?_)
     refine ls hF hW rfl ((y_assign hF rfl).q) (fun a w hF hW => ?_)
     refine ls_nil (c_then ?_)
     exact ⟨_, H, hF.re ⟨rfl, rfl, rfl, rfl, trivial⟩, hW⟩
   ·
    have H := iteF (of_decide_eq_false hb) H
    rw [hb] at hF
    clear hb
    refine wr_exit ?_
    iterate 2 refine e_then ?_
    refine e_block ?_
    refine c_then ?_
    have H := L2 _ H
    exact ⟨H, hF.re ⟨rfl, trivial⟩, hW⟩
  rintro a w ⟨hj, hF, hW⟩
  have H := K1 _ hj
  clear hj G1 K1 L1
  refine c_seq (reg_list ?_)
  refine ls hF hW rfl ((y_assign hF rfl).q) (fun a w hF hW => ?_)
  refine ls_nil (c_then ?_)
  refine wr_ret ?_
  have H := Option.some.inj H
  subst H
  refine post1 (.inl rfl) hF hW rfl (rv_tmp hF rfl) ?_
  exact ⟨rfl, hW.done⟩

theorem u5_ : type_of% Tryd.underlying5 := Tryd.underlying5
theorem u9_ : type_of% Tryd.underlying9 := Tryd.underlying9
theorem u66_ : type_of% Tryd.underlying66 := Tryd.underlying66
theorem H16 : Has Tryd.prog 16 := ⟨fun args w => run_callFunc_body Tryd.func16 rfl (by decide) args w⟩
theorem L66 : Et Tryd.prog 66 5 1 1 := Et.of u66_ (by kernel_rfl) (by kernel_rfl) (by kernel_rfl) (by decide)
theorem Z5 : (Tryd.prog.info? 5).bind (·.zero) = some (.int .u8 0) := by kernel_rfl
theorem T5 : Ty Tryd.prog 5 false 1 := ⟨by kernel_rfl, by kernel_rfl⟩
noncomputable def octet_bigEndian_l1 (p0 : Int) (p1 : Int) : (List Int × Int) → Option ((List Int × Int) ⊕ (List Int))
  | (x3, x4) => (if x4 < p1 then (shN (shrI .i64 p0 (w64 (8 * (w64 ((w64 (p1 - 1)) - x4))))) (w64 (8 * (w64 ((w64 (p1 - 1)) - x4))))).bind fun x5 => (ix x3 x4).bind fun x6 => some (.inl ((setAt x3 x4 (IntKind.u8.wrap x5)), w64 (x4 + 1))) else some (.inr x3))
noncomputable def octet_bigEndian (p0 : Int) (p1 : Int) : Option (List UInt8) := (mk p1 (0 : Int)).bind fun x1 => (loopW (octet_bigEndian_l1 p0 p1) (x1, 0)).bind fun x2 => some (strOf x2)
theorem octet_bigEndian_c (Y : Nat → Prop) (w0 : World)  (p0 : Int) (p1 : Int) (r : List UInt8) (H : octet_bigEndian p0 p1 = some r)  :
    Calls Tryd.prog 61 #[.int .i64 p0, .int .i64 p1] w0 fun e w' => e = .returned (.string (bs r)) ∧ Below w0.heap.size w0 w' := by
 refine enter Tryd.func61 rfl Tryd.ntmps61 rfl (fun a hF => ?_)
 have hW := Stw.start Y w0
 unfold octet_bigEndian at H
 refine c_seq (reg_list ?_)
 refine ls hF hW rfl ((y_assign (v := Value.string (bs ([] : List UInt8))) hF rfl).q) (fun a w hF hW => ?_)
 refine ls_nil (c_then ?_)
 refine c_seq (reg_list ?_)
 refine ls hF hW rfl ((y_move hF rfl).q) (fun a w hF hW => ?_)
 obtain ⟨x1, h1, H⟩ := bindE H
 refine l_make (r := (Rp.int .u8)) (0 : Int) hF hW rfl L66 Z5 rfl rfl (fun w A => Fl.int.mk' w A _) h1 rfl (fun v1 a w hF hW => ?_)
 refine ls hF hW rfl ((y_assign hF rfl).q) (fun a w hF hW => ?_)
 refine ls_nil (c_then ?_)
 obtain ⟨o1, G1, K1⟩ := bindE H
 refine c_seqJ (fun a w => ∃ x2 : List Int, some (x2) = some o1 ∧ Fr 27 [] [(4, .string (bs ([] : List UInt8))), (5, v1)] a ∧ Stw ⟨Y, [], w0⟩ [] [row v1 5 (Rp.int .u8) x2] w) ?_ ?_
 ·
  have H := G1
  clear G1 K1
  refine c_seq (reg_list ?_)
  iterate 2 refine ls hF hW rfl ((y_move hF rfl).q) (fun a w hF hW => ?_)
  refine ls_nil (c_then ?_)
  refine wr_block ?_
  refine c_loopW H (fun s a w => Fr 27 [] [(0, .int .i64 p0), (1, .int .i64 p1), (4, .string (bs ([] : List UInt8))), (5, v1), (9, .int .i64 p1), (10, .int .i64 s.2)] a ∧ Stw ⟨Y, [], w0⟩ [] [row v1 5 (Rp.int .u8) s.1] w) ⟨hF.re ⟨rfl, rfl, rfl, rfl, rfl, rfl, trivial⟩, hW⟩ (fun s o a w H L2 hR => ?_)
  obtain ⟨x3, x4⟩ := s
  obtain ⟨hF, hW⟩ := hR
  have hF : Fr 27 [] [(0, .int .i64 p0), (1, .int .i64 p1), (4, .string (bs ([] : List UInt8))), (5, v1), (9, .int .i64 p1), (10, .int .i64 x4)] a := hF
  have hW : Stw ⟨Y, [], w0⟩ [] [row v1 5 (Rp.int .u8) x3] w := hW
  rw [octet_bigEndian_l1] at H
  refine c_seq (reg_list ?_)
  refine ls hF hW rfl ((y_lss hF rfl rfl).q) (fun a w hF hW => ?_)
  refine ls_nil (c_then ?_)
  refine c_seq ?_
  refine c_cond hF rfl (fun hb => ?_) (fun hb => ?_)
  ·
   have H := iteT (of_decide_eq_true hb) H
   rw [hb] at hF
   clear hb
   refine wr_skip ?_
   refine c_then ?_
   refine c_seq ?_
   refine wr_block ?_
   refine c_seq (reg_list ?_)
   refine ls hF hW rfl ((y_move hF rfl).q) (fun a w hF hW => ?_)
   refine ls hF hW rfl ((y_assign hF rfl).q) (fun a w hF hW => ?_)
   refine ls_nil (c_then ?_)
   refine reg_list ?_
   iterate 4 refine ls hF hW rfl ((y_move hF rfl).q) (fun a w hF hW => ?_)
   refine ls hF hW rfl ((y_sub hF rfl rfl rfl).q) (fun a w hF hW => ?_)
   refine ls hF hW rfl ((y_move hF rfl).q) (fun a w hF hW => ?_)
   refine ls hF hW rfl ((y_sub hF rfl rfl rfl).q) (fun a w hF hW => ?_)
   refine ls hF hW rfl ((y_mul hF rfl rfl rfl).q) (fun a w hF hW => ?_)
   obtain ⟨x5, h2, H⟩ := bindE H
   refine ls hF hW rfl ((y_shc (shN_some h2).2 (y_shr hF rfl rfl (shN_some h2).1)).q) (fun a w hF hW => ?_)
   refine ls hF hW rfl ((y_convI u3_ u5_ hF rfl).q) (fun a w hF hW => ?_)
   obtain ⟨x6, h3, H⟩ := bindE H
   refine ls hF hW rfl ((y_index (r := (Rp.int .u8)) L66 hF rfl rfl (rdc_row 0 rfl) h3).q) (fun a w hF hW => ?_)
   refine l_store_el (i := x4) (j := 0) (vs := [.int .u8 (IntKind.u8.wrap x5)]) (x' := IntKind.u8.wrap x5) hF hW rfl rfl rfl (k := 0) rfl rfl h3 T5 rfl rfl rfl rfl (fun A cs _ => Fl.int.sto (by rfl) _ _ _) (fun w hW => ?_)
   refine ls_nil ?_
   refine b_normal ?_
   refine c_then ?_
   refine reg_list ?_
   refine ls hF hW rfl ((y_add hF rfl rfl rfl).q) (fun a w hF hW => ?_)
   refine ls hF hW rfl ((y_move hF rfl).q) (fun a w hF hW => ?_)
   refine ls_nil (c_then ?_)
   exact ⟨_, H, hF.re ⟨rfl, rfl, rfl, rfl, rfl, rfl, trivial⟩, hW⟩
  ·
   have H := iteF (of_decide_eq_false hb) H
   rw [hb] at hF
   clear hb
   refine wr_exit ?_
   iterate 2 refine e_then ?_
   refine e_block ?_
   refine c_then ?_
   have H := L2 _ H
   exact ⟨_, H, hF.re ⟨rfl, rfl, trivial⟩, hW⟩
 rintro a w ⟨x2, hj, hF, hW⟩
 have hj := Option.some.inj hj
 subst hj
 have H := K1
 clear G1 K1
 refine c_seq (reg_list ?_)
 refine ls hF hW rfl ((y_move hF rfl).q) (fun a w hF hW => ?_)
 refine ls hF hW rfl ((y_convB (ns := x2) u66_ u5_ u9_ hF rfl (rdc_row 0 rfl)).q) (fun a w hF hW => ?_)
 refine ls hF hW rfl ((y_assign hF rfl).q) (fun a w hF hW => ?_)
 refine ls_nil (c_then ?_)
 refine wr_ret ?_
 have H := Option.some.inj H
 subst H
 refine post1 (.inl rfl) hF hW rfl (rv_tmp hF rfl) ?_
 exact ⟨rfl, hW.done⟩

theorem H61 : Has Tryd.prog 61 := ⟨fun args w => run_callFunc_body Tryd.func61 rfl (by decide) args w⟩
noncomputable def octet_Num (p0 : Int) (p1 : Int) : Option (List UInt8) := (if p1 < 1 then some true else (if 7 < p1 then some true else (if p0 < 0 then some true else (shN (shrI .i64 p0 (w64 (8 * p1))) (w64 (8 * p1))).bind fun x2 => some (decide (x2 ≠ 0))))).bind fun x1 => (if x1 = true then some ([] : List UInt8) else (octet_bigEndian p0 p1).bind fun x3 => some x3)
theorem octet_Num_c (Y : Nat → Prop) (w0 : World)  (p0 : Int) (p1 : Int) (r : List UInt8) (H : octet_Num p0 p1 = some r)  :
    Calls Tryd.prog 40 #[.int .i64 p0, .int .i64 p1] w0 fun e w' => e = .returned (.string (bs r)) ∧ Below w0.heap.size w0 w' := by
 refine enter Tryd.func40 rfl Tryd.ntmps40 rfl (fun a hF => ?_)
 have hW := Stw.start Y w0
 unfold octet_Num at H
 refine c_seq (reg_list ?_)
 refine ls hF hW rfl ((y_assign (v := Value.string (bs ([] : List UInt8))) hF rfl).q) (fun a w hF hW => ?_)
 refine ls_nil (c_then ?_)
 refine c_seq ?_
 obtain ⟨o1, G1, K1⟩ := bindE H
 refine c_seqJ (fun a w => ∃ x1 : Bool, some (x1) = some o1 ∧ Fr 25 [] [(0, .int .i64 p0), (1, .int .i64 p1), (4, .string (bs ([] : List UInt8))), (21, .bool x1)] a ∧ Stw ⟨Y, [], w0⟩ [] [] w) ?_ ?_
 ·
  have H := G1
  clear G1 K1
  refine reg_list ?_
  refine ls hF hW rfl ((y_move hF rfl).q) (fun a w hF hW => ?_)
  refine ls hF hW rfl ((y_lss hF rfl rfl).q) (fun a w hF hW => ?_)
  refine ls hF hW rfl ((y_move hF rfl).q) (fun a w hF hW => ?_)
  rcases Bool.eq_false_or_eq_true (decide (p1 < 1)) with hb | hb
  ·
   have H := iteT (of_decide_eq_true hb) H
   rw [hb] at hF
   clear hb
   iterate 2 refine lsn hF rfl rfl rfl rfl rfl rfl rfl (fun a hF => ?_)
   refine ls hF hW rfl ((y_pick_t hF rfl rfl rfl).q) (fun a w hF hW => ?_)
   refine ls hF hW rfl ((y_move hF rfl).q) (fun a w hF hW => ?_)
   iterate 2 refine lsn hF rfl rfl rfl rfl rfl rfl rfl (fun a hF => ?_)
   refine ls hF hW rfl ((y_pick_t hF rfl rfl rfl).q) (fun a w hF hW => ?_)
   refine ls hF hW rfl ((y_move hF rfl).q) (fun a w hF hW => ?_)
   iterate 5 refine lsn hF rfl rfl rfl rfl rfl rfl rfl (fun a hF => ?_)
   refine ls hF hW rfl ((y_pick_t hF rfl rfl rfl).q) (fun a w hF hW => ?_)
   refine ls_nil (c_then ?_)
   exact ⟨_, H, hF.re ⟨rfl, rfl, rfl, rfl, trivial⟩, hW⟩
  ·
   have H := iteF (of_decide_eq_false hb) H
   rw [hb] at hF
   clear hb
   refine ls_w hF hW (wanted_y hF rfl rfl rfl rfl) rfl (Nat.le_of_ble_eq_true rfl) ((y_move hF rfl).q) (fun a w hF hW => ?_)
   refine ls_w hF hW (wanted_y hF rfl rfl rfl rfl) rfl (Nat.le_of_ble_eq_true rfl) ((y_gtr hF rfl rfl).q) (fun a w hF hW => ?_)
   refine ls hF hW rfl ((y_pick_f hF rfl rfl rfl).q) (fun a w hF hW => ?_)
   refine ls hF hW rfl ((y_move hF rfl).q) (fun a w hF hW => ?_)
   rcases Bool.eq_false_or_eq_true (decide (7 < p1)) with hb | hb
   ·
    have H := iteT (of_decide_eq_true hb) H
    rw [hb] at hF
    clear hb
    iterate 2 refine lsn hF rfl rfl rfl rfl rfl rfl rfl (fun a hF => ?_)
    refine ls hF hW rfl ((y_pick_t hF rfl rfl rfl).q) (fun a w hF hW => ?_)
    refine ls hF hW rfl ((y_move hF rfl).q) (fun a w hF hW => ?_)
    iterate 5 refine lsn hF rfl rfl rfl rfl rfl rfl rfl (fun a hF => ?_)
    refine ls hF hW rfl ((y_pick_t hF rfl rfl rfl).q) (fun a w hF hW => ?_)
    refine ls_nil (c_then ?_)
    exact ⟨_, H, hF.re ⟨rfl, rfl, rfl, rfl, trivial⟩, hW⟩
   ·
    have H := iteF (of_decide_eq_false hb) H
    rw [hb] at hF
    clear hb
    refine ls_w hF hW (wanted_y hF rfl rfl rfl rfl) rfl (Nat.le_of_ble_eq_true rfl) ((y_move hF rfl).q) (fun a w hF hW => ?_)
    refine ls_w hF hW (wanted_y hF rfl rfl rfl rfl) rfl (Nat.le_of_ble_eq_true rfl) ((y_lss hF rfl rfl).q) (fun a w hF hW => ?_)
    refine ls hF hW rfl ((y_pick_f hF rfl rfl rfl).q) (fun a w hF hW => ?_)
    refine ls hF hW rfl ((y_move hF rfl).q) (fun a w hF hW => ?_)
    rcases Bool.eq_false_or_eq_true (decide (p0 < 0)) with hb | hb
    ·
     have H := iteT (of_decide_eq_true hb) H
     rw [hb] at hF
     clear hb
     iterate 5 refine lsn hF rfl rfl rfl rfl rfl rfl rfl (fun a hF => ?_)
     refine ls hF hW rfl ((y_pick_t hF rfl rfl rfl).q) (fun a w hF hW => ?_)
     refine ls_nil (c_then ?_)
     exact ⟨_, H, hF.re ⟨rfl, rfl, rfl, rfl, trivial⟩, hW⟩
    ·
     have H := iteF (of_decide_eq_false hb) H
     rw [hb] at hF
     clear hb
     iterate 2 refine ls_w hF hW (wanted_y hF rfl rfl rfl rfl) rfl (Nat.le_of_ble_eq_true rfl) ((y_move hF rfl).q) (fun a w hF hW => ?_)
     refine ls_w hF hW (wanted_y hF rfl rfl rfl rfl) rfl (Nat.le_of_ble_eq_true rfl) ((y_mul hF rfl rfl rfl).q) (fun a w hF hW => ?_)
     obtain ⟨x2, h1, H⟩ := bindE H
     refine ls_w hF hW (wanted_y hF rfl rfl rfl rfl) rfl (Nat.le_of_ble_eq_true rfl) ((y_shc (shN_some h1).2 (y_shr hF rfl rfl (shN_some h1).1)).q) (fun a w hF hW => ?_)
     refine ls_w hF hW (wanted_y hF rfl rfl rfl rfl) rfl (Nat.le_of_ble_eq_true rfl) ((y_neq hF rfl rfl).q) (fun a w hF hW => ?_)
     refine ls hF hW rfl ((y_pick_f hF rfl rfl rfl).q) (fun a w hF hW => ?_)
     refine ls_nil (c_then ?_)
     exact ⟨_, H, hF.re ⟨rfl, rfl, rfl, rfl, trivial⟩, hW⟩
 rintro a w ⟨x1, hj, hF, hW⟩
 have hj := Option.some.inj hj
 subst hj
 have H := K1
 clear G1 K1
 refine c_cond hF rfl (fun hb => ?_) (fun hb => ?_)
 ·
  have H := iteT hb H
  rw [hb] at hF
  clear hb
  refine c_seq (reg_list ?_)
  refine ls hF hW rfl ((y_assign (v := Value.string (bs ([] : List UInt8))) hF rfl).q) (fun a w hF hW => ?_)
  refine ls_nil (c_then ?_)
  refine wr_ret ?_
  refine r_then ?_
  have H := Option.some.inj H
  subst H
  refine post1 (.inl rfl) hF hW rfl (rv_tmp hF rfl) ?_
  exact ⟨rfl, hW.done⟩
 ·
  have H := iteF (by rw [hb]; decide) H
  rw [hb] at hF
  clear hb
  refine wr_skip ?_
  refine c_then ?_
  refine c_seq (reg_list ?_)
  iterate 2 refine ls hF hW rfl ((y_move hF rfl).q) (fun a w hF hW => ?_)
  obtain ⟨x3, h2, H⟩ := bindE H
  refine ls hF hW rfl (y_call (v := Value.string (bs x3)) hF H61 rfl (fun w hW => octet_bigEndian_c any w p0 p1 _ h2)) (fun a w hF hW => ?_)
  refine ls hF hW rfl ((y_assign hF rfl).q) (fun a w hF hW => ?_)
  refine ls_nil (c_then ?_)
  refine wr_ret ?_
  have H := Option.some.inj H
  subst H
  refine post1 (.inl rfl) hF hW rfl (rv_tmp hF rfl) ?_
  exact ⟨rfl, hW.done⟩

theorem H40 : Has Tryd.prog 40 := ⟨fun args w => run_callFunc_body Tryd.func40 rfl (by decide) args w⟩
theorem H39 : Has Tryd.prog 39 := ⟨fun args w => run_callFunc_body Tryd.func39 rfl (by decide) args w⟩
theorem H41 : Has Tryd.prog 41 := ⟨fun args w => run_callFunc_body Tryd.func41 rfl (by decide) args w⟩
noncomputable def act_Code_l1 (p0 : List (Int × Int × Int)) : (Int × List UInt8) → Option ((Int × List UInt8) ⊕ (List UInt8))
  | (x4, x5) => (if x4 < (p0.length : Int) then (ix p0 x4).bind fun x6 => (octet_Num x6.1 1).bind fun x7 => (octet_Num x6.2.1 1).bind fun x8 => (app x7 x8).bind fun x9 => (octet_Num x6.2.2 1).bind fun x10 => (app x9 x10).bind fun x11 => (app x5 x11).bind fun x12 => some (.inl (w64 (x4 + 1), x12)) else some (.inr x5))
noncomputable def act_Code (p0 : List (Int × Int × Int)) : Option (List UInt8) := (octet_Num (p0.length : Int) 1).bind fun x1 => (app ([] : List UInt8) x1).bind fun x2 => (loopW (act_Code_l1 p0) (0, x2)).bind fun x3 => (lenB x3).bind fun x13 => some x13
theorem act_Code_c (Y : Nat → Prop) (w0 : World) (v1 : Value) (p0 : List (Int × Int × Int)) (r : List UInt8) (H : act_Code p0 = some r) (h_v1 : Sl w0 (NX []) R27 v1 p0) :
    Calls Tryd.prog 19 #[v1] w0 fun e w' => e = .returned (.string (bs r)) ∧ Below w0.heap.size w0 w' := by
 refine enter Tryd.func19 rfl Tryd.ntmps19 rfl (fun a hF => ?_)
 have hW := Stw.start Y w0
 unfold act_Code at H
 refine c_seq (reg_list ?_)
 refine ls hF hW rfl ((y_assign (v := Value.string (bs ([] : List UInt8))) hF rfl).q) (fun a w hF hW => ?_)
 refine ls_nil (c_then ?_)
 refine c_seq (reg_list ?_)
 refine l_allocB hF hW rfl (fun b1 a w hF hW => ?_)
 have hW : Stw ⟨Y, [], w0⟩ [] [bldr 68 5 b1 (Value.slice none 0 0) ([] : List UInt8)] w := hW
 refine ls_nil (c_then ?_)
 refine c_seq (reg_list ?_)
 refine ls hF hW rfl ((y_move hF rfl).q) (fun a w hF hW => ?_)
 refine ls hF hW rfl ((y_len (r := R27) (l := p0) u22_ rfl hF rfl (rdc_ro h_v1)).q) (fun a w hF hW => ?_)
 obtain ⟨x1, h1, H⟩ := bindE H
 refine ls hF hW rfl (y_call (v := Value.string (bs x1)) hF H40 rfl (fun w hW => octet_Num_c any w (p0.length : Int) 1 _ h1)) (fun a w hF hW => ?_)
 obtain ⟨x2, h2, H⟩ := bindE H
 refine l_callG (Ml := []) (Zl := [bldr 68 5 b1 (Value.slice none 0 0) ([] : List UInt8)]) (M := []) (Z := []) (β := Value) (rv := fun x => .tuple #[.int .i64 (x1.length : Int), .nilIface]) (MM := fun x => []) (ZZ := fun x => [bldr 68 5 b1 x x2]) hF hW H39 rfl rfl (fun hL => ws_c _ _ w b1 (Value.slice none 0 0) ([] : List UInt8) x1 _ h2 hL) (fun v2 a w hF hW => ?_)
 have hW : Stw ⟨Y, [], w0⟩ [] [bldr 68 5 b1 v2 x2] w := hW
 refine ls_nil (c_then ?_)
 obtain ⟨o1, G1, K1⟩ := bindE H
 refine c_seqJ (fun a w => ∃ x3 : List UInt8, ∃ v3 : Value, some (x3) = some o1 ∧ Fr 30 [] [(2, .string (bs ([] : List UInt8))), (3, .pointer (some ⟨b1, 0, none⟩))] a ∧ Stw ⟨Y, [], w0⟩ [] [bldr 68 5 b1 v3 x3] w) ?_ ?_
 ·
  have H := G1
  clear G1 K1
  refine c_seq (reg_list ?_)
  refine ls hF hW rfl ((y_move hF rfl).q) (fun a w hF hW => ?_)
  refine ls hF hW rfl ((y_len (r := R27) (l := p0) u22_ rfl hF rfl (rdc_ro h_v1)).q) (fun a w hF hW => ?_)
  refine ls hF hW rfl ((y_move hF rfl).q) (fun a w hF hW => ?_)
  refine ls_nil (c_then ?_)
  refine wr_block ?_
  refine c_loopW H (fun s a w => ∃ v4 : Value, Fr 30 [] [(2, .string (bs ([] : List UInt8))), (3, .pointer (some ⟨b1, 0, none⟩)), (10, v1), (11, .int .i64 (p0.length : Int)), (12, .int .i64 s.1)] a ∧ Stw ⟨Y, [], w0⟩ [] [bldr 68 5 b1 v4 s.2] w) ⟨v2, hF.re ⟨rfl, rfl, rfl, rfl, rfl, trivial⟩, hW⟩ (fun s o a w H L2 hR => ?_)
  obtain ⟨x4, x5⟩ := s
  obtain ⟨v4, hF, hW⟩ := hR
  have hF : Fr 30 [] [(2, .string (bs ([] : List UInt8))), (3, .pointer (some ⟨b1, 0, none⟩)), (10, v1), (11, .int .i64 (p0.length : Int)), (12, .int .i64 x4)] a := hF
  have hW : Stw ⟨Y, [], w0⟩ [] [bldr 68 5 b1 v4 x5] w := hW
  rw [act_Code_l1] at H
  refine c_seq (reg_list ?_)
  refine ls hF hW rfl ((y_lss hF rfl rfl).q) (fun a w hF hW => ?_)
  refine ls_nil (c_then ?_)
  refine c_seq ?_
  refine c_cond hF rfl (fun hb => ?_) (fun hb => ?_)
  ·
   have H := iteT (of_decide_eq_true hb) H
   rw [hb] at hF
   clear hb
   refine wr_skip ?_
   refine c_then ?_
   refine c_seq ?_
   refine wr_block ?_
   refine c_seq (reg_list ?_)
   obtain ⟨x6, h3, H⟩ := bindE H
   refine ls hF hW rfl ((y_index (r := R27) L22 hF rfl rfl (rdc_ro h_v1) h3).q) (fun a w hF hW => ?_)
   refine ls hF hW rfl ((y_load_el (y := Value.agg #[.int .i64 x6.1, .int .i64 x6.2.1, .int .i64 x6.2.2]) (j := 0) (i := x4) hF rfl rfl (rdc_ro h_v1) h3 F27.to T27 rfl).q) (fun a w hF hW => ?_)
   refine l_alloc (cs := [.int .i64 0, .int .i64 0, .int .i64 0]) hF hW rfl Z27 rfl (fun b2 a w hF hW => ?_)
   refine l_store (vs := [.int .i64 x6.1, .int .i64 x6.2.1, .int .i64 x6.2.2]) (M' := [(b2, [.int .i64 x6.1, .int .i64 x6.2.1, .int .i64 x6.2.2])]) 0 hF hW rfl rfl rfl T27 rfl rfl rfl rfl rfl (fun w hW => ?_)
   refine ls_nil (c_then ?_)
   refine reg_tail 11 hW MO (by kernel_rfl) ?_
   refine qs hF rfl ((y_fieldAddr u27_ rfl rfl rfl T3 hF rfl 0 rfl).q) (fun a hF => ?_)
   refine qs hF rfl ((y_load (v := Value.int .i64 x6.1) 0 hF rfl rfl T3 rfl).q) (fun a hF => ?_)
   obtain ⟨x7, h4, H⟩ := bindE H
   refine qs hF rfl (y_call (v := Value.string (bs x7)) hF H40 rfl (fun w hW => octet_Num_c any w x6.1 1 _ h4)) (fun a hF => ?_)
   refine qs hF rfl ((y_fieldAddr u27_ rfl rfl rfl T3 hF rfl 1 rfl).q) (fun a hF => ?_)
   refine qs hF rfl ((y_load (v := Value.int .i64 x6.2.1) 0 hF rfl rfl T3 rfl).q) (fun a hF => ?_)
   obtain ⟨x8, h5, H⟩ := bindE H
   refine qs hF rfl (y_call (v := Value.string (bs x8)) hF H40 rfl (fun w hW => octet_Num_c any w x6.2.1 1 _ h5)) (fun a hF => ?_)
   obtain ⟨x9, h6, H⟩ := bindE H
   refine qs hF rfl ((y_sadd (l := x7) (m := x8) hF rfl rfl h6).q) (fun a hF => ?_)
   refine qs hF rfl ((y_fieldAddr u27_ rfl rfl rfl T3 hF rfl 2 rfl).q) (fun a hF => ?_)
   refine qs hF rfl ((y_load (v := Value.int .i64 x6.2.2) 0 hF rfl rfl T3 rfl).q) (fun a hF => ?_)
   obtain ⟨x10, h7, H⟩ := bindE H
   refine qs hF rfl (y_call (v := Value.string (bs x10)) hF H40 rfl (fun w hW => octet_Num_c any w x6.2.2 1 _ h7)) (fun a hF => ?_)
   obtain ⟨x11, h8, H⟩ := bindE H
   refine qs hF rfl ((y_sadd (l := x9) (m := x10) hF rfl rfl h8).q) (fun a hF => ?_)
   refine quiet_end (fun w hW => ?_)
   obtain ⟨x12, h9, H⟩ := bindE H
   refine l_callG (Ml := []) (Zl := [bldr 68 5 b1 v4 x5]) (M := [(b2, [.int .i64 x6.1, .int .i64 x6.2.1, .int .i64 x6.2.2])]) (Z := []) (β := Value) (rv := fun x => .tuple #[.int .i64 (x11.length : Int), .nilIface]) (MM := fun x => []) (ZZ := fun x => [bldr 68 5 b1 x x12]) hF hW H39 rfl rfl (fun hL => ws_c _ _ w b1 v4 x5 x11 _ h9 hL) (fun v5 a w hF hW => ?_)
   have hW : Stw ⟨Y, [], w0⟩ [(b2, [.int .i64 x6.1, .int .i64 x6.2.1, .int .i64 x6.2.2])] [bldr 68 5 b1 v5 x12] w := hW
   refine ls_nil ?_
   refine b_normal ?_
   refine c_then ?_
   refine reg_list ?_
   refine ls hF hW rfl ((y_add hF rfl rfl rfl).q) (fun a w hF hW => ?_)
   refine ls hF hW rfl ((y_move hF rfl).q) (fun a w hF hW => ?_)
   refine ls_nil (c_then ?_)
   have hW := hW.sub (M' := []) (Z' := [bldr 68 5 b1 v5 x12]) (List.nil_sublist _) (List.Sublist.refl _)
   exact ⟨_, H, v5, hF.re ⟨rfl, rfl, rfl, rfl, rfl, trivial⟩, hW⟩
  ·
   have H := iteF (of_decide_eq_false hb) H
   rw [hb] at hF
   clear hb
   refine wr_exit ?_
   iterate 2 refine e_then ?_
   refine e_block ?_
   refine c_then ?_
   have H := L2 _ H
   exact ⟨_, v4, H, hF.re ⟨rfl, rfl, trivial⟩, hW⟩
 rintro a w ⟨x3, v3, hj, hF, hW⟩
 have hj := Option.some.inj hj
 subst hj
 have H := K1
 clear G1 K1
 refine c_seq (reg_list ?_)
 obtain ⟨x13, h10, H⟩ := bindE H
 refine l_callG (Ml := []) (Zl := [bldr 68 5 b1 v3 x3]) (M := []) (Z := []) (β := Unit) (rv := fun x => .string (bs x13)) (MM := fun x => []) (ZZ := fun x => [bldr 68 5 b1 v3 x3]) hF hW H41 rfl rfl (fun hL => st_c _ _ w b1 v3 x3 _ h10 hL) (fun _ a w hF hW => ?_)
 have hW : Stw ⟨Y, [], w0⟩ [] [bldr 68 5 b1 v3 x3] w := hW
 refine ls hF hW rfl ((y_assign hF rfl).q) (fun a w hF hW => ?_)
 refine ls_nil (c_then ?_)
 refine wr_ret ?_
 have H := Option.some.inj H
 subst H
 refine post1 (.inl rfl) hF hW rfl (rv_tmp hF rfl) ?_
 exact ⟨rfl, hW.done⟩

theorem H19 : Has Tryd.prog 19 := ⟨fun args w => run_callFunc_body Tryd.func19 rfl (by decide) args w⟩
noncomputable def r04_Num_l1 (p1 : Int) : (Int × List UInt8 × Int) → Option ((Int × List UInt8 × Int) ⊕ (Int × List UInt8))
  | (x3, x4, x5) => (if x5 < p1 then (app (strOf ([IntKind.u8.wrap (Int.tmod x3 256)] : List Int)) x4).bind fun x6 => some (.inl (w64 (Int.tdiv x3 256), x6, w64 (x5 + 1))) else some (.inr (x3, x4)))
noncomputable def r04_Num (p0 : Int) (p1 : Int) : Option (List UInt8) := (if (decide (p1 < 1) || (decide (7 < p1) || decide (p0 < 0))) = true then some ([] : List UInt8) else (loopW (r04_Num_l1 p1) (p0, ([] : List UInt8), 0)).bind fun (x1, x2) => (if x1 ≠ 0 then some ([] : List UInt8) else some x2))
theorem r04_Num_c (Y : Nat → Prop) (w0 : World)  (p0 : Int) (p1 : Int) (r : List UInt8) (H : r04_Num p0 p1 = some r)  :
    Calls Tryd.prog 42 #[.int .i64 p0, .int .i64 p1] w0 fun e w' => e = .returned (.string (bs r)) ∧ Below w0.heap.size w0 w' := by
 refine enter Tryd.func42 rfl Tryd.ntmps42 rfl (fun a hF => ?_)
 have hW := Stw.start Y w0
 unfold r04_Num at H
 refine c_seq (reg_list ?_)
 refine ls hF hW rfl ((y_assign (v := Value.string (bs ([] : List UInt8))) hF rfl).q) (fun a w hF hW => ?_)
 refine ls_nil (c_then ?_)
 refine c_seq ?_
 refine c_seqJ (fun a w => Fr 34 [] [(0, .int .i64 p0), (1, .int .i64 p1), (4, .string (bs ([] : List UInt8))), (16, .bool (decide (p1 < 1) || (decide (7 < p1) || decide (p0 < 0))))] a ∧ Stw ⟨Y, [], w0⟩ [] [] w) ?_ ?_
 ·
  refine reg_list ?_
  refine ls hF hW rfl ((y_move hF rfl).q) (fun a w hF hW => ?_)
  refine ls hF hW rfl ((y_lss hF rfl rfl).q) (fun a w hF hW => ?_)
  refine ls hF hW rfl ((y_move hF rfl).q) (fun a w hF hW => ?_)
  rcases Bool.eq_false_or_eq_true (decide (p1 < 1)) with hb0 | hb0
  ·
   rw [hb0] at hF
   iterate 2 refine lsn hF rfl rfl rfl rfl rfl rfl rfl (fun a hF => ?_)
   refine ls hF hW rfl ((y_pick_t hF rfl rfl rfl).q) (fun a w hF hW => ?_)
   refine ls hF hW rfl ((y_move hF rfl).q) (fun a w hF hW => ?_)
   iterate 2 refine lsn hF rfl rfl rfl rfl rfl rfl rfl (fun a hF => ?_)
   refine ls hF hW rfl ((y_pick_t hF rfl rfl rfl).q) (fun a w hF hW => ?_)
   refine ls_nil (c_then ?_)
   exact ⟨hF.re ⟨rfl, rfl, rfl, (by show some (Value.bool true) = some (Value.bool (decide (p1 < 1) || (decide (7 < p1) || decide (p0 < 0)))); try rw [hb0]; all_goals simp only [Bool.not_true, Bool.not_false, Bool.true_and, Bool.false_and, Bool.true_or, Bool.false_or, Bool.and_true, Bool.or_false, cond_true, cond_false]), trivial⟩, hW⟩
  ·
   rw [hb0] at hF
   refine ls_w hF hW (wanted_y hF rfl rfl rfl rfl) rfl (Nat.le_of_ble_eq_true rfl) ((y_move hF rfl).q) (fun a w hF hW => ?_)
   refine ls_w hF hW (wanted_y hF rfl rfl rfl rfl) rfl (Nat.le_of_ble_eq_true rfl) ((y_gtr hF rfl rfl).q) (fun a w hF hW => ?_)
   refine ls hF hW rfl ((y_pick_f hF rfl rfl rfl).q) (fun a w hF hW => ?_)
   refine ls hF hW rfl ((y_move hF rfl).q) (fun a w hF hW => ?_)
   rcases Bool.eq_false_or_eq_true (decide (7 < p1)) with hb1 | hb1
   ·
    rw [hb1] at hF
    iterate 2 refine lsn hF rfl rfl rfl rfl rfl rfl rfl (fun a hF => ?_)
    refine ls hF hW rfl ((y_pick_t hF rfl rfl rfl).q) (fun a w hF hW => ?_)
    refine ls_nil (c_then ?_)
    exact ⟨hF.re ⟨rfl, rfl, rfl, (by show some (Value.bool true) = some (Value.bool (decide (p1 < 1) || (decide (7 < p1) || decide (p0 < 0)))); try rw [hb0]; try rw [hb1]; all_goals simp only [Bool.not_true, Bool.not_false, Bool.true_and, Bool.false_and, Bool.true_or, Bool.false_or, Bool.and_true, Bool.or_false, cond_true, cond_false]), trivial⟩, hW⟩
   ·
    rw [hb1] at hF
    refine ls_w hF hW (wanted_y hF rfl rfl rfl rfl) rfl (Nat.le_of_ble_eq_true rfl) ((y_move hF rfl).q) (fun a w hF hW => ?_)
    refine ls_w hF hW (wanted_y hF rfl rfl rfl rfl) rfl (Nat.le_of_ble_eq_true rfl) ((y_lss hF rfl rfl).q) (fun a w hF hW => ?_)
    refine ls hF hW rfl ((y_pick_f hF rfl rfl rfl).q) (fun a w hF hW => ?_)
    refine ls_nil (c_then ?_)
    exact ⟨hF.re ⟨rfl, rfl, rfl, (by show some (Value.bool (decide (p0 < 0))) = some (Value.bool (decide (p1 < 1) || (decide (7 < p1) || decide (p0 < 0)))); try rw [hb0]; try rw [hb1]; all_goals simp only [Bool.not_true, Bool.not_false, Bool.true_and, Bool.false_and, Bool.true_or, Bool.false_or, Bool.and_true, Bool.or_false, cond_true, cond_false]), trivial⟩, hW⟩
 rintro a w ⟨hF, hW⟩
 refine c_cond hF rfl (fun hb => ?_) (fun hb => ?_)
 ·
  have H := iteT hb H
  rw [hb] at hF
  clear hb
  refine c_seq (reg_list ?_)
  refine ls hF hW rfl ((y_assign (v := Value.string (bs ([] : List UInt8))) hF rfl).q) (fun a w hF hW => ?_)
  refine ls_nil (c_then ?_)
  refine wr_ret ?_
  refine r_then ?_
  have H := Option.some.inj H
  subst H
  refine post1 (.inl rfl) hF hW rfl (rv_tmp hF rfl) ?_
  exact ⟨rfl, hW.done⟩
 ·
  have H := iteF (by rw [hb]; decide) H
  rw [hb] at hF
  clear hb
  refine wr_skip ?_
  refine c_then ?_
  refine c_seq (reg_list ?_)
  refine ls hF hW rfl ((y_assign (v := Value.string (bs ([] : List UInt8))) hF rfl).q) (fun a w hF hW => ?_)
  refine ls_nil (c_then ?_)
  obtain ⟨o1, G1, K1⟩ := bindE H
  refine c_seqJ (fun a w => ∃ x1 : Int, ∃ x2 : List UInt8, some ((x1, x2)) = some o1 ∧ Fr 34 [] [(0, .int .i64 x1), (4, .string (bs ([] : List UInt8))), (5, .string (bs x2))] a ∧ Stw ⟨Y, [], w0⟩ [] [] w) ?_ ?_
  ·
   have H := G1
   clear G1 K1
   refine c_seq (reg_list ?_)
   refine ls hF hW rfl ((y_assign hF rfl).q) (fun a w hF hW => ?_)
   refine ls_nil (c_then ?_)
   refine wr_block ?_
   refine c_loopW H (fun s a w => Fr 34 [] [(0, .int .i64 s.1), (1, .int .i64 p1), (4, .string (bs ([] : List UInt8))), (5, .string (bs s.2.1)), (6, .int .i64 s.2.2)] a ∧ Stw ⟨Y, [], w0⟩ [] [] w) ⟨hF.re ⟨rfl, rfl, rfl, rfl, rfl, trivial⟩, hW⟩ (fun s o a w H L2 hR => ?_)
   obtain ⟨x3, x4, x5⟩ := s
   obtain ⟨hF, hW⟩ := hR
   have hF : Fr 34 [] [(0, .int .i64 x3), (1, .int .i64 p1), (4, .string (bs ([] : List UInt8))), (5, .string (bs x4)), (6, .int .i64 x5)] a := hF
   have hW : Stw ⟨Y, [], w0⟩ [] [] w := hW
   rw [r04_Num_l1] at H
   refine c_seq ?_
   refine c_seq (reg_list ?_)
   iterate 2 refine ls hF hW rfl ((y_move hF rfl).q) (fun a w hF hW => ?_)
   refine ls hF hW rfl ((y_lss hF rfl rfl).q) (fun a w hF hW => ?_)
   refine ls_nil (c_then ?_)
   refine c_cond hF rfl (fun hb => ?_) (fun hb => ?_)
   ·
    have H := iteT (of_decide_eq_true hb) H
    rw [hb] at hF
    clear hb
    refine wr_skip ?_
    refine c_then ?_
    refine c_seq ?_
    refine wr_block ?_
    refine c_seq (reg_list ?_)
    refine ls hF hW rfl ((y_move hF rfl).q) (fun a w hF hW => ?_)
    refine ls hF hW rfl ((y_rem hF rfl rfl (by decide) rfl).q) (fun a w hF hW => ?_)
    refine ls hF hW rfl ((y_convI u3_ u5_ hF rfl).q) (fun a w hF hW => ?_)
    refine l_lit (z := Value.int .u8 0) (cs := [.int .u8 (IntKind.u8.wrap (Int.tmod x3 256))]) (Rp.int .u8) ([IntKind.u8.wrap (Int.tmod x3 256)] : List Int) hF hW rfl L66 Z5 rfl rfl rfl rfl rfl rfl (Fl.int.repL _ _ ([IntKind.u8.wrap (Int.tmod x3 256)] : List Int)) (fun v1 a w hF hW => ?_)
    refine ls hF hW rfl ((y_convB (ns := ([IntKind.u8.wrap (Int.tmod x3 256)] : List Int)) u66_ u5_ u9_ hF rfl (rdc_row 0 rfl)).q) (fun a w hF hW => ?_)
    refine ls hF hW rfl ((y_move hF rfl).q) (fun a w hF hW => ?_)
    obtain ⟨x6, h1, H⟩ := bindE H
    refine ls hF hW rfl ((y_sadd (l := strOf ([IntKind.u8.wrap (Int.tmod x3 256)] : List Int)) (m := x4) hF rfl rfl h1).q) (fun a w hF hW => ?_)
    refine ls hF hW rfl ((y_assign hF rfl).q) (fun a w hF hW => ?_)
    refine ls_nil (c_then ?_)
    refine reg_list ?_
    refine ls hF hW rfl ((y_move hF rfl).q) (fun a w hF hW => ?_)
    refine ls hF hW rfl ((y_quo hF rfl rfl (by decide) rfl).q) (fun a w hF hW => ?_)
    refine ls hF hW rfl ((y_assign hF rfl).q) (fun a w hF hW => ?_)
    refine ls_nil ?_
    refine b_normal ?_
    refine c_then ?_
    refine reg_list ?_
    refine ls hF hW rfl ((y_move hF rfl).q) (fun a w hF hW => ?_)
    refine ls hF hW rfl ((y_add hF rfl rfl rfl).q) (fun a w hF hW => ?_)
    refine ls hF hW rfl ((y_assign hF rfl).q) (fun a w hF hW => ?_)
    refine ls_nil (c_then ?_)
    have hW := hW.sub (M' := []) (Z' := []) (List.Sublist.refl _) (List.nil_sublist _)
    exact ⟨_, H, hF.re ⟨rfl, rfl, rfl, rfl, rfl, trivial⟩, hW⟩
   ·
    have H := iteF (of_decide_eq_false hb) H
    rw [hb] at hF
    clear hb
    refine wr_exit ?_
    iterate 2 refine e_then ?_
    refine e_block ?_
    refine c_then ?_
    have H := L2 _ H
    exact ⟨_, _, H, hF.re ⟨rfl, rfl, rfl, trivial⟩, hW⟩
  rintro a w ⟨x1, x2, hj, hF, hW⟩
  have hj := Option.some.inj hj
  subst hj
  have H := K1
  clear G1 K1
  refine c_seq ?_
  refine c_seq (reg_list ?_)
  refine ls hF hW rfl ((y_move hF rfl).q) (fun a w hF hW => ?_)
  refine ls hF hW rfl ((y_neq hF rfl rfl).q) (fun a w hF hW => ?_)
  refine ls_nil (c_then ?_)
  refine c_cond hF rfl (fun hb => ?_) (fun hb => ?_)
  ·
   have H := iteT (of_decide_eq_true hb) H
   rw [hb] at hF
   clear hb
   refine c_seq (reg_list ?_)
   refine ls hF hW rfl ((y_assign (v := Value.string (bs ([] : List UInt8))) hF rfl).q) (fun a w hF hW => ?_)
   refine ls_nil (c_then ?_)
   refine wr_ret ?_
   refine r_then ?_
   have H := Option.some.inj H
   subst H
   refine post1 (.inl rfl) hF hW rfl (rv_tmp hF rfl) ?_
   exact ⟨rfl, hW.done⟩
  ·
   have H := iteF (of_decide_eq_false hb) H
   rw [hb] at hF
   clear hb
   refine wr_skip ?_
   refine c_then ?_
   refine c_seq (reg_list ?_)
   refine ls hF hW rfl ((y_move hF rfl).q) (fun a w hF hW => ?_)
   refine ls hF hW rfl ((y_assign hF rfl).q) (fun a w hF hW => ?_)
   refine ls_nil (c_then ?_)
   refine wr_ret ?_
   have H := Option.some.inj H
   subst H
   refine post1 (.inl rfl) hF hW rfl (rv_tmp hF rfl) ?_
   exact ⟨rfl, hW.done⟩

theorem H42 : Has Tryd.prog 42 := ⟨fun args w => run_callFunc_body Tryd.func42 rfl (by decide) args w⟩
noncomputable def r09_Code_l1 (p0 : List (Int × Int × Int)) : (List UInt8 × Int) → Option ((List UInt8 × Int) ⊕ (List UInt8))
  | (x3, x4) => (if x4 < (p0.length : Int) then (ix p0 x4).bind fun x5 => (r04_Num x5.1 1).bind fun x6 => (app x3 x6).bind fun x7 => (ix p0 x4).bind fun x8 => (r04_Num x8.2.1 1).bind fun x9 => (app x7 x9).bind fun x10 => (ix p0 x4).bind fun x11 => (r04_Num x11.2.2 1).bind fun x12 => (app x10 x12).bind fun x13 => some (.inl (x13, w64 (x4 + 1))) else some (.inr x3))
noncomputable def r09_Code (p0 : List (Int × Int × Int)) : Option (List UInt8) := (r04_Num (p0.length : Int) 1).bind fun x1 => (loopW (r09_Code_l1 p0) (x1, 0)).bind fun x2 => some x2
theorem r09_Code_c (Y : Nat → Prop) (w0 : World) (v1 : Value) (p0 : List (Int × Int × Int)) (r : List UInt8) (H : r09_Code p0 = some r) (h_v1 : Sl w0 (NX []) R27 v1 p0) :
    Calls Tryd.prog 20 #[v1] w0 fun e w' => e = .returned (.string (bs r)) ∧ Below w0.heap.size w0 w' := by
 refine enter Tryd.func20 rfl Tryd.ntmps20 rfl (fun a hF => ?_)
 have hW := Stw.start Y w0
 unfold r09_Code at H
 refine c_seq (reg_list ?_)
 refine ls hF hW rfl ((y_assign (v := Value.string (bs ([] : List UInt8))) hF rfl).q) (fun a w hF hW => ?_)
 refine ls_nil (c_then ?_)
 refine c_seq (reg_list ?_)
 refine ls hF hW rfl ((y_move hF rfl).q) (fun a w hF hW => ?_)
 refine ls hF hW rfl ((y_len (r := R27) (l := p0) u22_ rfl hF rfl (rdc_ro h_v1)).q) (fun a w hF hW => ?_)
 obtain ⟨x1, h1, H⟩ := bindE H
 refine ls hF hW rfl (y_call (v := Value.string (bs x1)) hF H42 rfl (fun w hW => r04_Num_c any w (p0.length : Int) 1 _ h1)) (fun a w hF hW => ?_)
 refine ls hF hW rfl ((y_assign hF rfl).q) (fun a w hF hW => ?_)
 refine ls_nil (c_then ?_)
 obtain ⟨o1, G1, K1⟩ := bindE H
 refine c_seqJ (fun a w => ∃ x2 : List UInt8, some (x2) = some o1 ∧ Fr 37 [] [(2, .string (bs ([] : List UInt8))), (3, .string (bs x2))] a ∧ Stw ⟨Y, [], w0⟩ [] [] w) ?_ ?_
 ·
  have H := G1
  clear G1 K1
  refine c_seq (reg_list ?_)
  refine ls hF hW rfl ((y_assign hF rfl).q) (fun a w hF hW => ?_)
  refine ls_nil (c_then ?_)
  refine wr_block ?_
  refine c_loopW H (fun s a w => Fr 37 [] [(0, v1), (2, .string (bs ([] : List UInt8))), (3, .string (bs s.1)), (4, .int .i64 s.2)] a ∧ Stw ⟨Y, [], w0⟩ [] [] w) ⟨hF.re ⟨rfl, rfl, rfl, rfl, trivial⟩, hW⟩ (fun s o a w H L2 hR => ?_)
  obtain ⟨x3, x4⟩ := s
  obtain ⟨hF, hW⟩ := hR
  have hF : Fr 37 [] [(0, v1), (2, .string (bs ([] : List UInt8))), (3, .string (bs x3)), (4, .int .i64 x4)] a := hF
  have hW : Stw ⟨Y, [], w0⟩ [] [] w := hW
  rw [r09_Code_l1] at H
  refine c_seq ?_
  refine c_seq (reg_list ?_)
  iterate 2 refine ls hF hW rfl ((y_move hF rfl).q) (fun a w hF hW => ?_)
  refine ls hF hW rfl ((y_len (r := R27) (l := p0) u22_ rfl hF rfl (rdc_ro h_v1)).q) (fun a w hF hW => ?_)
  refine ls hF hW rfl ((y_lss hF rfl rfl).q) (fun a w hF hW => ?_)
  refine ls_nil (c_then ?_)
  refine c_cond hF rfl (fun hb => ?_) (fun hb => ?_)
  ·
   have H := iteT (of_decide_eq_true hb) H
   rw [hb] at hF
   clear hb
   refine wr_skip ?_
   refine c_then ?_
   refine c_seq ?_
   refine wr_block ?_
   refine reg_quiet hW MO (by kernel_rfl) ?_
   iterate 3 refine qs hF rfl ((y_move hF rfl).q) (fun a hF => ?_)
   obtain ⟨x5, h2, H⟩ := bindE H
   refine qs hF rfl ((y_index (r := R27) L22 hF rfl rfl (rdc_ro h_v1) h2).q) (fun a hF => ?_)
   refine qs hF rfl ((y_fieldAddr u27_ rfl rfl rfl T3 hF rfl (voff v1 + (x4).toNat * 3) rfl).q) (fun a hF => ?_)
   refine qs hF rfl ((y_load_el (y := Value.int .i64 x5.1) (j := 0) (i := x4) hF rfl rfl (rdc_ro h_v1) h2 F27.to T3 rfl).q) (fun a hF => ?_)
   obtain ⟨x6, h3, H⟩ := bindE H
   refine qs hF rfl (y_call (v := Value.string (bs x6)) hF H42 rfl (fun w hW => r04_Num_c any w x5.1 1 _ h3)) (fun a hF => ?_)
   obtain ⟨x7, h4, H⟩ := bindE H
   refine qs hF rfl ((y_sadd (l := x3) (m := x6) hF rfl rfl h4).q) (fun a hF => ?_)
   iterate 2 refine qs hF rfl ((y_move hF rfl).q) (fun a hF => ?_)
   obtain ⟨x8, h5, H⟩ := bindE H
   refine qs hF rfl ((y_index (r := R27) L22 hF rfl rfl (rdc_ro h_v1) h5).q) (fun a hF => ?_)
   refine qs hF rfl ((y_fieldAddr u27_ rfl rfl rfl T3 hF rfl (voff v1 + (x4).toNat * 3 + 1) rfl).q) (fun a hF => ?_)
   refine qs hF rfl ((y_load_el (y := Value.int .i64 x8.2.1) (j := 1) (i := x4) hF rfl rfl (rdc_ro h_v1) h5 F27.to T3 rfl).q) (fun a hF => ?_)
   obtain ⟨x9, h6, H⟩ := bindE H
   refine qs hF rfl (y_call (v := Value.string (bs x9)) hF H42 rfl (fun w hW => r04_Num_c any w x8.2.1 1 _ h6)) (fun a hF => ?_)
   obtain ⟨x10, h7, H⟩ := bindE H
   refine qs hF rfl ((y_sadd (l := x7) (m := x9) hF rfl rfl h7).q) (fun a hF => ?_)
   iterate 2 refine qs hF rfl ((y_move hF rfl).q) (fun a hF => ?_)
   obtain ⟨x11, h8, H⟩ := bindE H
   refine qs hF rfl ((y_index (r := R27) L22 hF rfl rfl (rdc_ro h_v1) h8).q) (fun a hF => ?_)
   refine qs hF rfl ((y_fieldAddr u27_ rfl rfl rfl T3 hF rfl (voff v1 + (x4).toNat * 3 + 2) rfl).q) (fun a hF => ?_)
   refine qs hF rfl ((y_load_el (y := Value.int .i64 x11.2.2) (j := 2) (i := x4) hF rfl rfl (rdc_ro h_v1) h8 F27.to T3 rfl).q) (fun a hF => ?_)
   obtain ⟨x12, h9, H⟩ := bindE H
   refine qs hF rfl (y_call (v := Value.string (bs x12)) hF H42 rfl (fun w hW => r04_Num_c any w x11.2.2 1 _ h9)) (fun a hF => ?_)
   obtain ⟨x13, h10, H⟩ := bindE H
   refine qs hF rfl ((y_sadd (l := x10) (m := x12) hF rfl rfl h10).q) (fun a hF => ?_)
   refine qs hF rfl ((y_assign hF rfl).q) (fun a hF => ?_)
   refine quiet_end (fun w hW => ?_)
   refine b_normal ?_
   refine c_then ?_
   refine reg_list ?_
   refine ls hF hW rfl ((y_move hF rfl).q) (fun a w hF hW => ?_)
   refine ls hF hW rfl ((y_add hF rfl rfl rfl).q) (fun a w hF hW => ?_)
   refine ls hF hW rfl ((y_assign hF rfl).q) (fun a w hF hW => ?_)
   refine ls_nil (c_then ?_)
   exact ⟨_, H, hF.re ⟨rfl, rfl, rfl, rfl, trivial⟩, hW⟩
  ·
   have H := iteF (of_decide_eq_false hb) H
   rw [hb] at hF
   clear hb
   refine wr_exit ?_
   iterate 2 refine e_then ?_
   refine e_block ?_
   refine c_then ?_
   have H := L2 _ H
   exact ⟨_, H, hF.re ⟨rfl, rfl, trivial⟩, hW⟩
 rintro a w ⟨x2, hj, hF, hW⟩
 have hj := Option.some.inj hj
 subst hj
 have H := K1
 clear G1 K1
 refine c_seq (reg_list ?_)
 refine ls hF hW rfl ((y_move hF rfl).q) (fun a w hF hW => ?_)
 refine ls hF hW rfl ((y_assign hF rfl).q) (fun a w hF hW => ?_)
 refine ls_nil (c_then ?_)
 refine wr_ret ?_
 have H := Option.some.inj H
 subst H
 refine post1 (.inl rfl) hF hW rfl (rv_tmp hF rfl) ?_
 exact ⟨rfl, hW.done⟩

theorem H20 : Has Tryd.prog 20 := ⟨fun args w => run_callFunc_body Tryd.func20 rfl (by decide) args w⟩
theorem T9 : Ty Tryd.prog 9 false 1 := ⟨by kernel_rfl, by kernel_rfl⟩
theorem H45 : Has Tryd.prog 45 := ⟨fun args w => run_callFunc_body Tryd.func45 rfl (by decide) args w⟩
noncomputable def r07_Digits_st (fRec : Int → Option (List UInt8)) (p0 : Int) : Option (List UInt8) := (if p0 < 0 then (if (-10) < p0 then (fRec (w64 (0 - p0))).bind fun x1 => (app ([45] : List UInt8) x1).bind fun x2 => some x2 else (fRec (w64 (0 - (w64 (Int.tdiv p0 10))))).bind fun x3 => (app ([45] : List UInt8) x3).bind fun x4 => (fRec (w64 (0 - (Int.tmod p0 10)))).bind fun x5 => (app x4 x5).bind fun x6 => some x6) else (if p0 < 10 then (subl ([48, 49, 50, 51, 52, 53, 54, 55, 56, 57] : List UInt8) p0 (w64 (p0 + 1))).bind fun x7 => some x7 else (fRec (w64 (Int.tdiv p0 10))).bind fun x8 => (subl ([48, 49, 50, 51, 52, 53, 54, 55, 56, 57] : List UInt8) (Int.tmod p0 10) (w64 ((Int.tmod p0 10) + 1))).bind fun x9 => (app x8 x9).bind fun x10 => some x10))
noncomputable def r07_Digits_n : Nat → Int → Option (List UInt8)
  | 0 => fun _ => none
  | n + 1 => r07_Digits_st (r07_Digits_n n)
noncomputable def r07_Digits (p0 : Int) : Option (List UInt8) := limF fun n => r07_Digits_n n p0
theorem r07_Digits_stc (fRec : Int → Option (List UInt8)) (ih : ∀ (Y : Nat → Prop) (w0 : World)  (p0 : Int) (r : List UInt8) (H : fRec p0 = some r) , Calls Tryd.prog 45 #[.int .i64 p0] w0 fun e w' => e = .returned (.string (bs r)) ∧ Below w0.heap.size w0 w') (Y : Nat → Prop) (w0 : World)  (p0 : Int) (r : List UInt8) (H : r07_Digits_st fRec p0 = some r)  :
    Calls Tryd.prog 45 #[.int .i64 p0] w0 fun e w' => e = .returned (.string (bs r)) ∧ Below w0.heap.size w0 w' := by
 refine enter Tryd.func45 rfl Tryd.ntmps45 rfl (fun a hF => ?_)
 have hW := Stw.start Y w0
 unfold r07_Digits_st at H
 refine c_seq (reg_list ?_)
 refine ls hF hW rfl ((y_assign (v := Value.string (bs ([] : List UInt8))) hF rfl).q) (fun a w hF hW => ?_)
 refine ls_nil (c_then ?_)
 refine c_seq ?_
 refine c_seq (reg_list ?_)
 refine ls hF hW rfl ((y_move hF rfl).q) (fun a w hF hW => ?_)
 refine ls hF hW rfl ((y_lss hF rfl rfl).q) (fun a w hF hW => ?_)
 refine ls_nil (c_then ?_)
 refine c_cond hF rfl (fun hb => ?_) (fun hb => ?_)
 ·
  have H := iteT (of_decide_eq_true hb) H
  rw [hb] at hF
  clear hb
  refine c_seq ?_
  refine c_seq (reg_list ?_)
  refine ls hF hW rfl ((y_move hF rfl).q) (fun a w hF hW => ?_)
  refine ls hF hW rfl ((y_gtr hF rfl rfl).q) (fun a w hF hW => ?_)
  refine ls_nil (c_then ?_)
  refine c_cond hF rfl (fun hb => ?_) (fun hb => ?_)
  ·
   have H := iteT (of_decide_eq_true hb) H
   rw [hb] at hF
   clear hb
   refine c_seq (reg_list ?_)
   refine ls hF hW rfl ((y_move hF rfl).q) (fun a w hF hW => ?_)
   refine ls hF hW rfl ((y_sub hF rfl rfl rfl).q) (fun a w hF hW => ?_)
   obtain ⟨x1, h1, H⟩ := bindE H
   refine ls hF hW rfl (y_call (v := Value.string (bs x1)) hF H45 rfl (fun w hW => ih any w (w64 (0 - p0)) _ h1)) (fun a w hF hW => ?_)
   obtain ⟨x2, h2, H⟩ := bindE H
   refine ls hF hW rfl ((y_sadd (l := ([45] : List UInt8)) (m := x1) hF rfl rfl h2).q) (fun a w hF hW => ?_)
   refine ls hF hW rfl ((y_assign hF rfl).q) (fun a w hF hW => ?_)
   refine ls_nil (c_then ?_)
   refine wr_ret ?_
   iterate 2 refine r_then ?_
   have H := Option.some.inj H
   subst H
   refine post1 (.inl rfl) hF hW rfl (rv_tmp hF rfl) ?_
   exact ⟨rfl, hW.done⟩
  ·
   have H := iteF (of_decide_eq_false hb) H
   rw [hb] at hF
   clear hb
   refine wr_skip ?_
   refine c_then ?_
   refine c_seq (reg_list ?_)
   refine ls hF hW rfl ((y_move hF rfl).q) (fun a w hF hW => ?_)
   refine ls hF hW rfl ((y_quo hF rfl rfl (by decide) rfl).q) (fun a w hF hW => ?_)
   refine ls hF hW rfl ((y_sub hF rfl rfl rfl).q) (fun a w hF hW => ?_)
   obtain ⟨x3, h3, H⟩ := bindE H
   refine ls hF hW rfl (y_call (v := Value.string (bs x3)) hF H45 rfl (fun w hW => ih any w (w64 (0 - (w64 (Int.tdiv p0 10)))) _ h3)) (fun a w hF hW => ?_)
   obtain ⟨x4, h4, H⟩ := bindE H
   refine ls hF hW rfl ((y_sadd (l := ([45] : List UInt8)) (m := x3) hF rfl rfl h4).q) (fun a w hF hW => ?_)
   refine ls hF hW rfl ((y_move hF rfl).q) (fun a w hF hW => ?_)
   refine ls hF hW rfl ((y_rem hF rfl rfl (by decide) rfl).q) (fun a w hF hW => ?_)
   refine ls hF hW rfl ((y_sub hF rfl rfl rfl).q) (fun a w hF hW => ?_)
   obtain ⟨x5, h5, H⟩ := bindE H
   refine ls hF hW rfl (y_call (v := Value.string (bs x5)) hF H45 rfl (fun w hW => ih any w (w64 (0 - (Int.tmod p0 10))) _ h5)) (fun a w hF hW => ?_)
   obtain ⟨x6, h6, H⟩ := bindE H
   refine ls hF hW rfl ((y_sadd (l := x4) (m := x5) hF rfl rfl h6).q) (fun a w hF hW => ?_)
   refine ls hF hW rfl ((y_assign hF rfl).q) (fun a w hF hW => ?_)
   refine ls_nil (c_then ?_)
   refine wr_ret ?_
   refine r_then ?_
   have H := Option.some.inj H
   subst H
   refine post1 (.inl rfl) hF hW rfl (rv_tmp hF rfl) ?_
   exact ⟨rfl, hW.done⟩
 ·
  have H := iteF (of_decide_eq_false hb) H
  rw [hb] at hF
  clear hb
  refine wr_skip ?_
  refine c_then ?_
  refine c_seq ?_
  refine c_seq (reg_list ?_)
  refine ls hF hW rfl ((y_move hF rfl).q) (fun a w hF hW => ?_)
  refine ls hF hW rfl ((y_lss hF rfl rfl).q) (fun a w hF hW => ?_)
  refine ls_nil (c_then ?_)
  refine c_cond hF rfl (fun hb => ?_) (fun hb => ?_)
  ·
   have H := iteT (of_decide_eq_true hb) H
   rw [hb] at hF
   clear hb
   refine c_seq (reg_list ?_)
   iterate 2 refine ls hF hW rfl ((y_move hF rfl).q) (fun a w hF hW => ?_)
   refine ls hF hW rfl ((y_add hF rfl rfl rfl).q) (fun a w hF hW => ?_)
   obtain ⟨x7, h7, H⟩ := bindE H
   refine ls hF hW rfl ((y_sslice (l := ([48, 49, 50, 51, 52, 53, 54, 55, 56, 57] : List UInt8)) u9_ hF rfl rfl rfl h7).q) (fun a w hF hW => ?_)
   refine ls hF hW rfl ((y_assign hF rfl).q) (fun a w hF hW => ?_)
   refine ls_nil (c_then ?_)
   refine wr_ret ?_
   refine r_then ?_
   have H := Option.some.inj H
   subst H
   refine post1 (.inl rfl) hF hW rfl (rv_tmp hF rfl) ?_
   exact ⟨rfl, hW.done⟩
  ·
   have H := iteF (of_decide_eq_false hb) H
   rw [hb] at hF
   clear hb
   refine wr_skip ?_
   refine c_then ?_
   refine c_seq ?_
   refine reg_quiet hW MO (by kernel_rfl) ?_
   refine qs hF rfl ((y_move hF rfl).q) (fun a hF => ?_)
   refine qs hF rfl ((y_quo hF rfl rfl (by decide) rfl).q) (fun a hF => ?_)
   obtain ⟨x8, h8, H⟩ := bindE H
   refine qs hF rfl (y_call (v := Value.string (bs x8)) hF H45 rfl (fun w hW => ih any w (w64 (Int.tdiv p0 10)) _ h8)) (fun a hF => ?_)
   refine qs hF rfl ((y_move hF rfl).q) (fun a hF => ?_)
   refine qs hF rfl ((y_rem hF rfl rfl (by decide) rfl).q) (fun a hF => ?_)
   refine qs hF rfl ((y_move hF rfl).q) (fun a hF => ?_)
   refine qs hF rfl ((y_rem hF rfl rfl (by decide) rfl).q) (fun a hF => ?_)
   refine qs hF rfl ((y_add hF rfl rfl rfl).q) (fun a hF => ?_)
   obtain ⟨x9, h9, H⟩ := bindE H
   refine qs hF rfl ((y_sslice (l := ([48, 49, 50, 51, 52, 53, 54, 55, 56, 57] : List UInt8)) u9_ hF rfl rfl rfl h9).q) (fun a hF => ?_)
   obtain ⟨x10, h10, H⟩ := bindE H
   refine qs hF rfl ((y_sadd (l := x8) (m := x9) hF rfl rfl h10).q) (fun a hF => ?_)
   refine qs hF rfl ((y_assign hF rfl).q) (fun a hF => ?_)
   refine quiet_end (fun w hW => ?_)
   refine c_then ?_
   refine wr_ret ?_
   have H := Option.some.inj H
   subst H
   refine post1 (.inl rfl) hF hW rfl (rv_tmp hF rfl) ?_
   exact ⟨rfl, hW.done⟩
theorem r07_Digits_nc : ∀ (n : Nat) (Y : Nat → Prop) (w0 : World)  (p0 : Int) (r : List UInt8) (H : r07_Digits_n n p0 = some r) , Calls Tryd.prog 45 #[.int .i64 p0] w0 fun e w' => e = .returned (.string (bs r)) ∧ Below w0.heap.size w0 w' := by
  intro n
  induction n with
  | zero => intro Y w0  p0 r H; exact nomatch H
  | succ n ih => intro Y w0  p0 r H ; exact r07_Digits_stc (r07_Digits_n n) ih Y w0  p0 r H 
theorem r07_Digits_c (Y : Nat → Prop) (w0 : World)  (p0 : Int) (r : List UInt8) (H : r07_Digits p0 = some r)  :
    Calls Tryd.prog 45 #[.int .i64 p0] w0 fun e w' => e = .returned (.string (bs r)) ∧ Below w0.heap.size w0 w' := by
  obtain ⟨n, H⟩ := limF_some H
  exact r07_Digits_nc n Y w0  p0 r H 

noncomputable def r09_Text_l1 (p0 : List (Int × Int × Int)) : (List UInt8 × Int) → Option ((List UInt8 × Int) ⊕ (List UInt8))
  | (x2, x3) => (if x3 < (p0.length : Int) then ((ix p0 x3).bind fun x5 => (if x5.1 = 1 then (app x2 ([44, 32, 115, 101, 116, 32] : List UInt8)).bind fun x6 => (ix p0 x3).bind fun x7 => (ix ([([115, 114, 99, 32] : List UInt8), ([100, 115, 116, 32] : List UInt8), ([107, 105, 110, 100, 32] : List UInt8), ([116, 97, 103, 32] : List UInt8)] : List (List UInt8)) x7.2.1).bind fun x8 => (app x6 x8).bind fun x9 => (ix p0 x3).bind fun x10 => (r07_Digits x10.2.2).bind fun x11 => (app x9 x11).bind fun x12 => some x12 else (ix p0 x3).bind fun x13 => (if x13.1 = 3 then (app x2 ([44, 32, 98, 97, 99, 107] : List UInt8)).bind fun x14 => some x14 else (app x2 ([44, 32, 111, 117, 116, 32] : List UInt8)).bind fun x15 => (ix p0 x3).bind fun x16 => (r07_Digits x16.2.2).bind fun x17 => (app x15 x17).bind fun x18 => some x18))).bind fun x4 => some (.inl (x4, w64 (x3 + 1))) else some (.inr x2))
noncomputable def r09_Text (p0 : List (Int × Int × Int)) : Option (List UInt8) := (loopW (r09_Text_l1 p0) (([] : List UInt8), 0)).bind fun x1 => (if x1 = ([] : List UInt8) then some ([100, 114, 111, 112] : List UInt8) else (subl x1 2 (x1.length : Int)).bind fun x19 => some x19)
theorem r09_Text_c (Y : Nat → Prop) (w0 : World) (v1 : Value) (p0 : List (Int × Int × Int)) (r : List UInt8) (H : r09_Text p0 = some r) (h_v1 : Sl w0 (NX []) R27 v1 p0) :
    Calls Tryd.prog 22 #[v1] w0 fun e w' => e = .returned (.string (bs r)) ∧ Below w0.heap.size w0 w' := by
 refine enter Tryd.func22 rfl Tryd.ntmps22 rfl (fun a hF => ?_)
 have hW := Stw.start Y w0
 unfold r09_Text at H
 refine c_seq (reg_list ?_)
 refine ls hF hW rfl ((y_assign (v := Value.string (bs ([] : List UInt8))) hF rfl).q) (fun a w hF hW => ?_)
 refine ls_nil (c_then ?_)
 refine c_seq (reg_list ?_)
 refine l_lit (z := Value.string (bs ([] : List UInt8))) (cs := [.string (bs ([115, 114, 99, 32] : List UInt8)), .string (bs ([100, 115, 116, 32] : List UInt8)), .string (bs ([107, 105, 110, 100, 32] : List UInt8)), .string (bs ([116, 97, 103, 32] : List UInt8))]) Rp.str ([([115, 114, 99, 32] : List UInt8), ([100, 115, 116, 32] : List UInt8), ([107, 105, 110, 100, 32] : List UInt8), ([116, 97, 103, 32] : List UInt8)] : List (List UInt8)) hF hW rfl L75 Z9 rfl rfl rfl rfl rfl rfl (Fl.str.repL _ _ ([([115, 114, 99, 32] : List UInt8), ([100, 115, 116, 32] : List UInt8), ([107, 105, 110, 100, 32] : List UInt8), ([116, 97, 103, 32] : List UInt8)] : List (List UInt8))) (fun v2 a w hF hW => ?_)
 refine ls hF hW rfl ((y_assign hF rfl).q) (fun a w hF hW => ?_)
 refine ls_nil (c_then ?_)
 refine c_seq (reg_list ?_)
 refine ls hF hW rfl ((y_assign (v := Value.string (bs ([] : List UInt8))) hF rfl).q) (fun a w hF hW => ?_)
 refine ls_nil (c_then ?_)
 obtain ⟨o1, G1, K1⟩ := bindE H
 refine c_seqJ (fun a w => ∃ x1 : List UInt8, some (x1) = some o1 ∧ Fr 58 [] [(2, .string (bs ([] : List UInt8))), (4, .string (bs x1))] a ∧ Stw ⟨Y, [], w0⟩ [] [] w) ?_ ?_
 ·
  have H := G1
  clear G1 K1
  refine c_seq (reg_list ?_)
  refine ls hF hW rfl ((y_assign hF rfl).q) (fun a w hF hW => ?_)
  refine ls_nil (c_then ?_)
  refine wr_block ?_
  refine c_loopW H (fun s a w => Fr 58 [] [(0, v1), (2, .string (bs ([] : List UInt8))), (3, v2), (4, .string (bs s.1)), (5, .int .i64 s.2)] a ∧ Stw ⟨Y, [], w0⟩ [] [row v2 9 Rp.str ([([115, 114, 99, 32] : List UInt8), ([100, 115, 116, 32] : List UInt8), ([107, 105, 110, 100, 32] : List UInt8), ([116, 97, 103, 32] : List UInt8)] : List (List UInt8))] w) ⟨hF.re ⟨rfl, rfl, rfl, rfl, rfl, trivial⟩, hW⟩ (fun s o a w H L2 hR => ?_)
  obtain ⟨x2, x3⟩ := s
  obtain ⟨hF, hW⟩ := hR
  have hF : Fr 58 [] [(0, v1), (2, .string (bs ([] : List UInt8))), (3, v2), (4, .string (bs x2)), (5, .int .i64 x3)] a := hF
  have hW : Stw ⟨Y, [], w0⟩ [] [row v2 9 Rp.str ([([115, 114, 99, 32] : List UInt8), ([100, 115, 116, 32] : List UInt8), ([107, 105, 110, 100, 32] : List UInt8), ([116, 97, 103, 32] : List UInt8)] : List (List UInt8))] w := hW
  rw [r09_Text_l1] at H
  refine c_seq ?_
  refine c_seq (reg_list ?_)
  iterate 2 refine ls hF hW rfl ((y_move hF rfl).q) (fun a w hF hW => ?_)
  refine ls hF hW rfl ((y_len (r := R27) (l := p0) u22_ rfl hF rfl (rdc_ro h_v1)).q) (fun a w hF hW => ?_)
  refine ls hF hW rfl ((y_lss hF rfl rfl).q) (fun a w hF hW => ?_)
  refine ls_nil (c_then ?_)
  refine c_cond hF rfl (fun hb => ?_) (fun hb => ?_)
  ·
   have H := iteT (of_decide_eq_true hb) H
   rw [hb] at hF
   clear hb
   refine wr_skip ?_
   refine c_then ?_
   obtain ⟨o3, G3, K3⟩ := bindE H
   refine c_seqJ (fun a w => ∃ x4 : List UInt8, some (x4) = some o3 ∧ Fr 58 [] [(0, v1), (2, .string (bs ([] : List UInt8))), (3, v2), (4, .string (bs x4)), (5, .int .i64 x3)] a ∧ Stw ⟨Y, [], w0⟩ [] [row v2 9 Rp.str ([([115, 114, 99, 32] : List UInt8), ([100, 115, 116, 32] : List UInt8), ([107, 105, 110, 100, 32] : List UInt8), ([116, 97, 103, 32] : List UInt8)] : List (List UInt8))] w) ?_ ?_
   ·
    have H := G3
    clear G3 K3
    refine wr_block ?_
    refine c_seq (reg_list ?_)
    iterate 2 refine ls hF hW rfl ((y_move hF rfl).q) (fun a w hF hW => ?_)
    obtain ⟨x5, h1, H⟩ := bindE H
    refine ls hF hW rfl ((y_index (r := R27) L22 hF rfl rfl (rdc_ro h_v1) h1).q) (fun a w hF hW => ?_)
    refine ls hF hW rfl ((y_fieldAddr u27_ rfl rfl rfl T3 hF rfl (voff v1 + (x3).toNat * 3) rfl).q) (fun a w hF hW => ?_)
    refine ls hF hW rfl ((y_load_el (y := Value.int .i64 x5.1) (j := 0) (i := x3) hF rfl rfl (rdc_ro h_v1) h1 F27.to T3 rfl).q) (fun a w hF hW => ?_)
    refine ls hF hW rfl ((y_eql hF rfl rfl).q) (fun a w hF hW => ?_)
    refine ls_nil (c_then ?_)
    refine c_cond hF rfl (fun hb => ?_) (fun hb => ?_)
    ·
     have H := iteT (of_decide_eq_true hb) H
     rw [hb] at hF
     clear hb
     refine reg_quiet hW MO (by kernel_rfl) ?_
     refine qs hF rfl ((y_move hF rfl).q) (fun a hF => ?_)
     obtain ⟨x6, h2, H⟩ := bindE H
     refine qs hF rfl ((y_sadd (l := x2) (m := ([44, 32, 115, 101, 116, 32] : List UInt8)) hF rfl rfl h2).q) (fun a hF => ?_)
     iterate 3 refine qs hF rfl ((y_move hF rfl).q) (fun a hF => ?_)
     obtain ⟨x7, h3, H⟩ := bindE H
     refine qs hF rfl ((y_index (r := R27) L22 hF rfl rfl (rdc_ro h_v1) h3).q) (fun a hF => ?_)
     refine qs hF rfl ((y_fieldAddr u27_ rfl rfl rfl T3 hF rfl (voff v1 + (x3).toNat * 3 + 1) rfl).q) (fun a hF => ?_)
     refine qs hF rfl ((y_load_el (y := Value.int .i64 x7.2.1) (j := 1) (i := x3) hF rfl rfl (rdc_ro h_v1) h3 F27.to T3 rfl).q) (fun a hF => ?_)
     obtain ⟨x8, h4, H⟩ := bindE H
     refine qs hF rfl ((y_index (r := Rp.str) L75 hF rfl rfl (rdc_row 0 rfl) h4).q) (fun a hF => ?_)
     refine qs hF rfl ((y_load_el (y := Value.string (bs x8)) (j := 0) (i := x7.2.1) hF rfl rfl (rdc_row 0 rfl) h4 Fl.str.to T9 rfl).q) (fun a hF => ?_)
     obtain ⟨x9, h5, H⟩ := bindE H
     refine qs hF rfl ((y_sadd (l := x6) (m := x8) hF rfl rfl h5).q) (fun a hF => ?_)
     iterate 2 refine qs hF rfl ((y_move hF rfl).q) (fun a hF => ?_)
     obtain ⟨x10, h6, H⟩ := bindE H
     refine qs hF rfl ((y_index (r := R27) L22 hF rfl rfl (rdc_ro h_v1) h6).q) (fun a hF => ?_)
     refine qs hF rfl ((y_fieldAddr u27_ rfl rfl rfl T3 hF rfl (voff v1 + (x3).toNat * 3 + 2) rfl).q) (fun a hF => ?_)
     refine qs hF rfl ((y_load_el (y := Value.int .i64 x10.2.2) (j := 2) (i := x3) hF rfl rfl (rdc_ro h_v1) h6 F27.to T3 rfl).q) (fun a hF => ?_)
     obtain ⟨x11, h7, H⟩ := bindE H
     refine qs hF rfl (y_call (v := Value.string (bs x11)) hF H45 rfl (fun w hW => r07_Digits_c any w x10.2.2 _ h7)) (fun a hF => ?_)
     obtain ⟨x12, h8, H⟩ := bindE H
     refine qs hF rfl ((y_sadd (l := x9) (m := x11) hF rfl rfl h8).q) (fun a hF => ?_)
     refine qs hF rfl ((y_assign hF rfl).q) (fun a hF => ?_)
     refine quiet_end (fun w hW => ?_)
     refine b_normal ?_
     refine c_then ?_
     exact ⟨_, H, hF.re ⟨rfl, rfl, rfl, rfl, rfl, trivial⟩, hW⟩
    ·
     have H := iteF (of_decide_eq_false hb) H
     rw [hb] at hF
     clear hb
     refine c_seq (reg_list ?_)
     iterate 2 refine ls hF hW rfl ((y_move hF rfl).q) (fun a w hF hW => ?_)
     obtain ⟨x13, h9, H⟩ := bindE H
     refine ls hF hW rfl ((y_index (r := R27) L22 hF rfl rfl (rdc_ro h_v1) h9).q) (fun a w hF hW => ?_)
     refine ls hF hW rfl ((y_fieldAddr u27_ rfl rfl rfl T3 hF rfl (voff v1 + (x3).toNat * 3) rfl).q) (fun a w hF hW => ?_)
     refine ls hF hW rfl ((y_load_el (y := Value.int .i64 x13.1) (j := 0) (i := x3) hF rfl rfl (rdc_ro h_v1) h9 F27.to T3 rfl).q) (fun a w hF hW => ?_)
     refine ls hF hW rfl ((y_eql hF rfl rfl).q) (fun a w hF hW => ?_)
     refine ls_nil (c_then ?_)
     refine c_cond hF rfl (fun hb => ?_) (fun hb => ?_)
     ·
      have H := iteT (of_decide_eq_true hb) H
      rw [hb] at hF
      clear hb
      refine reg_list ?_
      refine ls hF hW rfl ((y_move hF rfl).q) (fun a w hF hW => ?_)
      obtain ⟨x14, h10, H⟩ := bindE H
      refine ls hF hW rfl ((y_sadd (l := x2) (m := ([44, 32, 98, 97, 99, 107] : List UInt8)) hF rfl rfl h10).q) (fun a w hF hW => ?_)
      refine ls hF hW rfl ((y_assign hF rfl).q) (fun a w hF hW => ?_)
      refine ls_nil ?_
      refine b_normal ?_
      refine c_then ?_
      exact ⟨_, H, hF.re ⟨rfl, rfl, rfl, rfl, rfl, trivial⟩, hW⟩
     ·
      have H := iteF (of_decide_eq_false hb) H
      rw [hb] at hF
      clear hb
      refine reg_list ?_
      refine ls hF hW rfl ((y_move hF rfl).q) (fun a w hF hW => ?_)
      obtain ⟨x15, h11, H⟩ := bindE H
      refine ls hF hW rfl ((y_sadd (l := x2) (m := ([44, 32, 111, 117, 116, 32] : List UInt8)) hF rfl rfl h11).q) (fun a w hF hW => ?_)
      iterate 2 refine ls hF hW rfl ((y_move hF rfl).q) (fun a w hF hW => ?_)
      obtain ⟨x16, h12, H⟩ := bindE H
      refine ls hF hW rfl ((y_index (r := R27) L22 hF rfl rfl (rdc_ro h_v1) h12).q) (fun a w hF hW => ?_)
      refine ls hF hW rfl ((y_fieldAddr u27_ rfl rfl rfl T3 hF rfl (voff v1 + (x3).toNat * 3 + 2) rfl).q) (fun a w hF hW => ?_)
      refine ls hF hW rfl ((y_load_el (y := Value.int .i64 x16.2.2) (j := 2) (i := x3) hF rfl rfl (rdc_ro h_v1) h12 F27.to T3 rfl).q) (fun a w hF hW => ?_)
      obtain ⟨x17, h13, H⟩ := bindE H
      refine ls hF hW rfl (y_call (v := Value.string (bs x17)) hF H45 rfl (fun w hW => r07_Digits_c any w x16.2.2 _ h13)) (fun a w hF hW => ?_)
      obtain ⟨x18, h14, H⟩ := bindE H
      refine ls hF hW rfl ((y_sadd (l := x15) (m := x17) hF rfl rfl h14).q) (fun a w hF hW => ?_)
      refine ls hF hW rfl ((y_assign hF rfl).q) (fun a w hF hW => ?_)
      refine ls_nil ?_
      refine b_normal ?_
      refine c_then ?_
      exact ⟨_, H, hF.re ⟨rfl, rfl, rfl, rfl, rfl, trivial⟩, hW⟩
   rintro a w ⟨x4, hj, hF, hW⟩
   have hj := Option.some.inj hj
   subst hj
   have H := K3
   clear G3 K3
   refine reg_list ?_
   refine ls hF hW rfl ((y_move hF rfl).q) (fun a w hF hW => ?_)
   refine ls hF hW rfl ((y_add hF rfl rfl rfl).q) (fun a w hF hW => ?_)
   refine ls hF hW rfl ((y_assign hF rfl).q) (fun a w hF hW => ?_)
   refine ls_nil (c_then ?_)
   exact ⟨_, H, hF.re ⟨rfl, rfl, rfl, rfl, rfl, trivial⟩, hW⟩
  ·
   have H := iteF (of_decide_eq_false hb) H
   rw [hb] at hF
   clear hb
   refine wr_exit ?_
   iterate 2 refine e_then ?_
   refine e_block ?_
   refine c_then ?_
   have hW := hW.sub (M' := []) (Z' := []) (List.Sublist.refl _) (List.nil_sublist _)
   have H := L2 _ H
   exact ⟨_, H, hF.re ⟨rfl, rfl, trivial⟩, hW⟩
 rintro a w ⟨x1, hj, hF, hW⟩
 have hj := Option.some.inj hj
 subst hj
 have H := K1
 clear G1 K1
 refine c_seq ?_
 refine c_seq (reg_list ?_)
 refine ls hF hW rfl ((y_move hF rfl).q) (fun a w hF hW => ?_)
 refine ls hF hW rfl ((y_seq (l := x1) (m := ([] : List UInt8)) hF rfl rfl).q) (fun a w hF hW => ?_)
 refine ls_nil (c_then ?_)
 refine c_cond hF rfl (fun hb => ?_) (fun hb => ?_)
 ·
  have H := iteT (of_decide_eq_true hb) H
  rw [hb] at hF
  clear hb
  refine c_seq (reg_list ?_)
  refine ls hF hW rfl ((y_assign (v := Value.string (bs ([100, 114, 111, 112] : List UInt8))) hF rfl).q) (fun a w hF hW => ?_)
  refine ls_nil (c_then ?_)
  refine wr_ret ?_
  refine r_then ?_
  have H := Option.some.inj H
  subst H
  refine post1 (.inl rfl) hF hW rfl (rv_tmp hF rfl) ?_
  exact ⟨rfl, hW.done⟩
 ·
  have H := iteF (of_decide_eq_false hb) H
  rw [hb] at hF
  clear hb
  refine wr_skip ?_
  refine c_then ?_
  refine c_seq (reg_list ?_)
  refine ls hF hW rfl ((y_move hF rfl).q) (fun a w hF hW => ?_)
  obtain ⟨x19, h15, H⟩ := bindE H
  refine ls hF hW rfl ((y_sslice (l := x1) u9_ hF rfl rfl rfl h15).q) (fun a w hF hW => ?_)
  refine ls hF hW rfl ((y_assign hF rfl).q) (fun a w hF hW => ?_)
  refine ls_nil (c_then ?_)
  refine wr_ret ?_
  have H := Option.some.inj H
  subst H
  refine post1 (.inl rfl) hF hW rfl (rv_tmp hF rfl) ?_
  exact ⟨rfl, hW.done⟩

theorem u4_ : type_of% Tryd.underlying4 := Tryd.underlying4
theorem H22 : Has Tryd.prog 22 := ⟨fun args w => run_callFunc_body Tryd.func22 rfl (by decide) args w⟩
noncomputable def L09_ActTells_l1 (p0 : List (Int × Int × Int)) (p3 : Int) : (Bool × Int) → Option ((Bool × Int) ⊕ Bool)
  | (x3, x4) => (if x4 < (p0.length : Int) then (if x3 = true then some (.inl (true, w64 (x4 + 1))) else (ix p0 x4).bind fun x5 => (if x5.1 = 1 then (ix p0 x4).bind fun x6 => some (.inl (decide (x6.2.1 = p3), w64 (x4 + 1))) else some (.inl (false, w64 (x4 + 1))))) else some (.inr x3))
noncomputable def L09_ActTells (p0 : List (Int × Int × Int)) (p1 : Int) (p2 : Int × Int × Int × Int) (p3 : Int) : Option Bool := (if 20 < (p0.length : Int) then (L09_awake).bind fun x1 => some x1 else (loopW (L09_ActTells_l1 p0 p3) (false, 0)).bind fun x2 => ((act_Right p0 p1).bind fun x8 => (r09_Right p0 p1).bind fun x9 => (if x8 ≠ x9 then some true else (act_Run p0 p2).bind fun x10 => (r09_Run p0 p2).bind fun x11 => (r09_Sent x10 x11).bind fun x12 => (if (!x12) = true then some true else (act_Outs p0).bind fun x13 => (L09_ints x13 p0).bind fun x14 => (if (!x14) = true then some true else (act_Writes p0 p3).bind fun x15 => some (decide (x15 ≠ x2)))))).bind fun x7 => (if x7 = true then some false else ((r09_Right p0 p1).bind fun x17 => (if (!x17) = true then some true else some (decide (256 < p1)))).bind fun x16 => (if x16 = true then (L09_awake).bind fun x18 => some x18 else ((act_Fold p0).bind fun x20 => (r09_Fold p0).bind fun x21 => (r09_Same x20 x21).bind fun x22 => (if x22 = true then (act_Code p0).bind fun x23 => (r09_Code p0).bind fun x24 => (if x23 = x24 then (act_Text p0).bind fun x25 => (r09_Text p0).bind fun x26 => (if x25 = x26 then (L09_awake).bind fun x27 => some x27 else some false) else some false) else some false)).bind fun x19 => some x19)))
theorem L09_ActTells_c (Y : Nat → Prop) (w0 : World) (v1 : Value) (p0 : List (Int × Int × Int)) (p1 : Int) (p2 : Int × Int × Int × Int) (p3 : Int) (r : Bool) (H : L09_ActTells p0 p1 p2 p3 = some r) (h_v1 : Sl w0 (NX []) R27 v1 p0) (hG : Gk [] w0) :
    Calls Tryd.prog 3 #[v1, .int .i64 p1, .agg #[.int .i64 p2.1, .int .i64 p2.2.1, .int .i64 p2.2.2.1, .int .i64 p2.2.2.2], .int .i64 p3] w0 fun e w' => e = .returned (.bool r) ∧ Below w0.heap.size w0 w' := by
 refine enter Tryd.func3 rfl Tryd.ntmps3 rfl (fun a hF => ?_)
 have hW := Stw.start Y w0
 unfold L09_ActTells at H
 refine c_seq (reg_list ?_)
 refine l_box (cs := [.int .i64 p2.1, .int .i64 p2.2.1, .int .i64 p2.2.2.1, .int .i64 p2.2.2.2]) hF hW rfl rfl rfl (fun b1 a w hF hW => ?_)
 refine ls hF hW rfl ((y_assign hF rfl).q) (fun a w hF hW => ?_)
 refine ls_nil (c_then ?_)
 refine c_seq ?_
 refine c_seq (reg_list ?_)
 refine ls hF hW rfl ((y_move hF rfl).q) (fun a w hF hW => ?_)
 refine ls hF hW rfl ((y_len (r := R27) (l := p0) u22_ rfl hF rfl (rdc_ro h_v1)).q) (fun a w hF hW => ?_)
 refine ls hF hW rfl ((y_gtr hF rfl rfl).q) (fun a w hF hW => ?_)
 refine ls_nil (c_then ?_)
 refine c_cond hF rfl (fun hb => ?_) (fun hb => ?_)
 ·
  have H := iteT (of_decide_eq_true hb) H
  rw [hb] at hF
  clear hb
  refine c_seq (reg_list ?_)
  obtain ⟨x1, h1, H⟩ := bindE H
  refine ls hF hW rfl (y_call (v := Value.bool x1) hF H7 rfl (fun w hW => L09_awake_c any w _ h1 (hG.go0 hW))) (fun a w hF hW => ?_)
  refine ls hF hW rfl ((y_assign hF rfl).q) (fun a w hF hW => ?_)
  refine ls_nil (c_then ?_)
  refine wr_ret ?_
  refine r_then ?_
  have H := Option.some.inj H
  subst H
  refine post1 (.inl rfl) hF hW rfl (rv_tmp hF rfl) ?_
  exact ⟨rfl, hW.done⟩
 ·
  have H := iteF (of_decide_eq_false hb) H
  rw [hb] at hF
  clear hb
  refine wr_skip ?_
  refine c_then ?_
  refine c_seq (reg_list ?_)
  refine ls hF hW rfl ((y_assign hF rfl).q) (fun a w hF hW => ?_)
  refine ls_nil (c_then ?_)
  obtain ⟨o1, G1, K1⟩ := bindE H
  refine c_seqJ (fun a w => ∃ x2 : Bool, some (x2) = some o1 ∧ Fr 101 [] [(0, v1), (1, .int .i64 p1), (3, .int .i64 p3), (6, .pointer (some ⟨b1, 0, none⟩)), (8, .bool false), (9, .bool x2)] a ∧ Stw ⟨Y, [], w0⟩ [(b1, [.int .i64 p2.1, .int .i64 p2.2.1, .int .i64 p2.2.2.1, .int .i64 p2.2.2.2])] [] w) ?_ ?_
  ·
   have H := G1
   clear G1 K1
   refine c_seq (reg_list ?_)
   refine ls hF hW rfl ((y_assign hF rfl).q) (fun a w hF hW => ?_)
   refine ls_nil (c_then ?_)
   refine wr_block ?_
   refine c_loopW H (fun s a w => Fr 101 [] [(0, v1), (1, .int .i64 p1), (3, .int .i64 p3), (6, .pointer (some ⟨b1, 0, none⟩)), (8, .bool false), (9, .bool s.1), (10, .int .i64 s.2)] a ∧ Stw ⟨Y, [], w0⟩ [(b1, [.int .i64 p2.1, .int .i64 p2.2.1, .int .i64 p2.2.2.1, .int .i64 p2.2.2.2])] [] w) ⟨hF.re ⟨rfl, rfl, rfl, rfl, rfl, rfl, rfl, trivial⟩, hW⟩ (fun s o a w H L2 hR => ?_)
   obtain ⟨x3, x4⟩ := s
   obtain ⟨hF, hW⟩ := hR
   have hF : Fr 101 [] [(0, v1), (1, .int .i64 p1), (3, .int .i64 p3), (6, .pointer (some ⟨b1, 0, none⟩)), (8, .bool false), (9, .bool x3), (10, .int .i64 x4)] a := hF
   have hW : Stw ⟨Y, [], w0⟩ [(b1, [.int .i64 p2.1, .int .i64 p2.2.1, .int .i64 p2.2.2.1, .int .i64 p2.2.2.2])] [] w := hW
   rw [L09_ActTells_l1] at H
   refine c_seq ?_
   refine c_seq (reg_list ?_)
   iterate 2 refine ls hF hW rfl ((y_move hF rfl).q) (fun a w hF hW => ?_)
   refine ls hF hW rfl ((y_len (r := R27) (l := p0) u22_ rfl hF rfl (rdc_ro h_v1)).q) (fun a w hF hW => ?_)
   refine ls hF hW rfl ((y_lss hF rfl rfl).q) (fun a w hF hW => ?_)
   refine ls_nil (c_then ?_)
   refine c_cond hF rfl (fun hb => ?_) (fun hb => ?_)
   ·
    have H := iteT (of_decide_eq_true hb) H
    rw [hb] at hF
    clear hb
    refine wr_skip ?_
    refine c_then ?_
    refine c_seq ?_
    refine wr_block ?_
    refine reg_list ?_
    iterate 2 refine ls hF hW rfl ((y_move hF rfl).q) (fun a w hF hW => ?_)
    rcases Bool.eq_false_or_eq_true x3 with hb | hb
    ·
     have H := iteT hb H
     rw [hb] at hF
     clear hb
     iterate 7 refine lsn hF rfl rfl rfl rfl rfl rfl rfl (fun a hF => ?_)
     iterate 7 refine lsu hF rfl rfl rfl rfl rfl rfl (fun a hF => ?_)
     refine lsn hF rfl rfl rfl rfl rfl rfl rfl (fun a hF => ?_)
     refine ls hF hW rfl ((y_pick_t hF rfl rfl rfl).q) (fun a w hF hW => ?_)
     refine ls hF hW rfl ((y_assign hF rfl).q) (fun a w hF hW => ?_)
     refine ls_nil ?_
     refine b_normal ?_
     refine c_then ?_
     refine reg_list ?_
     refine ls hF hW rfl ((y_move hF rfl).q) (fun a w hF hW => ?_)
     refine ls hF hW rfl ((y_add hF rfl rfl rfl).q) (fun a w hF hW => ?_)
     refine ls hF hW rfl ((y_assign hF rfl).q) (fun a w hF hW => ?_)
     refine ls_nil (c_then ?_)
     exact ⟨_, H, hF.re ⟨rfl, rfl, rfl, rfl, rfl, rfl, rfl, trivial⟩, hW⟩
    ·
     have H := iteF (by rw [hb]; decide) H
     rw [hb] at hF
     clear hb
     iterate 2 refine ls_w hF hW (wanted_y hF rfl rfl rfl rfl) rfl (Nat.le_of_ble_eq_true rfl) ((y_move hF rfl).q) (fun a w hF hW => ?_)
     obtain ⟨x5, h2, H⟩ := bindE H
     refine ls_w hF hW (wanted_y hF rfl rfl rfl rfl) rfl (Nat.le_of_ble_eq_true rfl) ((y_index (r := R27) L22 hF rfl rfl (rdc_ro h_v1) h2).q) (fun a w hF hW => ?_)
     refine ls_w hF hW (wanted_y hF rfl rfl rfl rfl) rfl (Nat.le_of_ble_eq_true rfl) ((y_fieldAddr u27_ rfl rfl rfl T3 hF rfl (voff v1 + (x4).toNat * 3) rfl).q) (fun a w hF hW => ?_)
     refine ls_w hF hW (wanted_y hF rfl rfl rfl rfl) rfl (Nat.le_of_ble_eq_true rfl) ((y_load_el (y := Value.int .i64 x5.1) (j := 0) (i := x4) hF rfl rfl (rdc_ro h_v1) h2 F27.to T3 rfl).q) (fun a w hF hW => ?_)
     refine ls_w hF hW (wanted_y hF rfl rfl rfl rfl) rfl (Nat.le_of_ble_eq_true rfl) ((y_eql hF rfl rfl).q) (fun a w hF hW => ?_)
     refine ls_w hF hW (wanted_y hF rfl rfl rfl rfl) rfl (Nat.le_of_ble_eq_true rfl) ((y_move hF rfl).q) (fun a w hF hW => ?_)
     rcases Bool.eq_false_or_eq_true (decide (x5.1 = 1)) with hb | hb
     ·
      have H := iteT (of_decide_eq_true hb) H
      rw [hb] at hF
      clear hb
      iterate 2 refine ls_w hF hW (wanted_y hF rfl rfl rfl rfl) rfl (Nat.le_of_ble_eq_true rfl) ((y_move hF rfl).q) (fun a w hF hW => ?_)
      obtain ⟨x6, h3, H⟩ := bindE H
      refine ls_w hF hW (wanted_y hF rfl rfl rfl rfl) rfl (Nat.le_of_ble_eq_true rfl) ((y_index (r := R27) L22 hF rfl rfl (rdc_ro h_v1) h3).q) (fun a w hF hW => ?_)
      refine ls_w hF hW (wanted_y hF rfl rfl rfl rfl) rfl (Nat.le_of_ble_eq_true rfl) ((y_fieldAddr u27_ rfl rfl rfl T3 hF rfl (voff v1 + (x4).toNat * 3 + 1) rfl).q) (fun a w hF hW => ?_)
      refine ls_w hF hW (wanted_y hF rfl rfl rfl rfl) rfl (Nat.le_of_ble_eq_true rfl) ((y_load_el (y := Value.int .i64 x6.2.1) (j := 1) (i := x4) hF rfl rfl (rdc_ro h_v1) h3 F27.to T3 rfl).q) (fun a w hF hW => ?_)
      refine ls_w hF hW (wanted_y hF rfl rfl rfl rfl) rfl (Nat.le_of_ble_eq_true rfl) ((y_move hF rfl).q) (fun a w hF hW => ?_)
      refine ls_w hF hW (wanted_y hF rfl rfl rfl rfl) rfl (Nat.le_of_ble_eq_true rfl) ((y_eql hF rfl rfl).q) (fun a w hF hW => ?_)
      refine ls_w hF hW (wanted_y hF rfl rfl rfl rfl) rfl (Nat.le_of_ble_eq_true rfl) ((y_pick_t hF rfl rfl rfl).q) (fun a w hF hW => ?_)
      refine ls hF hW rfl ((y_pick_f hF rfl rfl rfl).q) (fun a w hF hW => ?_)
      refine ls hF hW rfl ((y_assign hF rfl).q) (fun a w hF hW => ?_)
      refine ls_nil ?_
      refine b_normal ?_
      refine c_then ?_
      refine reg_list ?_
      refine ls hF hW rfl ((y_move hF rfl).q) (fun a w hF hW => ?_)
      refine ls hF hW rfl ((y_add hF rfl rfl rfl).q) (fun a w hF hW => ?_)
      refine ls hF hW rfl ((y_assign hF rfl).q) (fun a w hF hW => ?_)
      refine ls_nil (c_then ?_)
      exact ⟨_, H, hF.re ⟨rfl, rfl, rfl, rfl, rfl, rfl, rfl, trivial⟩, hW⟩
     ·
      have H := iteF (of_decide_eq_false hb) H
      rw [hb] at hF
      clear hb
      iterate 7 refine lsn hF rfl rfl rfl rfl rfl rfl rfl (fun a hF => ?_)
      refine ls_w hF hW (wanted_y hF rfl rfl rfl rfl) rfl (Nat.le_of_ble_eq_true rfl) ((y_pick_f hF rfl rfl rfl).q) (fun a w hF hW => ?_)
      refine ls hF hW rfl ((y_pick_f hF rfl rfl rfl).q) (fun a w hF hW => ?_)
      refine ls hF hW rfl ((y_assign hF rfl).q) (fun a w hF hW => ?_)
      refine ls_nil ?_
      refine b_normal ?_
      refine c_then ?_
      refine reg_list ?_
      refine ls hF hW rfl ((y_move hF rfl).q) (fun a w hF hW => ?_)
      refine ls hF hW rfl ((y_add hF rfl rfl rfl).q) (fun a w hF hW => ?_)
      refine ls hF hW rfl ((y_assign hF rfl).q) (fun a w hF hW => ?_)
      refine ls_nil (c_then ?_)
      exact ⟨_, H, hF.re ⟨rfl, rfl, rfl, rfl, rfl, rfl, rfl, trivial⟩, hW⟩
   ·
    have H := iteF (of_decide_eq_false hb) H
    rw [hb] at hF
    clear hb
    refine wr_exit ?_
    iterate 2 refine e_then ?_
    refine e_block ?_
    refine c_then ?_
    have H := L2 _ H
    exact ⟨_, H, hF.re ⟨rfl, rfl, rfl, rfl, rfl, rfl, trivial⟩, hW⟩
  rintro a w ⟨x2, hj, hF, hW⟩
  have hj := Option.some.inj hj
  subst hj
  have H := K1
  clear G1 K1
  refine c_seq ?_
  obtain ⟨o3, G3, K3⟩ := bindE H
  refine c_seqJ (fun a w => ∃ x7 : Bool, some (x7) = some o3 ∧ Fr 101 [] [(0, v1), (1, .int .i64 p1), (8, .bool false), (69, .bool x7)] a ∧ Stw ⟨Y, [], w0⟩ [(b1, [.int .i64 p2.1, .int .i64 p2.2.1, .int .i64 p2.2.2.1, .int .i64 p2.2.2.2])] [] w) ?_ ?_
  ·
   have H := G3
   clear G3 K3
   refine reg_plan [(true, 0), (true, 1), (true, 3), (true, 4), (false, 2), (false, 5), (true, 6), (true, 7), (true, 8), (true, 9), (true, 11), (true, 12), (false, 10), (false, 13), (false, 14), (true, 15), (true, 16), (true, 17), (true, 18), (true, 20), (false, 19), (false, 21), (true, 22), (true, 23), (true, 24), (true, 25), (true, 26), (true, 28), (false, 27), (true, 29), (true, 30)] (CN ⟨Y, [], w0⟩ [] []) (fun ch a d v w h => by cases d <;> exact h) MO (by kernel_rfl) hW (fun w hW => ⟨_, _, hW, all_nil, all_nil⟩) (fun w hW => ?_)
   iterate 4 refine pl_t (R := []) hF rfl rfl (yC fun M Z hN hZ => y_move hF rfl) rfl rfl (fun a hF => ?_)
   refine pl_f rfl ?_
   obtain ⟨x8, h4, H⟩ := bindE H
   refine ls hF hW rfl (y_call (v := Value.bool x8) hF H8 rfl (fun w hW => act_Right_c any w (v1) p0 p1 _ h4 (((rdc_ro h_v1) : Rdc _ _ _ _ _ _) w hW).nx)) (fun a w hF hW => ?_)
   refine pl_next (N2 := []) (NZ2 := []) (N3 := []) (NZ3 := []) hW rfl rfl all_nil all_nil ?_
   refine pl_f rfl ?_
   obtain ⟨x9, h5, H⟩ := bindE H
   refine ls hF hW rfl (y_call (v := Value.bool x9) hF H9 rfl (fun w hW => r09_Right_c any w (v1) p0 p1 _ h5 (((rdc_ro h_v1) : Rdc _ _ _ _ _ _) w hW).nx)) (fun a w hF hW => ?_)
   refine pl_next (N2 := [(some 10, b1, [.int .i64 p2.1, .int .i64 p2.2.1, .int .i64 p2.2.2.1, .int .i64 p2.2.2.2]), (some 13, b1, [.int .i64 p2.1, .int .i64 p2.2.1, .int .i64 p2.2.2.1, .int .i64 p2.2.2.2])]) (NZ2 := []) (N3 := [(some 10, b1, [.int .i64 p2.1, .int .i64 p2.2.1, .int .i64 p2.2.2.1, .int .i64 p2.2.2.2]), (some 13, b1, [.int .i64 p2.1, .int .i64 p2.2.1, .int .i64 p2.2.2.1, .int .i64 p2.2.2.2])]) (NZ3 := []) hW rfl rfl (all_cons (fun _ => (.head _)) (all_cons (fun _ => (.head _)) all_nil)) all_nil ?_
   refine pl_t (R := []) hF rfl rfl (yC fun M Z hN hZ => y_neb u4_ hF rfl rfl) rfl rfl (fun a hF => ?_)
   refine pl_t (R := []) hF rfl rfl (yC fun M Z hN hZ => y_move hF rfl) rfl rfl (fun a hF => ?_)
   rcases Bool.eq_false_or_eq_true (decide (x8 ≠ x9)) with hb | hb
   ·
    have H := iteT (of_decide_eq_true hb) H
    rw [hb] at hF
    clear hb
    iterate 4 refine pl_skip hF rfl (wanted_n hF rfl rfl rfl rfl rfl) rfl rfl rfl (fun a hF => ?_)
    refine pl_f rfl ?_
    refine lsn hF rfl rfl rfl rfl rfl rfl rfl (fun a hF => ?_)
    refine pl_next (N2 := []) (NZ2 := []) (N3 := [(some 10, b1, [.int .i64 p2.1, .int .i64 p2.2.1, .int .i64 p2.2.2.1, .int .i64 p2.2.2.2]), (some 13, b1, [.int .i64 p2.1, .int .i64 p2.2.1, .int .i64 p2.2.2.1, .int .i64 p2.2.2.2])]) (NZ3 := []) hW rfl rfl (all_cons (fun h => rel_dead (by kernel_rfl) h) (all_cons (fun _ => (.head _)) all_nil)) all_nil ?_
    refine pl_f rfl ?_
    refine lsn hF rfl rfl rfl rfl rfl rfl rfl (fun a hF => ?_)
    refine pl_next (N2 := []) (NZ2 := []) (N3 := [(some 10, b1, [.int .i64 p2.1, .int .i64 p2.2.1, .int .i64 p2.2.2.1, .int .i64 p2.2.2.2]), (some 13, b1, [.int .i64 p2.1, .int .i64 p2.2.1, .int .i64 p2.2.2.1, .int .i64 p2.2.2.2])]) (NZ3 := []) hW rfl rfl (all_cons (fun h => rel_dead (by kernel_rfl) h) (all_cons (fun h => rel_dead (by kernel_rfl) h) all_nil)) all_nil ?_
    refine pl_f rfl ?_
    refine lsn hF rfl rfl rfl rfl rfl rfl rfl (fun a hF => ?_)
    refine pl_next (N2 := []) (NZ2 := []) (N3 := [(some 10, b1, [.int .i64 p2.1, .int .i64 p2.2.1, .int .i64 p2.2.2.1, .int .i64 p2.2.2.2]), (some 13, b1, [.int .i64 p2.1, .int .i64 p2.2.1, .int .i64 p2.2.2.1, .int .i64 p2.2.2.2])]) (NZ3 := []) hW rfl rfl (all_cons (fun h => rel_dead (by kernel_rfl) h) (all_cons (fun h => rel_dead (by kernel_rfl) h) all_nil)) all_nil ?_
    refine pl_skip hF rfl (wanted_n hF rfl rfl rfl rfl rfl) rfl rfl rfl (fun a hF => ?_)
    refine pl_t (R := []) hF rfl rfl (yC fun M Z hN hZ => y_pick_t hF rfl rfl rfl) rfl rfl (fun a hF => ?_)
    refine pl_t (R := []) hF rfl rfl (yC fun M Z hN hZ => y_move hF rfl) rfl rfl (fun a hF => ?_)
    iterate 2 refine pl_skip hF rfl (wanted_n hF rfl rfl rfl rfl rfl) rfl rfl rfl (fun a hF => ?_)
    refine pl_f rfl ?_
    refine lsn hF rfl rfl rfl rfl rfl rfl rfl (fun a hF => ?_)
    refine pl_next (N2 := []) (NZ2 := []) (N3 := [(some 10, b1, [.int .i64 p2.1, .int .i64 p2.2.1, .int .i64 p2.2.2.1, .int .i64 p2.2.2.2]), (some 13, b1, [.int .i64 p2.1, .int .i64 p2.2.1, .int .i64 p2.2.2.1, .int .i64 p2.2.2.2])]) (NZ3 := []) hW rfl rfl (all_cons (fun h => rel_dead (by kernel_rfl) h) (all_cons (fun h => rel_dead (by kernel_rfl) h) all_nil)) all_nil ?_
    refine pl_f rfl ?_
    refine lsn hF rfl rfl rfl rfl rfl rfl rfl (fun a hF => ?_)
    refine pl_next (N2 := []) (NZ2 := []) (N3 := [(some 10, b1, [.int .i64 p2.1, .int .i64 p2.2.1, .int .i64 p2.2.2.1, .int .i64 p2.2.2.2]), (some 13, b1, [.int .i64 p2.1, .int .i64 p2.2.1, .int .i64 p2.2.2.1, .int .i64 p2.2.2.2])]) (NZ3 := []) hW rfl rfl (all_cons (fun h => rel_dead (by kernel_rfl) h) (all_cons (fun h => rel_dead (by kernel_rfl) h) all_nil)) all_nil ?_
    refine pl_skip hF rfl (wanted_n hF rfl rfl rfl rfl rfl) rfl rfl rfl (fun a hF => ?_)
    refine pl_t (R := []) hF rfl rfl (yC fun M Z hN hZ => y_pick_t hF rfl rfl rfl) rfl rfl (fun a hF => ?_)
    refine pl_t (R := []) hF rfl rfl (yC fun M Z hN hZ => y_move hF rfl) rfl rfl (fun a hF => ?_)
    iterate 3 refine pl_skip hF rfl (wanted_n hF rfl rfl rfl rfl rfl) rfl rfl rfl (fun a hF => ?_)
    refine pl_f rfl ?_
    refine lsn hF rfl rfl rfl rfl rfl rfl rfl (fun a hF => ?_)
    refine pl_next (N2 := []) (NZ2 := []) (N3 := [(some 10, b1, [.int .i64 p2.1, .int .i64 p2.2.1, .int .i64 p2.2.2.1, .int .i64 p2.2.2.2]), (some 13, b1, [.int .i64 p2.1, .int .i64 p2.2.1, .int .i64 p2.2.2.1, .int .i64 p2.2.2.2])]) (NZ3 := []) hW rfl rfl (all_cons (fun h => rel_dead (by kernel_rfl) h) (all_cons (fun h => rel_dead (by kernel_rfl) h) all_nil)) all_nil ?_
    refine pl_skip hF rfl (wanted_n hF rfl rfl rfl rfl rfl) rfl rfl rfl (fun a hF => ?_)
    refine pl_t (R := []) hF rfl rfl (yC fun M Z hN hZ => y_pick_t hF rfl rfl rfl) rfl rfl (fun a hF => ?_)
    refine pl_end ?_
    refine c_then ?_
    exact ⟨_, H, hF.re ⟨rfl, rfl, rfl, rfl, trivial⟩, hW⟩
   ·
    have H := iteF (of_decide_eq_false hb) H
    rw [hb] at hF
    clear hb
    refine pl_w (R := []) hF rfl (wanted_y hF rfl rfl rfl rfl) rfl rfl (yC fun M Z hN hZ => y_move hF rfl) rfl rfl (fun a hF => ?_)
    refine pl_w (R := [10]) hF rfl (wanted_y hF rfl rfl rfl rfl) rfl rfl (yC fun M Z hN hZ => y_load_m (cs := [.int .i64 p2.1, .int .i64 p2.2.1, .int .i64 p2.2.2.1, .int .i64 p2.2.2.2]) (v := Value.agg #[.int .i64 p2.1, .int .i64 p2.2.1, .int .i64 p2.2.2.1, .int .i64 p2.2.2.2]) hF rfl (hN ((some 10), b1, [.int .i64 p2.1, .int .i64 p2.2.1, .int .i64 p2.2.2.1, .int .i64 p2.2.2.2]) (.head _) rfl) T24 rfl) (by kernel_rfl) rfl (fun a hF => ?_)
    refine pl_w (R := []) hF rfl (wanted_y hF rfl rfl rfl rfl) rfl rfl (yC fun M Z hN hZ => y_move hF rfl) rfl rfl (fun a hF => ?_)
    refine pl_w (R := [13]) hF rfl (wanted_y hF rfl rfl rfl rfl) rfl rfl (yC fun M Z hN hZ => y_load_m (cs := [.int .i64 p2.1, .int .i64 p2.2.1, .int .i64 p2.2.2.1, .int .i64 p2.2.2.2]) (v := Value.agg #[.int .i64 p2.1, .int .i64 p2.2.1, .int .i64 p2.2.2.1, .int .i64 p2.2.2.2]) hF rfl (hN ((some 13), b1, [.int .i64 p2.1, .int .i64 p2.2.1, .int .i64 p2.2.2.1, .int .i64 p2.2.2.2]) (.tail _ (.head _)) rfl) T24 rfl) (by kernel_rfl) rfl (fun a hF => ?_)
    refine pl_f rfl ?_
    refine ls_g (wanted_y hF rfl rfl rfl rfl) ?_
    obtain ⟨x10, h6, H⟩ := bindE H
    refine l_callG (Ml := []) (Zl := []) (M := [(b1, [.int .i64 p2.1, .int .i64 p2.2.1, .int .i64 p2.2.2.1, .int .i64 p2.2.2.2])]) (Z := []) (β := Value) (rv := fun x => x) (MM := fun x => []) (ZZ := fun x => [row x 41 R41 x10]) hF hW H11 rfl rfl (fun hL => act_Run_c _ w (v1) p0 p2 _ h6 ((rdc_ro h_v1) w hW).nx) (fun x a w hF hW => ?_)
    obtain ⟨v2, rfl⟩ : ∃ y, y = x := ⟨x, rfl⟩
    have hW : Stw ⟨Y, [], w0⟩ [(b1, [.int .i64 p2.1, .int .i64 p2.2.1, .int .i64 p2.2.2.1, .int .i64 p2.2.2.2])] [row v2 41 R41 x10] w := hW
    refine pl_next (N2 := []) (NZ2 := []) (N3 := [(some 10, b1, [.int .i64 p2.1, .int .i64 p2.2.1, .int .i64 p2.2.2.1, .int .i64 p2.2.2.2]), (some 13, b1, [.int .i64 p2.1, .int .i64 p2.2.1, .int .i64 p2.2.2.1, .int .i64 p2.2.2.2])]) (NZ3 := []) hW rfl rfl (all_cons (fun h => rel_dead (by kernel_rfl) h) (all_cons (fun _ => (.head _)) all_nil)) all_nil ?_
    refine pl_f rfl ?_
    refine ls_g (wanted_y hF rfl rfl rfl rfl) ?_
    obtain ⟨x11, h7, H⟩ := bindE H
    refine l_callG (Ml := []) (Zl := []) (M := [(b1, [.int .i64 p2.1, .int .i64 p2.2.1, .int .i64 p2.2.2.1, .int .i64 p2.2.2.2])]) (Z := [row v2 41 R41 x10]) (β := Value) (rv := fun x => x) (MM := fun x => []) (ZZ := fun x => [row x 41 R41 x11]) hF hW H12 rfl rfl (fun hL => r09_Run_c _ w (v1) p0 p2 _ h7 ((rdc_ro h_v1) w hW).nx) (fun x a w hF hW => ?_)
    obtain ⟨v3, rfl⟩ : ∃ y, y = x := ⟨x, rfl⟩
    have hW : Stw ⟨Y, [], w0⟩ [(b1, [.int .i64 p2.1, .int .i64 p2.2.1, .int .i64 p2.2.2.1, .int .i64 p2.2.2.2])] [row v3 41 R41 x11, row v2 41 R41 x10] w := hW
    refine pl_next (N2 := []) (NZ2 := []) (N3 := [(some 10, b1, [.int .i64 p2.1, .int .i64 p2.2.1, .int .i64 p2.2.2.1, .int .i64 p2.2.2.2]), (some 13, b1, [.int .i64 p2.1, .int .i64 p2.2.1, .int .i64 p2.2.2.1, .int .i64 p2.2.2.2])]) (NZ3 := []) hW rfl rfl (all_cons (fun h => rel_dead (by kernel_rfl) h) (all_cons (fun h => rel_dead (by kernel_rfl) h) all_nil)) all_nil ?_
    refine pl_f rfl ?_
    refine ls_g (wanted_y hF rfl rfl rfl rfl) ?_
    obtain ⟨x12, h8, H⟩ := bindE H
    refine ls hF hW rfl (y_call (v := Value.bool x12) hF H10 rfl (fun w hW => r09_Sent_c any w (v2) (v3) x10 x11 _ h8 (((rdc_row 1 rfl) : Rdc _ _ _ _ _ _) w hW).nx (((rdc_row 0 rfl) : Rdc _ _ _ _ _ _) w hW).nx)) (fun a w hF hW => ?_)
    refine pl_next (N2 := []) (NZ2 := []) (N3 := [(some 10, b1, [.int .i64 p2.1, .int .i64 p2.2.1, .int .i64 p2.2.2.1, .int .i64 p2.2.2.2]), (some 13, b1, [.int .i64 p2.1, .int .i64 p2.2.1, .int .i64 p2.2.2.1, .int .i64 p2.2.2.2])]) (NZ3 := []) hW rfl rfl (all_cons (fun h => rel_dead (by kernel_rfl) h) (all_cons (fun h => rel_dead (by kernel_rfl) h) all_nil)) all_nil ?_
    refine pl_w (R := []) hF rfl (wanted_y hF rfl rfl rfl rfl) rfl rfl (yC fun M Z hN hZ => y_not hF rfl) rfl rfl (fun a hF => ?_)
    refine pl_t (R := []) hF rfl rfl (yC fun M Z hN hZ => y_pick_f hF rfl rfl rfl) rfl rfl (fun a hF => ?_)
    refine pl_t (R := []) hF rfl rfl (yC fun M Z hN hZ => y_move hF rfl) rfl rfl (fun a hF => ?_)
    rcases Bool.eq_false_or_eq_true (!x12) with hb | hb
    ·
     have H := iteT hb H
     rw [hb] at hF
     clear hb
     iterate 2 refine pl_skip hF rfl (wanted_n hF rfl rfl rfl rfl rfl) rfl rfl rfl (fun a hF => ?_)
     refine pl_f rfl ?_
     refine lsn hF rfl rfl rfl rfl rfl rfl rfl (fun a hF => ?_)
     refine pl_next (N2 := []) (NZ2 := []) (N3 := [(some 10, b1, [.int .i64 p2.1, .int .i64 p2.2.1, .int .i64 p2.2.2.1, .int .i64 p2.2.2.2]), (some 13, b1, [.int .i64 p2.1, .int .i64 p2.2.1, .int .i64 p2.2.2.1, .int .i64 p2.2.2.2])]) (NZ3 := []) hW rfl rfl (all_cons (fun h => rel_dead (by kernel_rfl) h) (all_cons (fun h => rel_dead (by kernel_rfl) h) all_nil)) all_nil ?_
     refine pl_f rfl ?_
     refine lsn hF rfl rfl rfl rfl rfl rfl rfl (fun a hF => ?_)
     refine pl_next (N2 := []) (NZ2 := []) (N3 := [(some 10, b1, [.int .i64 p2.1, .int .i64 p2.2.1, .int .i64 p2.2.2.1, .int .i64 p2.2.2.2]), (some 13, b1, [.int .i64 p2.1, .int .i64 p2.2.1, .int .i64 p2.2.2.1, .int .i64 p2.2.2.2])]) (NZ3 := []) hW rfl rfl (all_cons (fun h => rel_dead (by kernel_rfl) h) (all_cons (fun h => rel_dead (by kernel_rfl) h) all_nil)) all_nil ?_
     refine pl_skip hF rfl (wanted_n hF rfl rfl rfl rfl rfl) rfl rfl rfl (fun a hF => ?_)
     refine pl_t (R := []) hF rfl rfl (yC fun M Z hN hZ => y_pick_t hF rfl rfl rfl) rfl rfl (fun a hF => ?_)
     refine pl_t (R := []) hF rfl rfl (yC fun M Z hN hZ => y_move hF rfl) rfl rfl (fun a hF => ?_)
     iterate 3 refine pl_skip hF rfl (wanted_n hF rfl rfl rfl rfl rfl) rfl rfl rfl (fun a hF => ?_)
     refine pl_f rfl ?_
     refine lsn hF rfl rfl rfl rfl rfl rfl rfl (fun a hF => ?_)
     refine pl_next (N2 := []) (NZ2 := []) (N3 := [(some 10, b1, [.int .i64 p2.1, .int .i64 p2.2.1, .int .i64 p2.2.2.1, .int .i64 p2.2.2.2]), (some 13, b1, [.int .i64 p2.1, .int .i64 p2.2.1, .int .i64 p2.2.2.1, .int .i64 p2.2.2.2])]) (NZ3 := []) hW rfl rfl (all_cons (fun h => rel_dead (by kernel_rfl) h) (all_cons (fun h => rel_dead (by kernel_rfl) h) all_nil)) all_nil ?_
     refine pl_skip hF rfl (wanted_n hF rfl rfl rfl rfl rfl) rfl rfl rfl (fun a hF => ?_)
     refine pl_t (R := []) hF rfl rfl (yC fun M Z hN hZ => y_pick_t hF rfl rfl rfl) rfl rfl (fun a hF => ?_)
     refine pl_end ?_
     refine c_then ?_
     have hW := hW.sub (M' := [(b1, [.int .i64 p2.1, .int .i64 p2.2.1, .int .i64 p2.2.2.1, .int .i64 p2.2.2.2])]) (Z' := []) (List.Sublist.refl _) (List.nil_sublist _)
     exact ⟨_, H, hF.re ⟨rfl, rfl, rfl, rfl, trivial⟩, hW⟩
    ·
     have H := iteF (by rw [hb]; decide) H
     rw [hb] at hF
     clear hb
     iterate 2 refine pl_w (R := []) hF rfl (wanted_y hF rfl rfl rfl rfl) rfl rfl (yC fun M Z hN hZ => y_move hF rfl) rfl rfl (fun a hF => ?_)
     refine pl_f rfl ?_
     refine ls_g (wanted_y hF rfl rfl rfl rfl) ?_
     obtain ⟨x13, h9, H⟩ := bindE H
     refine l_callG (Ml := []) (Zl := []) (M := [(b1, [.int .i64 p2.1, .int .i64 p2.2.1, .int .i64 p2.2.2.1, .int .i64 p2.2.2.2])]) (Z := [row v3 41 R41 x11, row v2 41 R41 x10]) (β := Value) (rv := fun x => x) (MM := fun x => []) (ZZ := fun x => [row x 3 (Rp.int .i64) x13]) hF hW H14 rfl rfl (fun hL => act_Outs_c _ w (v1) p0 _ h9 ((rdc_ro h_v1) w hW).nx) (fun x a w hF hW => ?_)
     obtain ⟨v4, rfl⟩ : ∃ y, y = x := ⟨x, rfl⟩
     have hW : Stw ⟨Y, [], w0⟩ [(b1, [.int .i64 p2.1, .int .i64 p2.2.1, .int .i64 p2.2.2.1, .int .i64 p2.2.2.2])] [row v4 3 (Rp.int .i64) x13, row v3 41 R41 x11, row v2 41 R41 x10] w := hW
     refine pl_next (N2 := []) (NZ2 := []) (N3 := [(some 10, b1, [.int .i64 p2.1, .int .i64 p2.2.1, .int .i64 p2.2.2.1, .int .i64 p2.2.2.2]), (some 13, b1, [.int .i64 p2.1, .int .i64 p2.2.1, .int .i64 p2.2.2.1, .int .i64 p2.2.2.2])]) (NZ3 := []) hW rfl rfl (all_cons (fun h => rel_dead (by kernel_rfl) h) (all_cons (fun h => rel_dead (by kernel_rfl) h) all_nil)) all_nil ?_
     refine pl_f rfl ?_
     refine ls_g (wanted_y hF rfl rfl rfl rfl) ?_
     obtain ⟨x14, h10, H⟩ := bindE H
     refine ls hF hW rfl (y_call (v := Value.bool x14) hF H13 rfl (fun w hW => L09_ints_c any w (v4) (v1) x13 p0 _ h10 (((rdc_row 0 rfl) : Rdc _ _ _ _ _ _) w hW).nx (((rdc_ro h_v1) : Rdc _ _ _ _ _ _) w hW).nx)) (fun a w hF hW => ?_)
     refine pl_next (N2 := []) (NZ2 := []) (N3 := [(some 10, b1, [.int .i64 p2.1, .int .i64 p2.2.1, .int .i64 p2.2.2.1, .int .i64 p2.2.2.2]), (some 13, b1, [.int .i64 p2.1, .int .i64 p2.2.1, .int .i64 p2.2.2.1, .int .i64 p2.2.2.2])]) (NZ3 := []) hW rfl rfl (all_cons (fun h => rel_dead (by kernel_rfl) h) (all_cons (fun h => rel_dead (by kernel_rfl) h) all_nil)) all_nil ?_
     refine pl_w (R := []) hF rfl (wanted_y hF rfl rfl rfl rfl) rfl rfl (yC fun M Z hN hZ => y_not hF rfl) rfl rfl (fun a hF => ?_)
     refine pl_t (R := []) hF rfl rfl (yC fun M Z hN hZ => y_pick_f hF rfl rfl rfl) rfl rfl (fun a hF => ?_)
     refine pl_t (R := []) hF rfl rfl (yC fun M Z hN hZ => y_move hF rfl) rfl rfl (fun a hF => ?_)
     rcases Bool.eq_false_or_eq_true (!x14) with hb | hb
     ·
      have H := iteT hb H
      rw [hb] at hF
      clear hb
      iterate 3 refine pl_skip hF rfl (wanted_n hF rfl rfl rfl rfl rfl) rfl rfl rfl (fun a hF => ?_)
      refine pl_f rfl ?_
      refine lsn hF rfl rfl rfl rfl rfl rfl rfl (fun a hF => ?_)
      refine pl_next (N2 := []) (NZ2 := []) (N3 := [(some 10, b1, [.int .i64 p2.1, .int .i64 p2.2.1, .int .i64 p2.2.2.1, .int .i64 p2.2.2.2]), (some 13, b1, [.int .i64 p2.1, .int .i64 p2.2.1, .int .i64 p2.2.2.1, .int .i64 p2.2.2.2])]) (NZ3 := []) hW rfl rfl (all_cons (fun h => rel_dead (by kernel_rfl) h) (all_cons (fun h => rel_dead (by kernel_rfl) h) all_nil)) all_nil ?_
      refine pl_skip hF rfl (wanted_n hF rfl rfl rfl rfl rfl) rfl rfl rfl (fun a hF => ?_)
      refine pl_t (R := []) hF rfl rfl (yC fun M Z hN hZ => y_pick_t hF rfl rfl rfl) rfl rfl (fun a hF => ?_)
      refine pl_end ?_
      refine c_then ?_
      have hW := hW.sub (M' := [(b1, [.int .i64 p2.1, .int .i64 p2.2.1, .int .i64 p2.2.2.1, .int .i64 p2.2.2.2])]) (Z' := []) (List.Sublist.refl _) (List.nil_sublist _)
      exact ⟨_, H, hF.re ⟨rfl, rfl, rfl, rfl, trivial⟩, hW⟩
     ·
      have H := iteF (by rw [hb]; decide) H
      rw [hb] at hF
      clear hb
      iterate 3 refine pl_w (R := []) hF rfl (wanted_y hF rfl rfl rfl rfl) rfl rfl (yC fun M Z hN hZ => y_move hF rfl) rfl rfl (fun a hF => ?_)
      refine pl_f rfl ?_
      refine ls_g (wanted_y hF rfl rfl rfl rfl) ?_
      obtain ⟨x15, h11, H⟩ := bindE H
      refine ls hF hW rfl (y_call (v := Value.bool x15) hF H15 rfl (fun w hW => act_Writes_c any w (v1) p0 p3 _ h11 (((rdc_ro h_v1) : Rdc _ _ _ _ _ _) w hW).nx)) (fun a w hF hW => ?_)
      refine pl_next (N2 := []) (NZ2 := []) (N3 := [(some 10, b1, [.int .i64 p2.1, .int .i64 p2.2.1, .int .i64 p2.2.2.1, .int .i64 p2.2.2.2]), (some 13, b1, [.int .i64 p2.1, .int .i64 p2.2.1, .int .i64 p2.2.2.1, .int .i64 p2.2.2.2])]) (NZ3 := []) hW rfl rfl (all_cons (fun h => rel_dead (by kernel_rfl) h) (all_cons (fun h => rel_dead (by kernel_rfl) h) all_nil)) all_nil ?_
      refine pl_w (R := []) hF rfl (wanted_y hF rfl rfl rfl rfl) rfl rfl (yC fun M Z hN hZ => y_neb u4_ hF rfl rfl) rfl rfl (fun a hF => ?_)
      refine pl_t (R := []) hF rfl rfl (yC fun M Z hN hZ => y_pick_f hF rfl rfl rfl) rfl rfl (fun a hF => ?_)
      refine pl_end ?_
      refine c_then ?_
      have hW := hW.sub (M' := [(b1, [.int .i64 p2.1, .int .i64 p2.2.1, .int .i64 p2.2.2.1, .int .i64 p2.2.2.2])]) (Z' := []) (List.Sublist.refl _) (List.nil_sublist _)
      exact ⟨_, H, hF.re ⟨rfl, rfl, rfl, rfl, trivial⟩, hW⟩
  rintro a w ⟨x7, hj, hF, hW⟩
  have hj := Option.some.inj hj
  subst hj
  have H := K3
  clear G3 K3
  refine c_cond hF rfl (fun hb => ?_) (fun hb => ?_)
  ·
   have H := iteT hb H
   rw [hb] at hF
   clear hb
   refine c_seq (reg_list ?_)
   refine ls hF hW rfl ((y_assign hF rfl).q) (fun a w hF hW => ?_)
   refine ls_nil (c_then ?_)
   refine wr_ret ?_
   refine r_then ?_
   have H := Option.some.inj H
   subst H
   refine post1 (.inl rfl) hF hW rfl (rv_tmp hF rfl) ?_
   exact ⟨rfl, hW.done⟩
  ·
   have H := iteF (by rw [hb]; decide) H
   rw [hb] at hF
   clear hb
   refine wr_skip ?_
   refine c_then ?_
   refine c_seq ?_
   obtain ⟨o4, G4, K4⟩ := bindE H
   refine c_seqJ (fun a w => ∃ x16 : Bool, some (x16) = some o4 ∧ Fr 101 [] [(0, v1), (8, .bool false), (77, .bool x16)] a ∧ Stw ⟨Y, [], w0⟩ [(b1, [.int .i64 p2.1, .int .i64 p2.2.1, .int .i64 p2.2.2.1, .int .i64 p2.2.2.2])] [] w) ?_ ?_
   ·
    have H := G4
    clear G4 K4
    refine reg_list ?_
    iterate 2 refine ls hF hW rfl ((y_move hF rfl).q) (fun a w hF hW => ?_)
    obtain ⟨x17, h12, H⟩ := bindE H
    refine ls hF hW rfl (y_call (v := Value.bool x17) hF H9 rfl (fun w hW => r09_Right_c any w (v1) p0 p1 _ h12 (((rdc_ro h_v1) : Rdc _ _ _ _ _ _) w hW).nx)) (fun a w hF hW => ?_)
    refine ls hF hW rfl ((y_not hF rfl).q) (fun a w hF hW => ?_)
    refine ls hF hW rfl ((y_move hF rfl).q) (fun a w hF hW => ?_)
    rcases Bool.eq_false_or_eq_true (!x17) with hb | hb
    ·
     have H := iteT hb H
     rw [hb] at hF
     clear hb
     iterate 2 refine lsn hF rfl rfl rfl rfl rfl rfl rfl (fun a hF => ?_)
     refine ls hF hW rfl ((y_pick_t hF rfl rfl rfl).q) (fun a w hF hW => ?_)
     refine ls_nil (c_then ?_)
     exact ⟨_, H, hF.re ⟨rfl, rfl, rfl, trivial⟩, hW⟩
    ·
     have H := iteF (by rw [hb]; decide) H
     rw [hb] at hF
     clear hb
     refine ls_w hF hW (wanted_y hF rfl rfl rfl rfl) rfl (Nat.le_of_ble_eq_true rfl) ((y_move hF rfl).q) (fun a w hF hW => ?_)
     refine ls_w hF hW (wanted_y hF rfl rfl rfl rfl) rfl (Nat.le_of_ble_eq_true rfl) ((y_gtr hF rfl rfl).q) (fun a w hF hW => ?_)
     refine ls hF hW rfl ((y_pick_f hF rfl rfl rfl).q) (fun a w hF hW => ?_)
     refine ls_nil (c_then ?_)
     exact ⟨_, H, hF.re ⟨rfl, rfl, rfl, trivial⟩, hW⟩
   rintro a w ⟨x16, hj, hF, hW⟩
   have hj := Option.some.inj hj
   subst hj
   have H := K4
   clear G4 K4
   refine c_cond hF rfl (fun hb => ?_) (fun hb => ?_)
   ·
    have H := iteT hb H
    rw [hb] at hF
    clear hb
    refine c_seq (reg_list ?_)
    obtain ⟨x18, h13, H⟩ := bindE H
    refine ls hF hW rfl (y_call (v := Value.bool x18) hF H7 rfl (fun w hW => L09_awake_c any w _ h13 (hG.go0 hW))) (fun a w hF hW => ?_)
    refine ls hF hW rfl ((y_assign hF rfl).q) (fun a w hF hW => ?_)
    refine ls_nil (c_then ?_)
    refine wr_ret ?_
    refine r_then ?_
    have H := Option.some.inj H
    subst H
    refine post1 (.inl rfl) hF hW rfl (rv_tmp hF rfl) ?_
    exact ⟨rfl, hW.done⟩
   ·
    have H := iteF (by rw [hb]; decide) H
    rw [hb] at hF
    clear hb
    refine wr_skip ?_
    refine c_then ?_
    obtain ⟨o5, G5, K5⟩ := bindE H
    refine c_seqJ (fun a w => ∃ x19 : Bool, some (x19) = some o5 ∧ Fr 101 [] [(8, .bool x19)] a ∧ Stw ⟨Y, [], w0⟩ [(b1, [.int .i64 p2.1, .int .i64 p2.2.1, .int .i64 p2.2.2.1, .int .i64 p2.2.2.2])] [] w) ?_ ?_
    ·
     have H := G5
     clear G5 K5
     refine reg_list ?_
     refine ls hF hW rfl ((y_move hF rfl).q) (fun a w hF hW => ?_)
     obtain ⟨x20, h14, H⟩ := bindE H
     refine l_callG (Ml := []) (Zl := []) (M := [(b1, [.int .i64 p2.1, .int .i64 p2.2.1, .int .i64 p2.2.2.1, .int .i64 p2.2.2.2])]) (Z := []) (β := Value) (rv := fun x => x) (MM := fun x => []) (ZZ := fun x => [row x 27 R27 x20]) hF hW H17 rfl rfl (fun hL => act_Fold_c _ w (v1) p0 _ h14 ((rdc_ro h_v1) w hW).nx) (fun x a w hF hW => ?_)
     obtain ⟨v5, rfl⟩ : ∃ y, y = x := ⟨x, rfl⟩
     have hW : Stw ⟨Y, [], w0⟩ [(b1, [.int .i64 p2.1, .int .i64 p2.2.1, .int .i64 p2.2.2.1, .int .i64 p2.2.2.2])] [row v5 27 R27 x20] w := hW
     refine ls hF hW rfl ((y_move hF rfl).q) (fun a w hF hW => ?_)
     obtain ⟨x21, h15, H⟩ := bindE H
     refine l_callG (Ml := []) (Zl := []) (M := [(b1, [.int .i64 p2.1, .int .i64 p2.2.1, .int .i64 p2.2.2.1, .int .i64 p2.2.2.2])]) (Z := [row v5 27 R27 x20]) (β := Value) (rv := fun x => x) (MM := fun x => []) (ZZ := fun x => [row x 27 R27 x21]) hF hW H18 rfl rfl (fun hL => r09_Fold_c _ w (v1) p0 _ h15 ((rdc_ro h_v1) w hW).nx) (fun x a w hF hW => ?_)
     obtain ⟨v6, rfl⟩ : ∃ y, y = x := ⟨x, rfl⟩
     have hW : Stw ⟨Y, [], w0⟩ [(b1, [.int .i64 p2.1, .int .i64 p2.2.1, .int .i64 p2.2.2.1, .int .i64 p2.2.2.2])] [row v6 27 R27 x21, row v5 27 R27 x20] w := hW
     obtain ⟨x22, h16, H⟩ := bindE H
     refine ls hF hW rfl (y_call (v := Value.bool x22) hF H16 rfl (fun w hW => r09_Same_c any w (v5) (v6) x20 x21 _ h16 (((rdc_row 1 rfl) : Rdc _ _ _ _ _ _) w hW).nx (((rdc_row 0 rfl) : Rdc _ _ _ _ _ _) w hW).nx)) (fun a w hF hW => ?_)
     refine ls hF hW rfl ((y_move hF rfl).q) (fun a w hF hW => ?_)
     rcases Bool.eq_false_or_eq_true x22 with hb | hb
     ·
      have H := iteT hb H
      rw [hb] at hF
      clear hb
      refine ls_w hF hW (wanted_y hF rfl rfl rfl rfl) rfl (Nat.le_of_ble_eq_true rfl) ((y_move hF rfl).q) (fun a w hF hW => ?_)
      refine ls_g (wanted_y hF rfl rfl rfl rfl) ?_
      obtain ⟨x23, h17, H⟩ := bindE H
      refine ls hF hW rfl (y_call (v := Value.string (bs x23)) hF H19 rfl (fun w hW => act_Code_c any w (v1) p0 _ h17 (((rdc_ro h_v1) : Rdc _ _ _ _ _ _) w hW).nx)) (fun a w hF hW => ?_)
      refine ls_w hF hW (wanted_y hF rfl rfl rfl rfl) rfl (Nat.le_of_ble_eq_true rfl) ((y_move hF rfl).q) (fun a w hF hW => ?_)
      refine ls_g (wanted_y hF rfl rfl rfl rfl) ?_
      obtain ⟨x24, h18, H⟩ := bindE H
      refine ls hF hW rfl (y_call (v := Value.string (bs x24)) hF H20 rfl (fun w hW => r09_Code_c any w (v1) p0 _ h18 (((rdc_ro h_v1) : Rdc _ _ _ _ _ _) w hW).nx)) (fun a w hF hW => ?_)
      refine ls_w hF hW (wanted_y hF rfl rfl rfl rfl) rfl (Nat.le_of_ble_eq_true rfl) ((y_seq (l := x23) (m := x24) hF rfl rfl).q) (fun a w hF hW => ?_)
      refine ls hF hW rfl ((y_pick_t hF rfl rfl rfl).q) (fun a w hF hW => ?_)
      refine ls hF hW rfl ((y_move hF rfl).q) (fun a w hF hW => ?_)
      rcases Bool.eq_false_or_eq_true (decide (x23 = x24)) with hb | hb
      ·
       have H := iteT (of_decide_eq_true hb) H
       rw [hb] at hF
       clear hb
       refine ls_w hF hW (wanted_y hF rfl rfl rfl rfl) rfl (Nat.le_of_ble_eq_true rfl) ((y_move hF rfl).q) (fun a w hF hW => ?_)
       refine ls_g (wanted_y hF rfl rfl rfl rfl) ?_
       obtain ⟨x25, h19, H⟩ := bindE H
       refine ls hF hW rfl (y_call (v := Value.string (bs x25)) hF H21 rfl (fun w hW => act_Text_c any w (v1) p0 _ h19 (((rdc_ro h_v1) : Rdc _ _ _ _ _ _) w hW).nx (hG.go0 hW))) (fun a w hF hW => ?_)
       refine ls_w hF hW (wanted_y hF rfl rfl rfl rfl) rfl (Nat.le_of_ble_eq_true rfl) ((y_move hF rfl).q) (fun a w hF hW => ?_)
       refine ls_g (wanted_y hF rfl rfl rfl rfl) ?_
       obtain ⟨x26, h20, H⟩ := bindE H
       refine ls hF hW rfl (y_call (v := Value.string (bs x26)) hF H22 rfl (fun w hW => r09_Text_c any w (v1) p0 _ h20 (((rdc_ro h_v1) : Rdc _ _ _ _ _ _) w hW).nx)) (fun a w hF hW => ?_)
       refine ls_w hF hW (wanted_y hF rfl rfl rfl rfl) rfl (Nat.le_of_ble_eq_true rfl) ((y_seq (l := x25) (m := x26) hF rfl rfl).q) (fun a w hF hW => ?_)
       refine ls hF hW rfl ((y_pick_t hF rfl rfl rfl).q) (fun a w hF hW => ?_)
       refine ls hF hW rfl ((y_move hF rfl).q) (fun a w hF hW => ?_)
       rcases Bool.eq_false_or_eq_true (decide (x25 = x26)) with hb | hb
       ·
        have H := iteT (of_decide_eq_true hb) H
        rw [hb] at hF
        clear hb
        refine ls_g (wanted_y hF rfl rfl rfl rfl) ?_
        obtain ⟨x27, h21, H⟩ := bindE H
        refine ls hF hW rfl (y_call (v := Value.bool x27) hF H7 rfl (fun w hW => L09_awake_c any w _ h21 (hG.go0 hW))) (fun a w hF hW => ?_)
        refine ls hF hW rfl ((y_pick_t hF rfl rfl rfl).q) (fun a w hF hW => ?_)
        refine ls hF hW rfl ((y_assign hF rfl).q) (fun a w hF hW => ?_)
        refine ls_nil (c_then ?_)
        have hW := hW.sub (M' := [(b1, [.int .i64 p2.1, .int .i64 p2.2.1, .int .i64 p2.2.2.1, .int .i64 p2.2.2.2])]) (Z' := []) (List.Sublist.refl _) (List.nil_sublist _)
        exact ⟨_, H, hF.re ⟨rfl, trivial⟩, hW⟩
       ·
        have H := iteF (of_decide_eq_false hb) H
        rw [hb] at hF
        clear hb
        refine lsn hF rfl rfl rfl rfl rfl rfl rfl (fun a hF => ?_)
        refine ls hF hW rfl ((y_pick_f hF rfl rfl rfl).q) (fun a w hF hW => ?_)
        refine ls hF hW rfl ((y_assign hF rfl).q) (fun a w hF hW => ?_)
        refine ls_nil (c_then ?_)
        have hW := hW.sub (M' := [(b1, [.int .i64 p2.1, .int .i64 p2.2.1, .int .i64 p2.2.2.1, .int .i64 p2.2.2.2])]) (Z' := []) (List.Sublist.refl _) (List.nil_sublist _)
        exact ⟨_, H, hF.re ⟨rfl, trivial⟩, hW⟩
      ·
       have H := iteF (of_decide_eq_false hb) H
       rw [hb] at hF
       clear hb
       iterate 5 refine lsn hF rfl rfl rfl rfl rfl rfl rfl (fun a hF => ?_)
       refine ls hF hW rfl ((y_pick_f hF rfl rfl rfl).q) (fun a w hF hW => ?_)
       refine ls hF hW rfl ((y_move hF rfl).q) (fun a w hF hW => ?_)
       refine lsn hF rfl rfl rfl rfl rfl rfl rfl (fun a hF => ?_)
       refine ls hF hW rfl ((y_pick_f hF rfl rfl rfl).q) (fun a w hF hW => ?_)
       refine ls hF hW rfl ((y_assign hF rfl).q) (fun a w hF hW => ?_)
       refine ls_nil (c_then ?_)
       have hW := hW.sub (M' := [(b1, [.int .i64 p2.1, .int .i64 p2.2.1, .int .i64 p2.2.2.1, .int .i64 p2.2.2.2])]) (Z' := []) (List.Sublist.refl _) (List.nil_sublist _)
       exact ⟨_, H, hF.re ⟨rfl, trivial⟩, hW⟩
     ·
      have H := iteF (by rw [hb]; decide) H
      rw [hb] at hF
      clear hb
      iterate 5 refine lsn hF rfl rfl rfl rfl rfl rfl rfl (fun a hF => ?_)
      refine ls hF hW rfl ((y_pick_f hF rfl rfl rfl).q) (fun a w hF hW => ?_)
      refine ls hF hW rfl ((y_move hF rfl).q) (fun a w hF hW => ?_)
      iterate 5 refine lsn hF rfl rfl rfl rfl rfl rfl rfl (fun a hF => ?_)
      refine ls hF hW rfl ((y_pick_f hF rfl rfl rfl).q) (fun a w hF hW => ?_)
      refine ls hF hW rfl ((y_move hF rfl).q) (fun a w hF hW => ?_)
      refine lsn hF rfl rfl rfl rfl rfl rfl rfl (fun a hF => ?_)
      refine ls hF hW rfl ((y_pick_f hF rfl rfl rfl).q) (fun a w hF hW => ?_)
      refine ls hF hW rfl ((y_assign hF rfl).q) (fun a w hF hW => ?_)
      refine ls_nil (c_then ?_)
      have hW := hW.sub (M' := [(b1, [.int .i64 p2.1, .int .i64 p2.2.1, .int .i64 p2.2.2.1, .int .i64 p2.2.2.2])]) (Z' := []) (List.Sublist.refl _) (List.nil_sublist _)
      exact ⟨_, H, hF.re ⟨rfl, trivial⟩, hW⟩
    rintro a w ⟨x19, hj, hF, hW⟩
    have hj := Option.some.inj hj
    subst hj
    have H := K5
    clear G5 K5
    refine wr_ret ?_
    have H := Option.some.inj H
    subst H
    refine post1 (.inl rfl) hF hW rfl (rv_tmp hF rfl) ?_
    exact ⟨rfl, hW.done⟩

noncomputable def slices_Equal_api_Act_api_Act_l1 (p0 : List (Int × Int × Int)) (p1 : List (Int × Int × Int)) : Int → Option (Int ⊕ (Unit ⊕ Bool))
  | x1 => (if x1 < (p0.length : Int) then (ix p0 x1).bind fun x2 => (ix p1 x1).bind fun x3 => (if (!(decide (x2.1 = x3.1 ∧ x2.2.1 = x3.2.1 ∧ x2.2.2 = x3.2.2))) = true then some (.inr (.inr false)) else some (.inl (w64 (x1 + 1)))) else some (.inr (.inl ())))
noncomputable def slices_Equal_api_Act_api_Act (p0 : List (Int × Int × Int)) (p1 : List (Int × Int × Int)) : Option Bool := (if (p0.length : Int) ≠ (p1.length : Int) then some false else orR (loopW (slices_Equal_api_Act_api_Act_l1 p0 p1) 0) fun _ => some true)
theorem slices_Equal_api_Act_api_Act_c (Y : Nat → Prop) (w0 : World) (v1 : Value) (v2 : Value) (p0 : List (Int × Int × Int)) (p1 : List (Int × Int × Int)) (r : Bool) (H : slices_Equal_api_Act_api_Act p0 p1 = some r) (h_v1 : Sl w0 (NX []) R27 v1 p0) (h_v2 : Sl w0 (NX []) R27 v2 p1) :
    Calls Tryd.prog 46 #[v1, v2] w0 fun e w' => e = .returned (.bool r) ∧ Below w0.heap.size w0 w' := by
 refine enter Tryd.func46 rfl Tryd.ntmps46 rfl (fun a hF => ?_)
 have hW := Stw.start Y w0
 unfold slices_Equal_api_Act_api_Act at H
 refine c_seq (reg_list ?_)
 refine ls hF hW rfl ((y_assign hF rfl).q) (fun a w hF hW => ?_)
 refine ls_nil (c_then ?_)
 refine c_seq ?_
 refine c_seq (reg_list ?_)
 refine ls hF hW rfl ((y_move hF rfl).q) (fun a w hF hW => ?_)
 refine ls hF hW rfl ((y_len (r := R27) (l := p0) u22_ rfl hF rfl (rdc_ro h_v1)).q) (fun a w hF hW => ?_)
 refine ls hF hW rfl ((y_move hF rfl).q) (fun a w hF hW => ?_)
 refine ls hF hW rfl ((y_len (r := R27) (l := p1) u22_ rfl hF rfl (rdc_ro h_v2)).q) (fun a w hF hW => ?_)
 refine ls hF hW rfl ((y_neq hF rfl rfl).q) (fun a w hF hW => ?_)
 refine ls_nil (c_then ?_)
 refine c_cond hF rfl (fun hb => ?_) (fun hb => ?_)
 ·
  have H := iteT (of_decide_eq_true hb) H
  rw [hb] at hF
  clear hb
  refine c_seq (reg_list ?_)
  refine ls hF hW rfl ((y_assign hF rfl).q) (fun a w hF hW => ?_)
  refine ls_nil (c_then ?_)
  refine wr_ret ?_
  refine r_then ?_
  have H := Option.some.inj H
  subst H
  refine post1 (.inl rfl) hF hW rfl (rv_tmp hF rfl) ?_
  exact ⟨rfl, hW.done⟩
 ·
  have H := iteF (of_decide_eq_false hb) H
  rw [hb] at hF
  clear hb
  refine wr_skip ?_
  refine c_then ?_
  obtain ⟨o1, G1, K1, L1⟩ := orE H
  refine c_seqJ (fun a w => some (Sum.inl ()) = some o1 ∧ Fr 26 [] [(4, .bool false)] a ∧ Stw ⟨Y, [], w0⟩ [] [] w) ?_ ?_
  ·
   have H := G1
   clear G1 K1
   refine c_seq (reg_list ?_)
   refine ls hF hW rfl ((y_move hF rfl).q) (fun a w hF hW => ?_)
   refine ls hF hW rfl ((y_len (r := R27) (l := p0) u22_ rfl hF rfl (rdc_ro h_v1)).q) (fun a w hF hW => ?_)
   refine ls hF hW rfl ((y_move hF rfl).q) (fun a w hF hW => ?_)
   refine ls_nil (c_then ?_)
   refine wr_block ?_
   refine c_loopW H (fun s a w => Fr 26 [] [(0, v1), (1, v2), (4, .bool false), (12, .int .i64 (p0.length : Int)), (13, .int .i64 s)] a ∧ Stw ⟨Y, [], w0⟩ [] [] w) ⟨hF.re ⟨rfl, rfl, rfl, rfl, rfl, trivial⟩, hW⟩ (fun s o a w H L2 hR => ?_)
   obtain ⟨x1, rfl⟩ : ∃ x, x = s := ⟨s, rfl⟩
   obtain ⟨hF, hW⟩ := hR
   have hF : Fr 26 [] [(0, v1), (1, v2), (4, .bool false), (12, .int .i64 (p0.length : Int)), (13, .int .i64 x1)] a := hF
   have hW : Stw ⟨Y, [], w0⟩ [] [] w := hW
   rw [slices_Equal_api_Act_api_Act_l1] at H
   refine c_seq (reg_list ?_)
   refine ls hF hW rfl ((y_lss hF rfl rfl).q) (fun a w hF hW => ?_)
   refine ls_nil (c_then ?_)
   refine c_seq ?_
   refine c_cond hF rfl (fun hb => ?_) (fun hb => ?_)
   ·
    have H := iteT (of_decide_eq_true hb) H
    rw [hb] at hF
    clear hb
    refine wr_skip ?_
    refine c_then ?_
    refine c_seq ?_
    refine wr_block ?_
    refine c_seq (reg_list ?_)
    refine ls hF hW rfl ((y_move hF rfl).q) (fun a w hF hW => ?_)
    refine ls hF hW rfl ((y_assign hF rfl).q) (fun a w hF hW => ?_)
    refine ls_nil (c_then ?_)
    refine c_seq ?_
    refine reg_quiet hW MO (by kernel_rfl) ?_
    iterate 2 refine qs hF rfl ((y_move hF rfl).q) (fun a hF => ?_)
    obtain ⟨x2, h1, H⟩ := bindE H
    refine qs hF rfl ((y_index (r := R27) L22 hF rfl rfl (rdc_ro h_v1) h1).q) (fun a hF => ?_)
    refine qs hF rfl ((y_load_el (y := Value.agg #[.int .i64 x2.1, .int .i64 x2.2.1, .int .i64 x2.2.2]) (j := 0) (i := x1) hF rfl rfl (rdc_ro h_v1) h1 F27.to T27 rfl).q) (fun a hF => ?_)
    iterate 2 refine qs hF rfl ((y_move hF rfl).q) (fun a hF => ?_)
    obtain ⟨x3, h2, H⟩ := bindE H
    refine qs hF rfl ((y_index (r := R27) L22 hF rfl rfl (rdc_ro h_v2) h2).q) (fun a hF => ?_)
    refine qs hF rfl ((y_load_el (y := Value.agg #[.int .i64 x3.1, .int .i64 x3.2.1, .int .i64 x3.2.2]) (j := 0) (i := x1) hF rfl rfl (rdc_ro h_v2) h2 F27.to T27 rfl).q) (fun a hF => ?_)
    refine qs hF rfl ((y_nea (t := decide (x2.1 = x3.1 ∧ x2.2.1 = x3.2.1 ∧ x2.2.2 = x3.2.2)) G27 (Q27 _ _ _ _ _ _) hF rfl rfl).q) (fun a hF => ?_)
    refine quiet_end (fun w hW => ?_)
    refine c_then ?_
    refine c_cond hF rfl (fun hb => ?_) (fun hb => ?_)
    ·
     have H := iteT hb H
     rw [hb] at hF
     clear hb
     refine c_seq (reg_list ?_)
     refine ls hF hW rfl ((y_assign hF rfl).q) (fun a w hF hW => ?_)
     refine ls_nil (c_then ?_)
     refine wr_ret ?_
     refine r_block ?_
     iterate 2 refine r_then ?_
     refine r_block ?_
     refine r_then ?_
     have H := L2 _ H
     have H := L1 _ H
     have H := Option.some.inj H
     subst H
     refine post1 (.inl rfl) hF hW rfl (rv_tmp hF rfl) ?_
     exact ⟨rfl, hW.done⟩
    ·
     have H := iteF (by rw [hb]; decide) H
     rw [hb] at hF
     clear hb
     refine wr_skip ?_
     refine b_normal ?_
     refine c_then ?_
     refine reg_list ?_
     refine ls hF hW rfl ((y_add hF rfl rfl rfl).q) (fun a w hF hW => ?_)
     refine ls hF hW rfl ((y_move hF rfl).q) (fun a w hF hW => ?_)
     refine ls_nil (c_then ?_)
     exact ⟨_, H, hF.re ⟨rfl, rfl, rfl, rfl, rfl, trivial⟩, hW⟩
   ·
    have H := iteF (of_decide_eq_false hb) H
    rw [hb] at hF
    clear hb
    refine wr_exit ?_
    iterate 2 refine e_then ?_
    refine e_block ?_
    refine c_then ?_
    have H := L2 _ H
    exact ⟨H, hF.re ⟨rfl, trivial⟩, hW⟩
  rintro a w ⟨hj, hF, hW⟩
  have H := K1 _ hj
  clear hj G1 K1 L1
  refine c_seq (reg_list ?_)
  refine ls hF hW rfl ((y_assign hF rfl).q) (fun a w hF hW => ?_)
  refine ls_nil (c_then ?_)
  refine wr_ret ?_
  have H := Option.some.inj H
  subst H
  refine post1 (.inl rfl) hF hW rfl (rv_tmp hF rfl) ?_
  exact ⟨rfl, hW.done⟩

theorem H46 : Has Tryd.prog 46 := ⟨fun args w => run_callFunc_body Tryd.func46 rfl (by decide) args w⟩
noncomputable def act_Same (p0 : List (Int × Int × Int)) (p1 : List (Int × Int × Int)) : Option Bool := (slices_Equal_api_Act_api_Act p0 p1).bind fun x1 => some x1
theorem act_Same_c (Y : Nat → Prop) (w0 : World) (v1 : Value) (v2 : Value) (p0 : List (Int × Int × Int)) (p1 : List (Int × Int × Int)) (r : Bool) (H : act_Same p0 p1 = some r) (h_v1 : Sl w0 (NX []) R27 v1 p0) (h_v2 : Sl w0 (NX []) R27 v2 p1) :
    Calls Tryd.prog 23 #[v1, v2] w0 fun e w' => e = .returned (.bool r) ∧ Below w0.heap.size w0 w' := by
 refine enter Tryd.func23 rfl Tryd.ntmps23 rfl (fun a hF => ?_)
 have hW := Stw.start Y w0
 unfold act_Same at H
 refine c_seq (reg_list ?_)
 refine ls hF hW rfl ((y_assign hF rfl).q) (fun a w hF hW => ?_)
 refine ls_nil (c_then ?_)
 refine c_seq (reg_list ?_)
 iterate 2 refine ls hF hW rfl ((y_move hF rfl).q) (fun a w hF hW => ?_)
 obtain ⟨x1, h1, H⟩ := bindE H
 refine ls hF hW rfl (y_call (v := Value.bool x1) hF H46 rfl (fun w hW => slices_Equal_api_Act_api_Act_c any w (v1) (v2) p0 p1 _ h1 (((rdc_ro h_v1) : Rdc _ _ _ _ _ _) w hW).nx (((rdc_ro h_v2) : Rdc _ _ _ _ _ _) w hW).nx)) (fun a w hF hW => ?_)
 refine ls hF hW rfl ((y_assign hF rfl).q) (fun a w hF hW => ?_)
 refine ls_nil (c_then ?_)
 refine wr_ret ?_
 have H := Option.some.inj H
 subst H
 refine post1 (.inl rfl) hF hW rfl (rv_tmp hF rfl) ?_
 exact ⟨rfl, hW.done⟩

end Go.Proofs.YtefiglmpdajonaaDoor
