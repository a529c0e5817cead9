/- The functions of layer 5, lifted. Conditions: none. -/
import Derived.Test.YtnifdmdnifjilaaDoorRows
import Derived.Test.YtnifdmdnifjilaaDoorOT
namespace Go.Proofs.YtnifdmdnifjilaaDoor
open Go Go.RowKit
set_option linter.unusedVariables false
set_option linter.unusedSimpArgs false
def tab0 : Value := .slice (some ⟨0, 0, none⟩) 16 16
def tab0_l : List Int := [0, 8801531, 9098509, 825846, 9692897, 1419802, 1651692, 10452759, 10584377, 2608578, 2839604, 11344079, 3303384, 11807523, 12104405, 4128302]

theorem Ar37 : Ar Tryd.prog 37 16 22 1 := ⟨Tryd.underlying37, by kernel_rfl⟩
theorem T22 : Ty Tryd.prog 22 false 1 := ⟨by kernel_rfl, by kernel_rfl⟩
noncomputable def crc_shifted (p0 : Int) : Option Int := (ix tab0_l (shrI .u32 p0 20)).bind fun x1 => some (xorI .u32 (andI .u32 (shlI .u32 p0 4) 16777215) x1)
theorem crc_shifted_c (Y : Nat → Prop) (w0 : World)  (p0 : Int) (r : Int) (H : crc_shifted p0 = some r) (h_tab0 : Sl w0 (NX []) (Rp.int .u32) tab0 tab0_l) :
    Calls Tryd.prog 17 #[.int .u32 p0] w0 fun e w' => e = .returned (.int .u32 r) ∧ Below w0.heap.size w0 w' := by
  refine enter Tryd.func17 rfl Tryd.ntmps17 rfl (fun a hF => ?_)
  have hW := Stw.start Y w0
  unfold crc_shifted at H
  refine c_seq ?_
  refine reg_list ?_
  refine ls hF hW rfl ((y_assign hF rfl).q) (fun a w hF hW => ?_)
  refine ls_nil ?_
  refine c_then ?_
  refine c_seq ?_
  refine reg_list ?_
  refine ls hF hW rfl ((y_move hF rfl).q) (fun a w hF hW => ?_)
  refine ls hF hW rfl ((y_shl hF rfl rfl (by decide)).q) (fun a w hF hW => ?_)
  refine ls hF hW rfl ((y_and hF rfl rfl).q) (fun a w hF hW => ?_)
  refine ls hF hW rfl ((y_move hF rfl).q) (fun a w hF hW => ?_)
  refine ls hF hW rfl ((y_shr hF rfl rfl (by decide)).q) (fun a w hF hW => ?_)
  obtain ⟨x1, h1, H⟩ := bindE H
  refine ls hF hW rfl ((y_indexG (r := (Rp.int .u32)) Ar37 hF rfl rfl rfl rfl h1).q) (fun a w hF hW => ?_)
  refine ls hF hW rfl ((y_load_el (y := Value.int .u32 x1) (j := 0) (i := shrI .u32 p0 20) hF rfl rfl (rdc_ro h_tab0) h1 Fl.int.to T22 rfl).q) (fun a w hF hW => ?_)
  refine ls hF hW rfl ((y_xor hF rfl rfl).q) (fun a w hF hW => ?_)
  refine ls hF hW rfl ((y_assign hF rfl).q) (fun a w hF hW => ?_)
  refine ls_nil ?_
  refine c_then ?_
  refine wp_ret ?_
  have H := Option.some.inj H
  subst H
  refine post1 (.inl rfl) hF hW rfl (rv_tmp hF rfl) ?_
  exact ⟨rfl, hW.done⟩

theorem H17 : Has Tryd.prog 17 := ⟨fun args w => run_callFunc_body Tryd.func17 rfl (by decide) args w⟩
noncomputable def crc_More_l1 (p1 : List UInt8) : (Int × Int) → Option ((Int × Int) ⊕ Int)
  | (x2, x3) => (if x3 < (p1.length : Int) then (ix p1 x3).bind fun x4 => (crc_shifted (xorI .u32 x2 (shlI .u32 (IntKind.u32.wrap (x4.toNat : Int)) 16))).bind fun x5 => (crc_shifted x5).bind fun x6 => some (.inl (x6, w64 (x3 + 1))) else some (.inr x2))
noncomputable def crc_More (p0 : Int) (p1 : List UInt8) : Option Int := (loopW (crc_More_l1 p1) (andI .u32 p0 16777215, 0)).bind fun x1 => some x1
theorem crc_More_c (Y : Nat → Prop) (w0 : World)  (p0 : Int) (p1 : List UInt8) (r : Int) (H : crc_More p0 p1 = some r) (h_tab0 : Sl w0 (NX []) (Rp.int .u32) tab0 tab0_l) :
    Calls Tryd.prog 12 #[.int .u32 p0, .string (bs p1)] w0 fun e w' => e = .returned (.int .u32 r) ∧ Below w0.heap.size w0 w' := by
  refine enter Tryd.func12 rfl Tryd.ntmps12 rfl (fun a hF => ?_)
  have hW := Stw.start Y w0
  unfold crc_More at H
  refine c_seq ?_
  refine reg_list ?_
  refine ls hF hW rfl ((y_assign hF rfl).q) (fun a w hF hW => ?_)
  refine ls_nil ?_
  refine c_then ?_
  refine c_seq ?_
  refine reg_list ?_
  refine ls hF hW rfl ((y_move hF rfl).q) (fun a w hF hW => ?_)
  refine ls hF hW rfl ((y_and hF rfl rfl).q) (fun a w hF hW => ?_)
  refine ls hF hW rfl ((y_assign hF rfl).q) (fun a w hF hW => ?_)
  refine ls_nil ?_
  refine c_then ?_
  obtain ⟨o1, G1, K1⟩ := bindE H
  refine c_seqJ (fun a w => ∃ x1 : Int, some (x1) = some o1 ∧ Fr 25 [] [(0, .int .u32 x1), (4, .int .u32 0)] a ∧ Stw ⟨Y, [], w0⟩ [] [] w) ?_ ?_
  ·
    have H := G1
    clear G1 K1
    refine c_seq ?_
    refine reg_list ?_
    refine ls hF hW rfl ((y_move hF rfl).q) (fun a w hF hW => ?_)
    refine ls hF hW rfl ((y_slen (l := p1) Tryd.underlying9 rfl hF rfl).q) (fun a w hF hW => ?_)
    refine ls hF hW rfl ((y_move hF rfl).q) (fun a w hF hW => ?_)
    refine ls_nil ?_
    refine c_then ?_
    refine wp_block ?_
    refine c_loopW H (fun s a w => Fr 25 [] [(0, .int .u32 s.1), (1, .string (bs p1)), (4, .int .u32 0), (9, .int .i64 (p1.length : Int)), (10, .int .i64 s.2)] a ∧ Stw ⟨Y, [], w0⟩ [] [] w) ⟨hF.re ⟨rfl, rfl, rfl, rfl, rfl, trivial⟩, hW⟩ (fun s o a w H L2 hR => ?_)
    obtain ⟨x2, x3⟩ := s
    obtain ⟨hF, hW⟩ := hR
    have hF : Fr 25 [] [(0, .int .u32 x2), (1, .string (bs p1)), (4, .int .u32 0), (9, .int .i64 (p1.length : Int)), (10, .int .i64 x3)] a := hF
    have hW : Stw ⟨Y, [], w0⟩ [] [] w := hW
    rw [crc_More_l1] at H
    refine c_seq ?_
    refine reg_list ?_
    refine ls hF hW rfl ((y_lss hF rfl rfl).q) (fun a w hF hW => ?_)
    refine ls_nil ?_
    refine c_then ?_
    refine c_seq ?_
    refine c_cond hF rfl (fun hb => ?_) (fun hb => ?_)
    ·
      have H := iteT (of_decide_eq_true hb) H
      rw [hb] at hF
      clear hb
      refine wp_skip ?_
      refine c_then ?_
      refine c_seq ?_
      refine wp_block ?_
      refine c_seq ?_
      refine reg_list ?_
      refine ls hF hW rfl ((y_move hF rfl).q) (fun a w hF hW => ?_)
      refine ls hF hW rfl ((y_assign hF rfl).q) (fun a w hF hW => ?_)
      refine ls_nil ?_
      refine c_then ?_
      refine c_seq ?_
      refine reg_list ?_
      refine ls hF hW rfl ((y_move hF rfl).q) (fun a w hF hW => ?_)
      refine ls hF hW rfl ((y_move hF rfl).q) (fun a w hF hW => ?_)
      refine ls hF hW rfl ((y_move hF rfl).q) (fun a w hF hW => ?_)
      obtain ⟨x4, h1, H⟩ := bindE H
      refine ls hF hW rfl ((y_sindex (l := p1) Tryd.underlying9 hF rfl rfl h1).q) (fun a w hF hW => ?_)
      refine ls hF hW rfl ((y_convI Tryd.underlying5 Tryd.underlying22 hF rfl).q) (fun a w hF hW => ?_)
      refine ls hF hW rfl ((y_shl hF rfl rfl (by decide)).q) (fun a w hF hW => ?_)
      refine ls hF hW rfl ((y_xor hF rfl rfl).q) (fun a w hF hW => ?_)
      refine ls hF hW rfl ((y_assign hF rfl).q) (fun a w hF hW => ?_)
      refine ls_nil ?_
      refine c_then ?_
      refine reg_list ?_
      refine ls hF hW rfl ((y_move hF rfl).q) (fun a w hF hW => ?_)
      obtain ⟨x5, h2, H⟩ := bindE H
      refine ls hF hW rfl (y_call (v := Value.int .u32 x5) hF H17 rfl (fun w hW => crc_shifted_c any w (xorI .u32 x2 (shlI .u32 (IntKind.u32.wrap (x4.toNat : Int)) 16)) _ h2 (((rdc_ro h_tab0) : Rdc _ _ _ _ _ _) w hW).nx)) (fun a w hF hW => ?_)
      obtain ⟨x6, h3, H⟩ := bindE H
      refine ls hF hW rfl (y_call (v := Value.int .u32 x6) hF H17 rfl (fun w hW => crc_shifted_c any w x5 _ h3 (((rdc_ro h_tab0) : Rdc _ _ _ _ _ _) w hW).nx)) (fun a w hF hW => ?_)
      refine ls hF hW rfl ((y_assign hF rfl).q) (fun a w hF hW => ?_)
      refine ls_nil ?_
      refine b_normal ?_
      refine c_then ?_
      refine reg_list ?_
      refine ls hF hW rfl ((y_add hF rfl rfl rfl).q) (fun a w hF hW => ?_)
      refine ls hF hW rfl ((y_move hF rfl).q) (fun a w hF hW => ?_)
      refine ls_nil ?_
      refine c_then ?_
      exact ⟨_, H, hF.re ⟨rfl, rfl, rfl, rfl, rfl, trivial⟩, hW⟩
    ·
      have H := iteF (of_decide_eq_false hb) H
      rw [hb] at hF
      clear hb
      refine wp_exit ?_
      refine e_then ?_
      refine e_then ?_
      refine e_block ?_
      refine c_then ?_
      have H := L2 _ H
      exact ⟨_, H, hF.re ⟨rfl, rfl, trivial⟩, hW⟩
  rintro a w ⟨x1, hj, hF, hW⟩
  have hj := Option.some.inj hj
  subst hj
  have H := K1
  clear G1 K1
  refine c_seq ?_
  refine reg_list ?_
  refine ls hF hW rfl ((y_move hF rfl).q) (fun a w hF hW => ?_)
  refine ls hF hW rfl ((y_assign hF rfl).q) (fun a w hF hW => ?_)
  refine ls_nil ?_
  refine c_then ?_
  refine wp_ret ?_
  have H := Option.some.inj H
  subst H
  refine post1 (.inl rfl) hF hW rfl (rv_tmp hF rfl) ?_
  exact ⟨rfl, hW.done⟩

theorem H12 : Has Tryd.prog 12 := ⟨fun args w => run_callFunc_body Tryd.func12 rfl (by decide) args w⟩
noncomputable def crc_Sum (p0 : List UInt8) : Option Int := (crc_More 11994318 p0).bind fun x1 => some x1
theorem crc_Sum_c (Y : Nat → Prop) (w0 : World)  (p0 : List UInt8) (r : Int) (H : crc_Sum p0 = some r) (h_tab0 : Sl w0 (NX []) (Rp.int .u32) tab0 tab0_l) :
    Calls Tryd.prog 10 #[.string (bs p0)] w0 fun e w' => e = .returned (.int .u32 r) ∧ Below w0.heap.size w0 w' := by
  refine enter Tryd.func10 rfl Tryd.ntmps10 rfl (fun a hF => ?_)
  have hW := Stw.start Y w0
  unfold crc_Sum at H
  refine c_seq ?_
  refine reg_list ?_
  refine ls hF hW rfl ((y_assign hF rfl).q) (fun a w hF hW => ?_)
  refine ls_nil ?_
  refine c_then ?_
  refine c_seq ?_
  refine reg_list ?_
  refine ls hF hW rfl ((y_move hF rfl).q) (fun a w hF hW => ?_)
  obtain ⟨x1, h1, H⟩ := bindE H
  refine ls hF hW rfl (y_call (v := Value.int .u32 x1) hF H12 rfl (fun w hW => crc_More_c any w 11994318 p0 _ h1 (((rdc_ro h_tab0) : Rdc _ _ _ _ _ _) w hW).nx)) (fun a w hF hW => ?_)
  refine ls hF hW rfl ((y_assign hF rfl).q) (fun a w hF hW => ?_)
  refine ls_nil ?_
  refine c_then ?_
  refine wp_ret ?_
  have H := Option.some.inj H
  subst H
  refine post1 (.inl rfl) hF hW rfl (rv_tmp hF rfl) ?_
  exact ⟨rfl, hW.done⟩

theorem H10 : Has Tryd.prog 10 := ⟨fun args w => run_callFunc_body Tryd.func10 rfl (by decide) args w⟩
theorem Z5 : (Tryd.prog.info? 5).bind (·.zero) = some (.int .u8 0) := by kernel_rfl
theorem L32 : Et Tryd.prog 32 5 1 1 := Et.of Tryd.underlying32 (by kernel_rfl) (by kernel_rfl) (by kernel_rfl) (by decide)
noncomputable def crc_Seal (p0 : List UInt8) : Option (List UInt8) := (crc_Sum p0).bind fun x1 => (app p0 (strOf ([IntKind.u8.wrap (shrI .u32 x1 16), IntKind.u8.wrap (shrI .u32 x1 8), IntKind.u8.wrap x1] : List Int))).bind fun x2 => some x2
theorem crc_Seal_c (Y : Nat → Prop) (w0 : World)  (p0 : List UInt8) (r : List UInt8) (H : crc_Seal p0 = some r) (h_tab0 : Sl w0 (NX []) (Rp.int .u32) tab0 tab0_l) :
    Calls Tryd.prog 14 #[.string (bs p0)] w0 fun e w' => e = .returned (.string (bs r)) ∧ Below w0.heap.size w0 w' := by
  refine enter Tryd.func14 rfl Tryd.ntmps14 rfl (fun a hF => ?_)
  have hW := Stw.start Y w0
  unfold crc_Seal at H
  refine c_seq ?_
  refine reg_list ?_
  refine ls hF hW rfl ((y_assign (v := Value.string (bs ([] : List UInt8))) hF rfl).q) (fun a w hF hW => ?_)
  refine ls_nil ?_
  refine c_then ?_
  refine c_seq ?_
  refine reg_list ?_
  refine ls hF hW rfl ((y_move hF rfl).q) (fun a w hF hW => ?_)
  obtain ⟨x1, h1, H⟩ := bindE H
  refine ls hF hW rfl (y_call (v := Value.int .u32 x1) hF H10 rfl (fun w hW => crc_Sum_c any w p0 _ h1 (((rdc_ro h_tab0) : Rdc _ _ _ _ _ _) w hW).nx)) (fun a w hF hW => ?_)
  refine ls hF hW rfl ((y_assign hF rfl).q) (fun a w hF hW => ?_)
  refine ls_nil ?_
  refine c_then ?_
  refine c_seq ?_
  refine reg_list ?_
  refine ls hF hW rfl ((y_move hF rfl).q) (fun a w hF hW => ?_)
  refine ls hF hW rfl ((y_move hF rfl).q) (fun a w hF hW => ?_)
  refine ls hF hW rfl ((y_shr hF rfl rfl (by decide)).q) (fun a w hF hW => ?_)
  refine ls hF hW rfl ((y_convI Tryd.underlying22 Tryd.underlying5 hF rfl).q) (fun a w hF hW => ?_)
  refine ls hF hW rfl ((y_move hF rfl).q) (fun a w hF hW => ?_)
  refine ls hF hW rfl ((y_shr hF rfl rfl (by decide)).q) (fun a w hF hW => ?_)
  refine ls hF hW rfl ((y_convI Tryd.underlying22 Tryd.underlying5 hF rfl).q) (fun a w hF hW => ?_)
  refine ls hF hW rfl ((y_move hF rfl).q) (fun a w hF hW => ?_)
  refine ls hF hW rfl ((y_convI Tryd.underlying22 Tryd.underlying5 hF rfl).q) (fun a w hF hW => ?_)
  refine l_lit (z := Value.int .u8 0) (cs := [.int .u8 (IntKind.u8.wrap (shrI .u32 x1 16)), .int .u8 (IntKind.u8.wrap (shrI .u32 x1 8)), .int .u8 (IntKind.u8.wrap x1)]) (Rp.int .u8) ([IntKind.u8.wrap (shrI .u32 x1 16), IntKind.u8.wrap (shrI .u32 x1 8), IntKind.u8.wrap x1] : List Int) hF hW rfl L32 Z5 rfl rfl rfl rfl rfl rfl (Fl.int.repL _ _ ([IntKind.u8.wrap (shrI .u32 x1 16), IntKind.u8.wrap (shrI .u32 x1 8), IntKind.u8.wrap x1] : List Int)) (fun v1 a w hF hW => ?_)
  refine ls hF hW rfl ((y_convB (ns := ([IntKind.u8.wrap (shrI .u32 x1 16), IntKind.u8.wrap (shrI .u32 x1 8), IntKind.u8.wrap x1] : List Int)) Tryd.underlying32 Tryd.underlying5 Tryd.underlying9 hF rfl (rdc_row 0 rfl)).q) (fun a w hF hW => ?_)
  obtain ⟨x2, h2, H⟩ := bindE H
  refine ls hF hW rfl ((y_sadd (l := p0) (m := strOf ([IntKind.u8.wrap (shrI .u32 x1 16), IntKind.u8.wrap (shrI .u32 x1 8), IntKind.u8.wrap x1] : List Int)) hF rfl rfl h2).q) (fun a w hF hW => ?_)
  refine ls hF hW rfl ((y_assign hF rfl).q) (fun a w hF hW => ?_)
  refine ls_nil ?_
  refine c_then ?_
  refine wp_ret ?_
  have H := Option.some.inj H
  subst H
  refine post1 (.inl rfl) hF hW rfl (rv_tmp hF rfl) ?_
  exact ⟨rfl, hW.done⟩

theorem H14 : Has Tryd.prog 14 := ⟨fun args w => run_callFunc_body Tryd.func14 rfl (by decide) args w⟩
noncomputable def L05_awake  : Option Bool := ((crc_Sum ([49, 50, 51, 52, 53, 54, 55, 56, 57] : List UInt8)).bind fun x2 => (if x2 = 2215682 then (crc_Seal ([] : List UInt8)).bind fun x3 => some (decide (x3 = ([183, 4, 206] : List UInt8))) else some false)).bind fun x1 => some x1
theorem L05_awake_c (Y : Nat → Prop) (w0 : World)   (r : Bool) (H : L05_awake  = some r) (h_tab0 : Sl w0 (NX []) (Rp.int .u32) tab0 tab0_l) :
    Calls Tryd.prog 7 #[] w0 fun e w' => e = .returned (.bool r) ∧ Below w0.heap.size w0 w' := by
  refine enter Tryd.func7 rfl Tryd.ntmps7 rfl (fun a hF => ?_)
  have hW := Stw.start Y w0
  unfold L05_awake at H
  refine c_seq ?_
  refine reg_list ?_
  refine ls hF hW rfl ((y_assign hF rfl).q) (fun a w hF hW => ?_)
  refine ls_nil ?_
  refine c_then ?_
  obtain ⟨o1, G1, K1⟩ := bindE H
  refine c_seqJ (fun a w => ∃ x1 : Bool, some (x1) = some o1 ∧ Fr 7 [] [(0, .bool x1)] a ∧ Stw ⟨Y, [], w0⟩ [] [] w) ?_ ?_
  ·
    have H := G1
    clear G1 K1
    refine reg_list ?_
    obtain ⟨x2, h1, H⟩ := bindE H
    refine ls hF hW rfl (y_call (v := Value.int .u32 x2) hF H10 rfl (fun w hW => crc_Sum_c any w ([49, 50, 51, 52, 53, 54, 55, 56, 57] : List UInt8) _ h1 (((rdc_ro h_tab0) : Rdc _ _ _ _ _ _) w hW).nx)) (fun a w hF hW => ?_)
    refine ls hF hW rfl ((y_eql hF rfl rfl).q) (fun a w hF hW => ?_)
    refine ls hF hW rfl ((y_move hF rfl).q) (fun a w hF hW => ?_)
    rcases Bool.eq_false_or_eq_true (decide (x2 = 2215682)) with hb | hb
    ·
      have H := iteT (of_decide_eq_true hb) H
      rw [hb] at hF
      clear hb
      refine ls_g (wanted_y hF rfl rfl rfl rfl) ?_
      obtain ⟨x3, h2, H⟩ := bindE H
      refine ls hF hW rfl (y_call (v := Value.string (bs x3)) hF H14 rfl (fun w hW => crc_Seal_c any w ([] : List UInt8) _ h2 (((rdc_ro h_tab0) : Rdc _ _ _ _ _ _) w hW).nx)) (fun a w hF hW => ?_)
      refine ls_w hF hW (wanted_y hF rfl rfl rfl rfl) rfl (Nat.le_of_ble_eq_true rfl) ((y_seq (l := x3) (m := ([183, 4, 206] : List UInt8)) hF rfl rfl).q) (fun a w hF hW => ?_)
      refine ls hF hW rfl ((y_pick_t hF rfl rfl rfl).q) (fun a w hF hW => ?_)
      refine ls hF hW rfl ((y_assign hF rfl).q) (fun a w hF hW => ?_)
      refine ls_nil ?_
      refine c_then ?_
      exact ⟨_, H, hF.re ⟨rfl, trivial⟩, hW⟩
    ·
      have H := iteF (of_decide_eq_false hb) H
      rw [hb] at hF
      clear hb
      refine ls_skip hF (wanted_n hF rfl rfl rfl rfl rfl) rfl rfl (fun a hF => ?_)
      refine ls_skip hF (wanted_n hF rfl rfl rfl rfl rfl) rfl rfl (fun a hF => ?_)
      refine ls hF hW rfl ((y_pick_f hF rfl rfl rfl).q) (fun a w hF hW => ?_)
      refine ls hF hW rfl ((y_assign hF rfl).q) (fun a w hF hW => ?_)
      refine ls_nil ?_
      refine c_then ?_
      exact ⟨_, H, hF.re ⟨rfl, trivial⟩, hW⟩
  rintro a w ⟨x1, hj, hF, hW⟩
  have hj := Option.some.inj hj
  subst hj
  have H := K1
  clear G1 K1
  refine wp_ret ?_
  have H := Option.some.inj H
  subst H
  refine post1 (.inl rfl) hF hW rfl (rv_tmp hF rfl) ?_
  exact ⟨rfl, hW.done⟩

theorem H7 : Has Tryd.prog 7 := ⟨fun args w => run_callFunc_body Tryd.func7 rfl (by decide) args w⟩
noncomputable def crc_Open (p0 : List UInt8) : Option (List UInt8 × Bool) := (if (p0.length : Int) < 3 then some (([] : List UInt8), false) else (subl p0 0 (w64 ((p0.length : Int) - 3))).bind fun x1 => (crc_Seal x1).bind fun x2 => (if x2 ≠ p0 then some (([] : List UInt8), false) else some (x1, true)))
theorem crc_Open_c (Y : Nat → Prop) (w0 : World)  (p0 : List UInt8) (r : List UInt8 × Bool) (H : crc_Open p0 = some r) (h_tab0 : Sl w0 (NX []) (Rp.int .u32) tab0 tab0_l) :
    Calls Tryd.prog 8 #[.string (bs p0)] w0 fun e w' => e = .returned (.tuple #[.string (bs r.1), .bool r.2]) ∧ Below w0.heap.size w0 w' := by
  refine enter Tryd.func8 rfl Tryd.ntmps8 rfl (fun a hF => ?_)
  have hW := Stw.start Y w0
  unfold crc_Open at H
  refine c_seq ?_
  refine reg_list ?_
  refine ls hF hW rfl ((y_assign (v := Value.string (bs ([] : List UInt8))) hF rfl).q) (fun a w hF hW => ?_)
  refine ls hF hW rfl ((y_assign hF rfl).q) (fun a w hF hW => ?_)
  refine ls_nil ?_
  refine c_then ?_
  refine c_seq ?_
  refine c_seq ?_
  refine reg_list ?_
  refine ls hF hW rfl ((y_move hF rfl).q) (fun a w hF hW => ?_)
  refine ls hF hW rfl ((y_slen (l := p0) Tryd.underlying9 rfl hF rfl).q) (fun a w hF hW => ?_)
  refine ls hF hW rfl ((y_lss hF rfl rfl).q) (fun a w hF hW => ?_)
  refine ls_nil ?_
  refine c_then ?_
  refine c_cond hF rfl (fun hb => ?_) (fun hb => ?_)
  ·
    have H := iteT (of_decide_eq_true hb) H
    rw [hb] at hF
    clear hb
    refine c_seq ?_
    refine reg_list ?_
    refine ls hF hW rfl ((y_assign (v := Value.string (bs ([] : List UInt8))) hF rfl).q) (fun a w hF hW => ?_)
    refine ls hF hW rfl ((y_assign hF rfl).q) (fun a w hF hW => ?_)
    refine ls_nil ?_
    refine c_then ?_
    refine wp_ret ?_
    refine r_then ?_
    have H := Option.some.inj H
    subst H
    refine post2 (.inl rfl) hF hW rfl (rv_tmp hF rfl) (rv_tmp hF rfl) ?_
    exact ⟨rfl, hW.done⟩
  ·
    have H := iteF (of_decide_eq_false hb) H
    rw [hb] at hF
    clear hb
    refine wp_skip ?_
    refine c_then ?_
    refine c_seq ?_
    refine reg_list ?_
    refine ls hF hW rfl ((y_move hF rfl).q) (fun a w hF hW => ?_)
    refine ls hF hW rfl ((y_move hF rfl).q) (fun a w hF hW => ?_)
    refine ls hF hW rfl ((y_slen (l := p0) Tryd.underlying9 rfl hF rfl).q) (fun a w hF hW => ?_)
    refine ls hF hW rfl ((y_sub hF rfl rfl rfl).q) (fun a w hF hW => ?_)
    obtain ⟨x1, h1, H⟩ := bindE H
    refine ls hF hW rfl ((y_sslice (l := p0) Tryd.underlying9 hF rfl rfl rfl h1).q) (fun a w hF hW => ?_)
    refine ls hF hW rfl ((y_assign hF rfl).q) (fun a w hF hW => ?_)
    refine ls_nil ?_
    refine c_then ?_
    refine c_seq ?_
    refine c_seq ?_
    refine reg_list ?_
    refine ls hF hW rfl ((y_move hF rfl).q) (fun a w hF hW => ?_)
    obtain ⟨x2, h2, H⟩ := bindE H
    refine ls hF hW rfl (y_call (v := Value.string (bs x2)) hF H14 rfl (fun w hW => crc_Seal_c any w x1 _ h2 (((rdc_ro h_tab0) : Rdc _ _ _ _ _ _) w hW).nx)) (fun a w hF hW => ?_)
    refine ls hF hW rfl ((y_move hF rfl).q) (fun a w hF hW => ?_)
    refine ls hF hW rfl ((y_sne (l := x2) (m := p0) hF rfl rfl).q) (fun a w hF hW => ?_)
    refine ls_nil ?_
    refine c_then ?_
    refine c_cond hF rfl (fun hb => ?_) (fun hb => ?_)
    ·
      have H := iteT (of_decide_eq_true hb) H
      rw [hb] at hF
      clear hb
      refine c_seq ?_
      refine reg_list ?_
      refine ls hF hW rfl ((y_assign (v := Value.string (bs ([] : List UInt8))) hF rfl).q) (fun a w hF hW => ?_)
      refine ls hF hW rfl ((y_assign hF rfl).q) (fun a w hF hW => ?_)
      refine ls_nil ?_
      refine c_then ?_
      refine wp_ret ?_
      refine r_then ?_
      have H := Option.some.inj H
      subst H
      refine post2 (.inl rfl) hF hW rfl (rv_tmp hF rfl) (rv_tmp hF rfl) ?_
      exact ⟨rfl, hW.done⟩
    ·
      have H := iteF (of_decide_eq_false hb) H
      rw [hb] at hF
      clear hb
      refine wp_skip ?_
      refine c_then ?_
      refine c_seq ?_
      refine reg_list ?_
      refine ls hF hW rfl ((y_move hF rfl).q) (fun a w hF hW => ?_)
      refine ls hF hW rfl ((y_assign hF rfl).q) (fun a w hF hW => ?_)
      refine ls hF hW rfl ((y_assign hF rfl).q) (fun a w hF hW => ?_)
      refine ls_nil ?_
      refine c_then ?_
      refine wp_ret ?_
      have H := Option.some.inj H
      subst H
      refine post2 (.inl rfl) hF hW rfl (rv_tmp hF rfl) (rv_tmp hF rfl) ?_
      exact ⟨rfl, hW.done⟩

theorem H8 : Has Tryd.prog 8 := ⟨fun args w => run_callFunc_body Tryd.func8 rfl (by decide) args w⟩
noncomputable def r05_More_l2 (p1 : List UInt8) (x3 : Int) : (Int × Int) → Option ((Int × Int) ⊕ Int)
  | (x5, x6) => (if 0 ≤ x6 then ((ix p1 x3).bind fun x8 => (shN (shrI .u32 (IntKind.u32.wrap (x8.toNat : Int)) (IntKind.u64.wrap x6)) (IntKind.u64.wrap x6)).bind fun x9 => (if (IntKind.u32.wrap (Int.tdiv x5 8388608)) ≠ (Int.tmod x9 2) then some (xorI .u32 (Int.tmod (IntKind.u32.wrap (x5 * 2)) 16777216) 8801531) else some (Int.tmod (IntKind.u32.wrap (x5 * 2)) 16777216))).bind fun x7 => some (.inl (x7, w64 (x6 - 1))) else some (.inr x5))
noncomputable def r05_More_l1 (p1 : List UInt8) : (Int × Int) → Option ((Int × Int) ⊕ Int)
  | (x2, x3) => (if x3 < (p1.length : Int) then (loopW (r05_More_l2 p1 x3) (x2, 7)).bind fun x4 => some (.inl (x4, w64 (x3 + 1))) else some (.inr x2))
noncomputable def r05_More (p0 : Int) (p1 : List UInt8) : Option Int := (loopW (r05_More_l1 p1) (Int.tmod p0 16777216, 0)).bind fun x1 => some x1
theorem r05_More_c (Y : Nat → Prop) (w0 : World)  (p0 : Int) (p1 : List UInt8) (r : Int) (H : r05_More p0 p1 = some r)  :
    Calls Tryd.prog 13 #[.int .u32 p0, .string (bs p1)] w0 fun e w' => e = .returned (.int .u32 r) ∧ Below w0.heap.size w0 w' := by
  refine enter Tryd.func13 rfl Tryd.ntmps13 rfl (fun a hF => ?_)
  have hW := Stw.start Y w0
  unfold r05_More at H
  refine c_seq ?_
  refine reg_list ?_
  refine ls hF hW rfl ((y_assign hF rfl).q) (fun a w hF hW => ?_)
  refine ls_nil ?_
  refine c_then ?_
  refine c_seq ?_
  refine reg_list ?_
  refine ls hF hW rfl ((y_move hF rfl).q) (fun a w hF hW => ?_)
  refine ls hF hW rfl ((y_rem hF rfl rfl (by decide) rfl).q) (fun a w hF hW => ?_)
  refine ls hF hW rfl ((y_assign hF rfl).q) (fun a w hF hW => ?_)
  refine ls_nil ?_
  refine c_then ?_
  obtain ⟨o1, G1, K1⟩ := bindE H
  refine c_seqJ (fun a w => ∃ x1 : Int, some (x1) = some o1 ∧ Fr 40 [] [(0, .int .u32 x1), (4, .int .u32 0)] a ∧ Stw ⟨Y, [], w0⟩ [] [] w) ?_ ?_
  ·
    have H := G1
    clear G1 K1
    refine c_seq ?_
    refine reg_list ?_
    refine ls hF hW rfl ((y_assign hF rfl).q) (fun a w hF hW => ?_)
    refine ls_nil ?_
    refine c_then ?_
    refine wp_block ?_
    refine c_loopW H (fun s a w => Fr 40 [] [(0, .int .u32 s.1), (1, .string (bs p1)), (4, .int .u32 0), (5, .int .i64 s.2)] a ∧ Stw ⟨Y, [], w0⟩ [] [] w) ⟨hF.re ⟨rfl, rfl, rfl, rfl, trivial⟩, hW⟩ (fun s o a w H L2 hR => ?_)
    obtain ⟨x2, x3⟩ := s
    obtain ⟨hF, hW⟩ := hR
    have hF : Fr 40 [] [(0, .int .u32 x2), (1, .string (bs p1)), (4, .int .u32 0), (5, .int .i64 x3)] a := hF
    have hW : Stw ⟨Y, [], w0⟩ [] [] w := hW
    rw [r05_More_l1] at H
    refine c_seq ?_
    refine c_seq ?_
    refine reg_list ?_
    refine ls hF hW rfl ((y_move hF rfl).q) (fun a w hF hW => ?_)
    refine ls hF hW rfl ((y_move hF rfl).q) (fun a w hF hW => ?_)
    refine ls hF hW rfl ((y_slen (l := p1) Tryd.underlying9 rfl hF rfl).q) (fun a w hF hW => ?_)
    refine ls hF hW rfl ((y_lss hF rfl rfl).q) (fun a w hF hW => ?_)
    refine ls_nil ?_
    refine c_then ?_
    refine c_cond hF rfl (fun hb => ?_) (fun hb => ?_)
    ·
      have H := iteT (of_decide_eq_true hb) H
      rw [hb] at hF
      clear hb
      refine wp_skip ?_
      refine c_then ?_
      obtain ⟨o3, G3, K3⟩ := bindE H
      refine c_seqJ (fun a w => ∃ x4 : Int, some (x4) = some o3 ∧ Fr 40 [] [(0, .int .u32 x4), (1, .string (bs p1)), (4, .int .u32 0), (5, .int .i64 x3)] a ∧ Stw ⟨Y, [], w0⟩ [] [] w) ?_ ?_
      ·
        have H := G3
        clear G3 K3
        refine wp_block ?_
        refine c_seq ?_
        refine reg_list ?_
        refine ls hF hW rfl ((y_assign hF rfl).q) (fun a w hF hW => ?_)
        refine ls_nil ?_
        refine c_then ?_
        refine wp_block ?_
        refine c_loopW H (fun s a w => Fr 40 [] [(0, .int .u32 s.1), (1, .string (bs p1)), (4, .int .u32 0), (5, .int .i64 x3), (6, .int .i64 s.2)] a ∧ Stw ⟨Y, [], w0⟩ [] [] w) ⟨hF.re ⟨rfl, rfl, rfl, rfl, rfl, trivial⟩, hW⟩ (fun s o a w H L4 hR => ?_)
        obtain ⟨x5, x6⟩ := s
        obtain ⟨hF, hW⟩ := hR
        have hF : Fr 40 [] [(0, .int .u32 x5), (1, .string (bs p1)), (4, .int .u32 0), (5, .int .i64 x3), (6, .int .i64 x6)] a := hF
        have hW : Stw ⟨Y, [], w0⟩ [] [] w := hW
        rw [r05_More_l2] at H
        refine c_seq ?_
        refine c_seq ?_
        refine reg_list ?_
        refine ls hF hW rfl ((y_move hF rfl).q) (fun a w hF hW => ?_)
        refine ls hF hW rfl ((y_geq hF rfl rfl).q) (fun a w hF hW => ?_)
        refine ls_nil ?_
        refine c_then ?_
        refine c_cond hF rfl (fun hb => ?_) (fun hb => ?_)
        ·
          have H := iteT (of_decide_eq_true hb) H
          rw [hb] at hF
          clear hb
          refine wp_skip ?_
          refine c_then ?_
          obtain ⟨o5, G5, K5⟩ := bindE H
          refine c_seqJ (fun a w => ∃ x7 : Int, some (x7) = some o5 ∧ Fr 40 [] [(0, .int .u32 x7), (1, .string (bs p1)), (4, .int .u32 0), (5, .int .i64 x3), (6, .int .i64 x6)] a ∧ Stw ⟨Y, [], w0⟩ [] [] w) ?_ ?_
          ·
            have H := G5
            clear G5 K5
            refine wp_block ?_
            refine c_seq ?_
            refine reg_list ?_
            refine ls hF hW rfl ((y_move hF rfl).q) (fun a w hF hW => ?_)
            refine ls hF hW rfl ((y_move hF rfl).q) (fun a w hF hW => ?_)
            obtain ⟨x8, h1, H⟩ := bindE H
            refine ls hF hW rfl ((y_sindex (l := p1) Tryd.underlying9 hF rfl rfl h1).q) (fun a w hF hW => ?_)
            refine ls hF hW rfl ((y_convI Tryd.underlying5 Tryd.underlying22 hF rfl).q) (fun a w hF hW => ?_)
            refine ls hF hW rfl ((y_move hF rfl).q) (fun a w hF hW => ?_)
            refine ls hF hW rfl ((y_convI Tryd.underlying3 Tryd.underlying35 hF rfl).q) (fun a w hF hW => ?_)
            obtain ⟨x9, h2, H⟩ := bindE H
            refine ls hF hW rfl ((y_shc (shN_some h2).2 (y_shr hF rfl rfl (shN_some h2).1)).q) (fun a w hF hW => ?_)
            refine ls hF hW rfl ((y_rem hF rfl rfl (by decide) rfl).q) (fun a w hF hW => ?_)
            refine ls hF hW rfl ((y_assign hF rfl).q) (fun a w hF hW => ?_)
            refine ls_nil ?_
            refine c_then ?_
            refine c_seq ?_
            refine reg_list ?_
            refine ls hF hW rfl ((y_move hF rfl).q) (fun a w hF hW => ?_)
            refine ls hF hW rfl ((y_quo hF rfl rfl (by decide) rfl).q) (fun a w hF hW => ?_)
            refine ls hF hW rfl ((y_assign hF rfl).q) (fun a w hF hW => ?_)
            refine ls_nil ?_
            refine c_then ?_
            refine c_seq ?_
            refine reg_list ?_
            refine ls hF hW rfl ((y_move hF rfl).q) (fun a w hF hW => ?_)
            refine ls hF hW rfl ((y_mul hF rfl rfl rfl).q) (fun a w hF hW => ?_)
            refine ls hF hW rfl ((y_rem hF rfl rfl (by decide) rfl).q) (fun a w hF hW => ?_)
            refine ls hF hW rfl ((y_assign hF rfl).q) (fun a w hF hW => ?_)
            refine ls_nil ?_
            refine c_then ?_
            refine c_seq ?_
            refine reg_list ?_
            refine ls hF hW rfl ((y_move hF rfl).q) (fun a w hF hW => ?_)
            refine ls hF hW rfl ((y_move hF rfl).q) (fun a w hF hW => ?_)
            refine ls hF hW rfl ((y_neq hF rfl rfl).q) (fun a w hF hW => ?_)
            refine ls_nil ?_
            refine c_then ?_
            refine c_cond hF rfl (fun hb => ?_) (fun hb => ?_)
            ·
              have H := iteT (of_decide_eq_true hb) H
              rw [hb] at hF
              clear hb
              refine reg_list ?_
              refine ls hF hW rfl ((y_move hF rfl).q) (fun a w hF hW => ?_)
              refine ls hF hW rfl ((y_xor hF rfl rfl).q) (fun a w hF hW => ?_)
              refine ls hF hW rfl ((y_assign hF rfl).q) (fun a w hF hW => ?_)
              refine ls_nil ?_
              refine b_normal ?_
              refine c_then ?_
              exact ⟨_, H, hF.re ⟨rfl, rfl, rfl, rfl, rfl, trivial⟩, hW⟩
            ·
              have H := iteF (of_decide_eq_false hb) H
              rw [hb] at hF
              clear hb
              refine wp_skip ?_
              refine b_normal ?_
              refine c_then ?_
              exact ⟨_, H, hF.re ⟨rfl, rfl, rfl, rfl, rfl, trivial⟩, hW⟩
          rintro a w ⟨x7, hj, hF, hW⟩
          have hj := Option.some.inj hj
          subst hj
          have H := K5
          clear G5 K5
          refine reg_list ?_
          refine ls hF hW rfl ((y_move hF rfl).q) (fun a w hF hW => ?_)
          refine ls hF hW rfl ((y_sub hF rfl rfl rfl).q) (fun a w hF hW => ?_)
          refine ls hF hW rfl ((y_assign hF rfl).q) (fun a w hF hW => ?_)
          refine ls_nil ?_
          refine c_then ?_
          exact ⟨_, H, hF.re ⟨rfl, rfl, rfl, rfl, rfl, trivial⟩, hW⟩
        ·
          have H := iteF (of_decide_eq_false hb) H
          rw [hb] at hF
          clear hb
          refine wp_exit ?_
          refine e_then ?_
          refine e_then ?_
          refine e_block ?_
          refine b_normal ?_
          refine c_then ?_
          have H := L4 _ H
          exact ⟨_, H, hF.re ⟨rfl, rfl, rfl, rfl, trivial⟩, hW⟩
      rintro a w ⟨x4, hj, hF, hW⟩
      have hj := Option.some.inj hj
      subst hj
      have H := K3
      clear G3 K3
      refine reg_list ?_
      refine ls hF hW rfl ((y_move hF rfl).q) (fun a w hF hW => ?_)
      refine ls hF hW rfl ((y_add hF rfl rfl rfl).q) (fun a w hF hW => ?_)
      refine ls hF hW rfl ((y_assign hF rfl).q) (fun a w hF hW => ?_)
      refine ls_nil ?_
      refine c_then ?_
      exact ⟨_, H, hF.re ⟨rfl, rfl, rfl, rfl, trivial⟩, hW⟩
    ·
      have H := iteF (of_decide_eq_false hb) H
      rw [hb] at hF
      clear hb
      refine wp_exit ?_
      refine e_then ?_
      refine e_then ?_
      refine e_block ?_
      refine c_then ?_
      have H := L2 _ H
      exact ⟨_, H, hF.re ⟨rfl, rfl, trivial⟩, hW⟩
  rintro a w ⟨x1, hj, hF, hW⟩
  have hj := Option.some.inj hj
  subst hj
  have H := K1
  clear G1 K1
  refine c_seq ?_
  refine reg_list ?_
  refine ls hF hW rfl ((y_move hF rfl).q) (fun a w hF hW => ?_)
  refine ls hF hW rfl ((y_assign hF rfl).q) (fun a w hF hW => ?_)
  refine ls_nil ?_
  refine c_then ?_
  refine wp_ret ?_
  have H := Option.some.inj H
  subst H
  refine post1 (.inl rfl) hF hW rfl (rv_tmp hF rfl) ?_
  exact ⟨rfl, hW.done⟩

theorem H13 : Has Tryd.prog 13 := ⟨fun args w => run_callFunc_body Tryd.func13 rfl (by decide) args w⟩
noncomputable def r05_Sum (p0 : List UInt8) : Option Int := (r05_More 11994318 p0).bind fun x1 => some x1
theorem r05_Sum_c (Y : Nat → Prop) (w0 : World)  (p0 : List UInt8) (r : Int) (H : r05_Sum p0 = some r)  :
    Calls Tryd.prog 11 #[.string (bs p0)] w0 fun e w' => e = .returned (.int .u32 r) ∧ Below w0.heap.size w0 w' := by
  refine enter Tryd.func11 rfl Tryd.ntmps11 rfl (fun a hF => ?_)
  have hW := Stw.start Y w0
  unfold r05_Sum at H
  refine c_seq ?_
  refine reg_list ?_
  refine ls hF hW rfl ((y_assign hF rfl).q) (fun a w hF hW => ?_)
  refine ls_nil ?_
  refine c_then ?_
  refine c_seq ?_
  refine reg_list ?_
  refine ls hF hW rfl ((y_move hF rfl).q) (fun a w hF hW => ?_)
  obtain ⟨x1, h1, H⟩ := bindE H
  refine ls hF hW rfl (y_call (v := Value.int .u32 x1) hF H13 rfl (fun w hW => r05_More_c any w 11994318 p0 _ h1)) (fun a w hF hW => ?_)
  refine ls hF hW rfl ((y_assign hF rfl).q) (fun a w hF hW => ?_)
  refine ls_nil ?_
  refine c_then ?_
  refine wp_ret ?_
  have H := Option.some.inj H
  subst H
  refine post1 (.inl rfl) hF hW rfl (rv_tmp hF rfl) ?_
  exact ⟨rfl, hW.done⟩

theorem H11 : Has Tryd.prog 11 := ⟨fun args w => run_callFunc_body Tryd.func11 rfl (by decide) args w⟩
noncomputable def r05_Seal (p0 : List UInt8) : Option (List UInt8) := (r05_Sum p0).bind fun x1 => (app p0 (strOf ([IntKind.u8.wrap (IntKind.u32.wrap (Int.tdiv x1 65536)), IntKind.u8.wrap (Int.tmod (IntKind.u32.wrap (Int.tdiv x1 256)) 256), IntKind.u8.wrap (Int.tmod x1 256)] : List Int))).bind fun x2 => some x2
theorem r05_Seal_c (Y : Nat → Prop) (w0 : World)  (p0 : List UInt8) (r : List UInt8) (H : r05_Seal p0 = some r)  :
    Calls Tryd.prog 15 #[.string (bs p0)] w0 fun e w' => e = .returned (.string (bs r)) ∧ Below w0.heap.size w0 w' := by
  refine enter Tryd.func15 rfl Tryd.ntmps15 rfl (fun a hF => ?_)
  have hW := Stw.start Y w0
  unfold r05_Seal at H
  refine c_seq ?_
  refine reg_list ?_
  refine ls hF hW rfl ((y_assign (v := Value.string (bs ([] : List UInt8))) hF rfl).q) (fun a w hF hW => ?_)
  refine ls_nil ?_
  refine c_then ?_
  refine c_seq ?_
  refine reg_list ?_
  refine ls hF hW rfl ((y_move hF rfl).q) (fun a w hF hW => ?_)
  obtain ⟨x1, h1, H⟩ := bindE H
  refine ls hF hW rfl (y_call (v := Value.int .u32 x1) hF H11 rfl (fun w hW => r05_Sum_c any w p0 _ h1)) (fun a w hF hW => ?_)
  refine ls hF hW rfl ((y_assign hF rfl).q) (fun a w hF hW => ?_)
  refine ls_nil ?_
  refine c_then ?_
  refine c_seq ?_
  refine reg_list ?_
  refine ls hF hW rfl ((y_move hF rfl).q) (fun a w hF hW => ?_)
  refine ls hF hW rfl ((y_move hF rfl).q) (fun a w hF hW => ?_)
  refine ls hF hW rfl ((y_quo hF rfl rfl (by decide) rfl).q) (fun a w hF hW => ?_)
  refine ls hF hW rfl ((y_convI Tryd.underlying22 Tryd.underlying5 hF rfl).q) (fun a w hF hW => ?_)
  refine ls hF hW rfl ((y_move hF rfl).q) (fun a w hF hW => ?_)
  refine ls hF hW rfl ((y_quo hF rfl rfl (by decide) rfl).q) (fun a w hF hW => ?_)
  refine ls hF hW rfl ((y_rem hF rfl rfl (by decide) rfl).q) (fun a w hF hW => ?_)
  refine ls hF hW rfl ((y_convI Tryd.underlying22 Tryd.underlying5 hF rfl).q) (fun a w hF hW => ?_)
  refine ls hF hW rfl ((y_move hF rfl).q) (fun a w hF hW => ?_)
  refine ls hF hW rfl ((y_rem hF rfl rfl (by decide) rfl).q) (fun a w hF hW => ?_)
  refine ls hF hW rfl ((y_convI Tryd.underlying22 Tryd.underlying5 hF rfl).q) (fun a w hF hW => ?_)
  refine l_lit (z := Value.int .u8 0) (cs := [.int .u8 (IntKind.u8.wrap (IntKind.u32.wrap (Int.tdiv x1 65536))), .int .u8 (IntKind.u8.wrap (Int.tmod (IntKind.u32.wrap (Int.tdiv x1 256)) 256)), .int .u8 (IntKind.u8.wrap (Int.tmod x1 256))]) (Rp.int .u8) ([IntKind.u8.wrap (IntKind.u32.wrap (Int.tdiv x1 65536)), IntKind.u8.wrap (Int.tmod (IntKind.u32.wrap (Int.tdiv x1 256)) 256), IntKind.u8.wrap (Int.tmod x1 256)] : List Int) hF hW rfl L32 Z5 rfl rfl rfl rfl rfl rfl (Fl.int.repL _ _ ([IntKind.u8.wrap (IntKind.u32.wrap (Int.tdiv x1 65536)), IntKind.u8.wrap (Int.tmod (IntKind.u32.wrap (Int.tdiv x1 256)) 256), IntKind.u8.wrap (Int.tmod x1 256)] : List Int)) (fun v1 a w hF hW => ?_)
  refine ls hF hW rfl ((y_convB (ns := ([IntKind.u8.wrap (IntKind.u32.wrap (Int.tdiv x1 65536)), IntKind.u8.wrap (Int.tmod (IntKind.u32.wrap (Int.tdiv x1 256)) 256), IntKind.u8.wrap (Int.tmod x1 256)] : List Int)) Tryd.underlying32 Tryd.underlying5 Tryd.underlying9 hF rfl (rdc_row 0 rfl)).q) (fun a w hF hW => ?_)
  obtain ⟨x2, h2, H⟩ := bindE H
  refine ls hF hW rfl ((y_sadd (l := p0) (m := strOf ([IntKind.u8.wrap (IntKind.u32.wrap (Int.tdiv x1 65536)), IntKind.u8.wrap (Int.tmod (IntKind.u32.wrap (Int.tdiv x1 256)) 256), IntKind.u8.wrap (Int.tmod x1 256)] : List Int)) hF rfl rfl h2).q) (fun a w hF hW => ?_)
  refine ls hF hW rfl ((y_assign hF rfl).q) (fun a w hF hW => ?_)
  refine ls_nil ?_
  refine c_then ?_
  refine wp_ret ?_
  have H := Option.some.inj H
  subst H
  refine post1 (.inl rfl) hF hW rfl (rv_tmp hF rfl) ?_
  exact ⟨rfl, hW.done⟩

theorem H15 : Has Tryd.prog 15 := ⟨fun args w => run_callFunc_body Tryd.func15 rfl (by decide) args w⟩
noncomputable def r05_Open (p0 : List UInt8) : Option (List UInt8 × Bool) := (if (p0.length : Int) < 3 then some (([] : List UInt8), false) else (subl p0 0 (w64 ((p0.length : Int) - 3))).bind fun x1 => (r05_Seal x1).bind fun x2 => some (x1, decide (x2 = p0)))
theorem r05_Open_c (Y : Nat → Prop) (w0 : World)  (p0 : List UInt8) (r : List UInt8 × Bool) (H : r05_Open p0 = some r)  :
    Calls Tryd.prog 9 #[.string (bs p0)] w0 fun e w' => e = .returned (.tuple #[.string (bs r.1), .bool r.2]) ∧ Below w0.heap.size w0 w' := by
  refine enter Tryd.func9 rfl Tryd.ntmps9 rfl (fun a hF => ?_)
  have hW := Stw.start Y w0
  unfold r05_Open at H
  refine c_seq ?_
  refine reg_list ?_
  refine ls hF hW rfl ((y_assign (v := Value.string (bs ([] : List UInt8))) hF rfl).q) (fun a w hF hW => ?_)
  refine ls hF hW rfl ((y_assign hF rfl).q) (fun a w hF hW => ?_)
  refine ls_nil ?_
  refine c_then ?_
  refine c_seq ?_
  refine c_seq ?_
  refine reg_list ?_
  refine ls hF hW rfl ((y_move hF rfl).q) (fun a w hF hW => ?_)
  refine ls hF hW rfl ((y_slen (l := p0) Tryd.underlying9 rfl hF rfl).q) (fun a w hF hW => ?_)
  refine ls hF hW rfl ((y_lss hF rfl rfl).q) (fun a w hF hW => ?_)
  refine ls_nil ?_
  refine c_then ?_
  refine c_cond hF rfl (fun hb => ?_) (fun hb => ?_)
  ·
    have H := iteT (of_decide_eq_true hb) H
    rw [hb] at hF
    clear hb
    refine c_seq ?_
    refine reg_list ?_
    refine ls hF hW rfl ((y_assign (v := Value.string (bs ([] : List UInt8))) hF rfl).q) (fun a w hF hW => ?_)
    refine ls hF hW rfl ((y_assign hF rfl).q) (fun a w hF hW => ?_)
    refine ls_nil ?_
    refine c_then ?_
    refine wp_ret ?_
    refine r_then ?_
    have H := Option.some.inj H
    subst H
    refine post2 (.inl rfl) hF hW rfl (rv_tmp hF rfl) (rv_tmp hF rfl) ?_
    exact ⟨rfl, hW.done⟩
  ·
    have H := iteF (of_decide_eq_false hb) H
    rw [hb] at hF
    clear hb
    refine wp_skip ?_
    refine c_then ?_
    refine c_seq ?_
    refine reg_list ?_
    refine ls hF hW rfl ((y_move hF rfl).q) (fun a w hF hW => ?_)
    refine ls hF hW rfl ((y_move hF rfl).q) (fun a w hF hW => ?_)
    refine ls hF hW rfl ((y_slen (l := p0) Tryd.underlying9 rfl hF rfl).q) (fun a w hF hW => ?_)
    refine ls hF hW rfl ((y_sub hF rfl rfl rfl).q) (fun a w hF hW => ?_)
    obtain ⟨x1, h1, H⟩ := bindE H
    refine ls hF hW rfl ((y_sslice (l := p0) Tryd.underlying9 hF rfl rfl rfl h1).q) (fun a w hF hW => ?_)
    refine ls hF hW rfl ((y_assign hF rfl).q) (fun a w hF hW => ?_)
    refine ls_nil ?_
    refine c_then ?_
    refine c_seq ?_
    refine reg_list ?_
    refine ls hF hW rfl ((y_move hF rfl).q) (fun a w hF hW => ?_)
    refine ls hF hW rfl ((y_move hF rfl).q) (fun a w hF hW => ?_)
    obtain ⟨x2, h2, H⟩ := bindE H
    refine ls hF hW rfl (y_call (v := Value.string (bs x2)) hF H15 rfl (fun w hW => r05_Seal_c any w x1 _ h2)) (fun a w hF hW => ?_)
    refine ls hF hW rfl ((y_move hF rfl).q) (fun a w hF hW => ?_)
    refine ls hF hW rfl ((y_seq (l := x2) (m := p0) hF rfl rfl).q) (fun a w hF hW => ?_)
    refine ls hF hW rfl ((y_assign hF rfl).q) (fun a w hF hW => ?_)
    refine ls hF hW rfl ((y_assign hF rfl).q) (fun a w hF hW => ?_)
    refine ls_nil ?_
    refine c_then ?_
    refine wp_ret ?_
    have H := Option.some.inj H
    subst H
    refine post2 (.inl rfl) hF hW rfl (rv_tmp hF rfl) (rv_tmp hF rfl) ?_
    exact ⟨rfl, hW.done⟩

theorem H9 : Has Tryd.prog 9 := ⟨fun args w => run_callFunc_body Tryd.func9 rfl (by decide) args w⟩
noncomputable def L05_CrcTells (p0 : List UInt8) (p1 : Int) : Option Bool := (if 2000 < (p0.length : Int) then (L05_awake).bind fun x1 => some x1 else (crc_Open p0).bind fun x2 => (r05_Open p0).bind fun x3 => (if (decide (x2.2 ≠ x3.2) || (bif x2.2 then decide (x2.1 ≠ x3.1) else decide (x2.1 ≠ ([] : List UInt8)))) = true then some false else ((crc_Sum p0).bind fun x5 => (r05_Sum p0).bind fun x6 => (if x5 = x6 then (crc_More p1 p0).bind fun x7 => (r05_More p1 p0).bind fun x8 => (if x7 = x8 then (crc_Seal p0).bind fun x9 => (r05_Seal p0).bind fun x10 => (if x9 = x10 then (L05_awake).bind fun x11 => some x11 else some false) else some false) else some false)).bind fun x4 => some x4))
theorem L05_CrcTells_c (Y : Nat → Prop) (w0 : World)  (p0 : List UInt8) (p1 : Int) (r : Bool) (H : L05_CrcTells p0 p1 = some r) (h_tab0 : Sl w0 (NX []) (Rp.int .u32) tab0 tab0_l) :
    Calls Tryd.prog 3 #[.string (bs p0), .int .u32 p1] w0 fun e w' => e = .returned (.bool r) ∧ Below w0.heap.size w0 w' := by
  refine enter Tryd.func3 rfl Tryd.ntmps3 rfl (fun a hF => ?_)
  have hW := Stw.start Y w0
  unfold L05_CrcTells at H
  refine c_seq ?_
  refine reg_list ?_
  refine ls hF hW rfl ((y_assign hF rfl).q) (fun a w hF hW => ?_)
  refine ls_nil ?_
  refine c_then ?_
  refine c_seq ?_
  refine c_seq ?_
  refine reg_list ?_
  refine ls hF hW rfl ((y_move hF rfl).q) (fun a w hF hW => ?_)
  refine ls hF hW rfl ((y_slen (l := p0) Tryd.underlying9 rfl hF rfl).q) (fun a w hF hW => ?_)
  refine ls hF hW rfl ((y_gtr hF rfl rfl).q) (fun a w hF hW => ?_)
  refine ls_nil ?_
  refine c_then ?_
  refine c_cond hF rfl (fun hb => ?_) (fun hb => ?_)
  ·
    have H := iteT (of_decide_eq_true hb) H
    rw [hb] at hF
    clear hb
    refine c_seq ?_
    refine reg_list ?_
    obtain ⟨x1, h1, H⟩ := bindE H
    refine ls hF hW rfl (y_call (v := Value.bool x1) hF H7 rfl (fun w hW => L05_awake_c any w _ h1 (((rdc_ro h_tab0) : Rdc _ _ _ _ _ _) w hW).nx)) (fun a w hF hW => ?_)
    refine ls hF hW rfl ((y_assign hF rfl).q) (fun a w hF hW => ?_)
    refine ls_nil ?_
    refine c_then ?_
    refine wp_ret ?_
    refine r_then ?_
    have H := Option.some.inj H
    subst H
    refine post1 (.inl rfl) hF hW rfl (rv_tmp hF rfl) ?_
    exact ⟨rfl, hW.done⟩
  ·
    have H := iteF (of_decide_eq_false hb) H
    rw [hb] at hF
    clear hb
    refine wp_skip ?_
    refine c_then ?_
    refine c_seq ?_
    refine reg_list ?_
    refine ls hF hW rfl ((y_move hF rfl).q) (fun a w hF hW => ?_)
    obtain ⟨x2, h2, H⟩ := bindE H
    refine ls hF hW rfl (y_call (v := Value.tuple #[.string (bs x2.1), .bool x2.2]) hF H8 rfl (fun w hW => crc_Open_c any w p0 _ h2 (((rdc_ro h_tab0) : Rdc _ _ _ _ _ _) w hW).nx)) (fun a w hF hW => ?_)
    refine ls hF hW rfl ((y_move hF rfl).q) (fun a w hF hW => ?_)
    refine ls hF hW rfl ((y_extract (v := Value.string (bs x2.1)) hF rfl rfl).q) (fun a w hF hW => ?_)
    refine ls hF hW rfl ((y_extract (v := Value.bool x2.2) hF rfl rfl).q) (fun a w hF hW => ?_)
    refine ls hF hW rfl ((y_assign hF rfl).q) (fun a w hF hW => ?_)
    refine ls hF hW rfl ((y_assign hF rfl).q) (fun a w hF hW => ?_)
    refine ls_nil ?_
    refine c_then ?_
    refine c_seq ?_
    refine reg_list ?_
    refine ls hF hW rfl ((y_move hF rfl).q) (fun a w hF hW => ?_)
    obtain ⟨x3, h3, H⟩ := bindE H
    refine ls hF hW rfl (y_call (v := Value.tuple #[.string (bs x3.1), .bool x3.2]) hF H9 rfl (fun w hW => r05_Open_c any w p0 _ h3)) (fun a w hF hW => ?_)
    refine ls hF hW rfl ((y_move hF rfl).q) (fun a w hF hW => ?_)
    refine ls hF hW rfl ((y_extract (v := Value.string (bs x3.1)) hF rfl rfl).q) (fun a w hF hW => ?_)
    refine ls hF hW rfl ((y_extract (v := Value.bool x3.2) hF rfl rfl).q) (fun a w hF hW => ?_)
    refine ls hF hW rfl ((y_assign hF rfl).q) (fun a w hF hW => ?_)
    refine ls hF hW rfl ((y_assign hF rfl).q) (fun a w hF hW => ?_)
    refine ls_nil ?_
    refine c_then ?_
    refine c_seq ?_
    refine c_seqJ (fun a w => Fr 66 [] [(0, .string (bs p0)), (1, .int .u32 p1), (4, .bool false), (41, .bool (decide (x2.2 ≠ x3.2) || (bif x2.2 then decide (x2.1 ≠ x3.1) else decide (x2.1 ≠ ([] : List UInt8)))))] a ∧ Stw ⟨Y, [], w0⟩ [] [] w) ?_ ?_
    ·
      refine reg_list ?_
      refine ls hF hW rfl ((y_move hF rfl).q) (fun a w hF hW => ?_)
      refine ls hF hW rfl ((y_move hF rfl).q) (fun a w hF hW => ?_)
      refine ls hF hW rfl ((y_neb Tryd.underlying4 hF rfl rfl).q) (fun a w hF hW => ?_)
      refine ls hF hW rfl ((y_move hF rfl).q) (fun a w hF hW => ?_)
      rcases Bool.eq_false_or_eq_true (decide (x2.2 ≠ x3.2)) with hb0 | hb0
      ·
        rw [hb0] at hF
        refine ls_skip hF (wanted_n hF rfl rfl rfl rfl rfl) rfl rfl (fun a hF => ?_)
        refine ls_skip hF (wanted_n hF rfl rfl rfl rfl rfl) rfl rfl (fun a hF => ?_)
        refine ls_skip hF (wanted_undef hF rfl rfl rfl rfl) rfl rfl (fun a hF => ?_)
        refine ls_skip hF (wanted_undef hF rfl rfl rfl rfl) rfl rfl (fun a hF => ?_)
        refine ls_skip hF (wanted_undef hF rfl rfl rfl rfl) rfl rfl (fun a hF => ?_)
        refine ls_skip hF (wanted_n hF rfl rfl rfl rfl rfl) rfl rfl (fun a hF => ?_)
        refine ls hF hW rfl ((y_pick_t hF rfl rfl rfl).q) (fun a w hF hW => ?_)
        refine ls hF hW rfl ((y_move hF rfl).q) (fun a w hF hW => ?_)
        refine ls_skip hF (wanted_n hF rfl rfl rfl rfl rfl) rfl rfl (fun a hF => ?_)
        refine ls_skip hF (wanted_n hF rfl rfl rfl rfl rfl) rfl rfl (fun a hF => ?_)
        refine ls_skip hF (wanted_n hF rfl rfl rfl rfl rfl) rfl rfl (fun a hF => ?_)
        refine ls_skip hF (wanted_undef hF rfl rfl rfl rfl) rfl rfl (fun a hF => ?_)
        refine ls_skip hF (wanted_undef hF rfl rfl rfl rfl) rfl rfl (fun a hF => ?_)
        refine ls_skip hF (wanted_n hF rfl rfl rfl rfl rfl) rfl rfl (fun a hF => ?_)
        refine ls hF hW rfl ((y_pick_t hF rfl rfl rfl).q) (fun a w hF hW => ?_)
        refine ls_nil ?_
        refine c_then ?_
        exact ⟨hF.re ⟨rfl, rfl, rfl, (by show some (Value.bool true) = some (Value.bool (decide (x2.2 ≠ x3.2) || (bif x2.2 then decide (x2.1 ≠ x3.1) else decide (x2.1 ≠ ([] : List UInt8))))); try rw [hb0]; all_goals simp only [Bool.not_true, Bool.not_false, Bool.true_and, Bool.false_and, Bool.true_or, Bool.false_or, Bool.and_true, Bool.or_false, cond_true, cond_false]), trivial⟩, hW⟩
      ·
        rw [hb0] at hF
        refine ls_w hF hW (wanted_y hF rfl rfl rfl rfl) rfl (Nat.le_of_ble_eq_true rfl) ((y_move hF rfl).q) (fun a w hF hW => ?_)
        refine ls_w hF hW (wanted_y hF rfl rfl rfl rfl) rfl (Nat.le_of_ble_eq_true rfl) ((y_move hF rfl).q) (fun a w hF hW => ?_)
        rcases Bool.eq_false_or_eq_true x2.2 with hb1 | hb1
        ·
          rw [hb1] at hF
          refine ls_w hF hW (wanted_y hF rfl rfl rfl rfl) rfl (Nat.le_of_ble_eq_true rfl) ((y_move hF rfl).q) (fun a w hF hW => ?_)
          refine ls_w hF hW (wanted_y hF rfl rfl rfl rfl) rfl (Nat.le_of_ble_eq_true rfl) ((y_move hF rfl).q) (fun a w hF hW => ?_)
          refine ls_w hF hW (wanted_y hF rfl rfl rfl rfl) rfl (Nat.le_of_ble_eq_true rfl) ((y_sne (l := x2.1) (m := x3.1) hF rfl rfl).q) (fun a w hF hW => ?_)
          refine ls_w hF hW (wanted_y hF rfl rfl rfl rfl) rfl (Nat.le_of_ble_eq_true rfl) ((y_pick_t hF rfl rfl rfl).q) (fun a w hF hW => ?_)
          refine ls hF hW rfl ((y_pick_f hF rfl rfl rfl).q) (fun a w hF hW => ?_)
          refine ls hF hW rfl ((y_move hF rfl).q) (fun a w hF hW => ?_)
          rcases Bool.eq_false_or_eq_true (decide (x2.1 ≠ x3.1)) with hb2 | hb2
          ·
            rw [hb2] at hF
            refine ls_skip hF (wanted_n hF rfl rfl rfl rfl rfl) rfl rfl (fun a hF => ?_)
            refine ls_skip hF (wanted_n hF rfl rfl rfl rfl rfl) rfl rfl (fun a hF => ?_)
            refine ls_skip hF (wanted_n hF rfl rfl rfl rfl rfl) rfl rfl (fun a hF => ?_)
            refine ls_skip hF (wanted_undef hF rfl rfl rfl rfl) rfl rfl (fun a hF => ?_)
            refine ls_skip hF (wanted_undef hF rfl rfl rfl rfl) rfl rfl (fun a hF => ?_)
            refine ls_skip hF (wanted_n hF rfl rfl rfl rfl rfl) rfl rfl (fun a hF => ?_)
            refine ls hF hW rfl ((y_pick_t hF rfl rfl rfl).q) (fun a w hF hW => ?_)
            refine ls_nil ?_
            refine c_then ?_
            exact ⟨hF.re ⟨rfl, rfl, rfl, (by show some (Value.bool true) = some (Value.bool (decide (x2.2 ≠ x3.2) || (bif x2.2 then decide (x2.1 ≠ x3.1) else decide (x2.1 ≠ ([] : List UInt8))))); try rw [hb0]; try rw [hb2]; try rw [hb1]; all_goals simp only [Bool.not_true, Bool.not_false, Bool.true_and, Bool.false_and, Bool.true_or, Bool.false_or, Bool.and_true, Bool.or_false, cond_true, cond_false]), trivial⟩, hW⟩
          ·
            rw [hb2] at hF
            refine ls_w hF hW (wanted_y hF rfl rfl rfl rfl) rfl (Nat.le_of_ble_eq_true rfl) ((y_move hF rfl).q) (fun a w hF hW => ?_)
            refine ls_w hF hW (wanted_y hF rfl rfl rfl rfl) rfl (Nat.le_of_ble_eq_true rfl) ((y_not hF rfl).q) (fun a w hF hW => ?_)
            refine ls_w hF hW (wanted_y hF rfl rfl rfl rfl) rfl (Nat.le_of_ble_eq_true rfl) ((y_move hF rfl).q) (fun a w hF hW => ?_)
            refine ls_skip hF (wanted_n hF rfl rfl rfl rfl rfl) rfl rfl (fun a hF => ?_)
            refine ls_skip hF (wanted_n hF rfl rfl rfl rfl rfl) rfl rfl (fun a hF => ?_)
            refine ls_w hF hW (wanted_y hF rfl rfl rfl rfl) rfl (Nat.le_of_ble_eq_true rfl) ((y_pick_f hF rfl rfl rfl).q) (fun a w hF hW => ?_)
            refine ls hF hW rfl ((y_pick_f hF rfl rfl rfl).q) (fun a w hF hW => ?_)
            refine ls_nil ?_
            refine c_then ?_
            exact ⟨hF.re ⟨rfl, rfl, rfl, (by show some (Value.bool false) = some (Value.bool (decide (x2.2 ≠ x3.2) || (bif x2.2 then decide (x2.1 ≠ x3.1) else decide (x2.1 ≠ ([] : List UInt8))))); try rw [hb0]; try rw [hb2]; try rw [hb1]; all_goals simp only [Bool.not_true, Bool.not_false, Bool.true_and, Bool.false_and, Bool.true_or, Bool.false_or, Bool.and_true, Bool.or_false, cond_true, cond_false]), trivial⟩, hW⟩
        ·
          rw [hb1] at hF
          refine ls_skip hF (wanted_n hF rfl rfl rfl rfl rfl) rfl rfl (fun a hF => ?_)
          refine ls_skip hF (wanted_n hF rfl rfl rfl rfl rfl) rfl rfl (fun a hF => ?_)
          refine ls_skip hF (wanted_n hF rfl rfl rfl rfl rfl) rfl rfl (fun a hF => ?_)
          refine ls_w hF hW (wanted_y hF rfl rfl rfl rfl) rfl (Nat.le_of_ble_eq_true rfl) ((y_pick_f hF rfl rfl rfl).q) (fun a w hF hW => ?_)
          refine ls hF hW rfl ((y_pick_f hF rfl rfl rfl).q) (fun a w hF hW => ?_)
          refine ls hF hW rfl ((y_move hF rfl).q) (fun a w hF hW => ?_)
          refine ls_w hF hW (wanted_y hF rfl rfl rfl rfl) rfl (Nat.le_of_ble_eq_true rfl) ((y_move hF rfl).q) (fun a w hF hW => ?_)
          refine ls_w hF hW (wanted_y hF rfl rfl rfl rfl) rfl (Nat.le_of_ble_eq_true rfl) ((y_not hF rfl).q) (fun a w hF hW => ?_)
          refine ls_w hF hW (wanted_y hF rfl rfl rfl rfl) rfl (Nat.le_of_ble_eq_true rfl) ((y_move hF rfl).q) (fun a w hF hW => ?_)
          refine ls_w hF hW (wanted_y hF rfl rfl rfl rfl) rfl (Nat.le_of_ble_eq_true rfl) ((y_move hF rfl).q) (fun a w hF hW => ?_)
          refine ls_w hF hW (wanted_y hF rfl rfl rfl rfl) rfl (Nat.le_of_ble_eq_true rfl) ((y_sne (l := x2.1) (m := ([] : List UInt8)) hF rfl rfl).q) (fun a w hF hW => ?_)
          refine ls_w hF hW (wanted_y hF rfl rfl rfl rfl) rfl (Nat.le_of_ble_eq_true rfl) ((y_pick_t hF rfl rfl rfl).q) (fun a w hF hW => ?_)
          refine ls hF hW rfl ((y_pick_f hF rfl rfl rfl).q) (fun a w hF hW => ?_)
          refine ls_nil ?_
          refine c_then ?_
          exact ⟨hF.re ⟨rfl, rfl, rfl, (by show some (Value.bool (decide (x2.1 ≠ ([] : List UInt8)))) = some (Value.bool (decide (x2.2 ≠ x3.2) || (bif x2.2 then decide (x2.1 ≠ x3.1) else decide (x2.1 ≠ ([] : List UInt8))))); try rw [hb0]; try rw [hb1]; all_goals simp only [Bool.not_true, Bool.not_false, Bool.true_and, Bool.false_and, Bool.true_or, Bool.false_or, Bool.and_true, Bool.or_false, cond_true, cond_false]), trivial⟩, hW⟩
    rintro a w ⟨hF, hW⟩
    refine c_cond hF rfl (fun hb => ?_) (fun hb => ?_)
    ·
      have H := iteT hb H
      rw [hb] at hF
      clear hb
      refine c_seq ?_
      refine reg_list ?_
      refine ls hF hW rfl ((y_assign hF rfl).q) (fun a w hF hW => ?_)
      refine ls_nil ?_
      refine c_then ?_
      refine wp_ret ?_
      refine r_then ?_
      have H := Option.some.inj H
      subst H
      refine post1 (.inl rfl) hF hW rfl (rv_tmp hF rfl) ?_
      exact ⟨rfl, hW.done⟩
    ·
      have H := iteF (by rw [hb]; decide) H
      rw [hb] at hF
      clear hb
      refine wp_skip ?_
      refine c_then ?_
      obtain ⟨o1, G1, K1⟩ := bindE H
      refine c_seqJ (fun a w => ∃ x4 : Bool, some (x4) = some o1 ∧ Fr 66 [] [(4, .bool x4)] a ∧ Stw ⟨Y, [], w0⟩ [] [] w) ?_ ?_
      ·
        have H := G1
        clear G1 K1
        refine reg_list ?_
        refine ls hF hW rfl ((y_move hF rfl).q) (fun a w hF hW => ?_)
        obtain ⟨x5, h4, H⟩ := bindE H
        refine ls hF hW rfl (y_call (v := Value.int .u32 x5) hF H10 rfl (fun w hW => crc_Sum_c any w p0 _ h4 (((rdc_ro h_tab0) : Rdc _ _ _ _ _ _) w hW).nx)) (fun a w hF hW => ?_)
        refine ls hF hW rfl ((y_move hF rfl).q) (fun a w hF hW => ?_)
        obtain ⟨x6, h5, H⟩ := bindE H
        refine ls hF hW rfl (y_call (v := Value.int .u32 x6) hF H11 rfl (fun w hW => r05_Sum_c any w p0 _ h5)) (fun a w hF hW => ?_)
        refine ls hF hW rfl ((y_eql hF rfl rfl).q) (fun a w hF hW => ?_)
        refine ls hF hW rfl ((y_move hF rfl).q) (fun a w hF hW => ?_)
        rcases Bool.eq_false_or_eq_true (decide (x5 = x6)) with hb | hb
        ·
          have H := iteT (of_decide_eq_true hb) H
          rw [hb] at hF
          clear hb
          refine ls_w hF hW (wanted_y hF rfl rfl rfl rfl) rfl (Nat.le_of_ble_eq_true rfl) ((y_move hF rfl).q) (fun a w hF hW => ?_)
          refine ls_w hF hW (wanted_y hF rfl rfl rfl rfl) rfl (Nat.le_of_ble_eq_true rfl) ((y_move hF rfl).q) (fun a w hF hW => ?_)
          refine ls_g (wanted_y hF rfl rfl rfl rfl) ?_
          obtain ⟨x7, h6, H⟩ := bindE H
          refine ls hF hW rfl (y_call (v := Value.int .u32 x7) hF H12 rfl (fun w hW => crc_More_c any w p1 p0 _ h6 (((rdc_ro h_tab0) : Rdc _ _ _ _ _ _) w hW).nx)) (fun a w hF hW => ?_)
          refine ls_w hF hW (wanted_y hF rfl rfl rfl rfl) rfl (Nat.le_of_ble_eq_true rfl) ((y_move hF rfl).q) (fun a w hF hW => ?_)
          refine ls_w hF hW (wanted_y hF rfl rfl rfl rfl) rfl (Nat.le_of_ble_eq_true rfl) ((y_move hF rfl).q) (fun a w hF hW => ?_)
          refine ls_g (wanted_y hF rfl rfl rfl rfl) ?_
          obtain ⟨x8, h7, H⟩ := bindE H
          refine ls hF hW rfl (y_call (v := Value.int .u32 x8) hF H13 rfl (fun w hW => r05_More_c any w p1 p0 _ h7)) (fun a w hF hW => ?_)
          refine ls_w hF hW (wanted_y hF rfl rfl rfl rfl) rfl (Nat.le_of_ble_eq_true rfl) ((y_eql hF rfl rfl).q) (fun a w hF hW => ?_)
          refine ls hF hW rfl ((y_pick_t hF rfl rfl rfl).q) (fun a w hF hW => ?_)
          refine ls hF hW rfl ((y_move hF rfl).q) (fun a w hF hW => ?_)
          rcases Bool.eq_false_or_eq_true (decide (x7 = x8)) with hb | hb
          ·
            have H := iteT (of_decide_eq_true hb) H
            rw [hb] at hF
            clear hb
            refine ls_w hF hW (wanted_y hF rfl rfl rfl rfl) rfl (Nat.le_of_ble_eq_true rfl) ((y_move hF rfl).q) (fun a w hF hW => ?_)
            refine ls_g (wanted_y hF rfl rfl rfl rfl) ?_
            obtain ⟨x9, h8, H⟩ := bindE H
            refine ls hF hW rfl (y_call (v := Value.string (bs x9)) hF H14 rfl (fun w hW => crc_Seal_c any w p0 _ h8 (((rdc_ro h_tab0) : Rdc _ _ _ _ _ _) w hW).nx)) (fun a w hF hW => ?_)
            refine ls_w hF hW (wanted_y hF rfl rfl rfl rfl) rfl (Nat.le_of_ble_eq_true rfl) ((y_move hF rfl).q) (fun a w hF hW => ?_)
            refine ls_g (wanted_y hF rfl rfl rfl rfl) ?_
            obtain ⟨x10, h9, H⟩ := bindE H
            refine ls hF hW rfl (y_call (v := Value.string (bs x10)) hF H15 rfl (fun w hW => r05_Seal_c any w p0 _ h9)) (fun a w hF hW => ?_)
            refine ls_w hF hW (wanted_y hF rfl rfl rfl rfl) rfl (Nat.le_of_ble_eq_true rfl) ((y_seq (l := x9) (m := x10) hF rfl rfl).q) (fun a w hF hW => ?_)
            refine ls hF hW rfl ((y_pick_t hF rfl rfl rfl).q) (fun a w hF hW => ?_)
            refine ls hF hW rfl ((y_move hF rfl).q) (fun a w hF hW => ?_)
            rcases Bool.eq_false_or_eq_true (decide (x9 = x10)) with hb | hb
            ·
              have H := iteT (of_decide_eq_true hb) H
              rw [hb] at hF
              clear hb
              refine ls_g (wanted_y hF rfl rfl rfl rfl) ?_
              obtain ⟨x11, h10, H⟩ := bindE H
              refine ls hF hW rfl (y_call (v := Value.bool x11) hF H7 rfl (fun w hW => L05_awake_c any w _ h10 (((rdc_ro h_tab0) : Rdc _ _ _ _ _ _) w hW).nx)) (fun a w hF hW => ?_)
              refine ls hF hW rfl ((y_pick_t hF rfl rfl rfl).q) (fun a w hF hW => ?_)
              refine ls hF hW rfl ((y_assign hF rfl).q) (fun a w hF hW => ?_)
              refine ls_nil ?_
              refine c_then ?_
              exact ⟨_, H, hF.re ⟨rfl, trivial⟩, hW⟩
            ·
              have H := iteF (of_decide_eq_false hb) H
              rw [hb] at hF
              clear hb
              refine ls_skip hF (wanted_n hF rfl rfl rfl rfl rfl) rfl rfl (fun a hF => ?_)
              refine ls hF hW rfl ((y_pick_f hF rfl rfl rfl).q) (fun a w hF hW => ?_)
              refine ls hF hW rfl ((y_assign hF rfl).q) (fun a w hF hW => ?_)
              refine ls_nil ?_
              refine c_then ?_
              exact ⟨_, H, hF.re ⟨rfl, trivial⟩, hW⟩
          ·
            have H := iteF (of_decide_eq_false hb) H
            rw [hb] at hF
            clear hb
            refine ls_skip hF (wanted_n hF rfl rfl rfl rfl rfl) rfl rfl (fun a hF => ?_)
            refine ls_skip hF (wanted_n hF rfl rfl rfl rfl rfl) rfl rfl (fun a hF => ?_)
            refine ls_skip hF (wanted_n hF rfl rfl rfl rfl rfl) rfl rfl (fun a hF => ?_)
            refine ls_skip hF (wanted_n hF rfl rfl rfl rfl rfl) rfl rfl (fun a hF => ?_)
            refine ls_skip hF (wanted_n hF rfl rfl rfl rfl rfl) rfl rfl (fun a hF => ?_)
            refine ls hF hW rfl ((y_pick_f hF rfl rfl rfl).q) (fun a w hF hW => ?_)
            refine ls hF hW rfl ((y_move hF rfl).q) (fun a w hF hW => ?_)
            refine ls_skip hF (wanted_n hF rfl rfl rfl rfl rfl) rfl rfl (fun a hF => ?_)
            refine ls hF hW rfl ((y_pick_f hF rfl rfl rfl).q) (fun a w hF hW => ?_)
            refine ls hF hW rfl ((y_assign hF rfl).q) (fun a w hF hW => ?_)
            refine ls_nil ?_
            refine c_then ?_
            exact ⟨_, H, hF.re ⟨rfl, trivial⟩, hW⟩
        ·
          have H := iteF (of_decide_eq_false hb) H
          rw [hb] at hF
          clear hb
          refine ls_skip hF (wanted_n hF rfl rfl rfl rfl rfl) rfl rfl (fun a hF => ?_)
          refine ls_skip hF (wanted_n hF rfl rfl rfl rfl rfl) rfl rfl (fun a hF => ?_)
          refine ls_skip hF (wanted_n hF rfl rfl rfl rfl rfl) rfl rfl (fun a hF => ?_)
          refine ls_skip hF (wanted_n hF rfl rfl rfl rfl rfl) rfl rfl (fun a hF => ?_)
          refine ls_skip hF (wanted_n hF rfl rfl rfl rfl rfl) rfl rfl (fun a hF => ?_)
          refine ls_skip hF (wanted_n hF rfl rfl rfl rfl rfl) rfl rfl (fun a hF => ?_)
          refine ls_skip hF (wanted_n hF rfl rfl rfl rfl rfl) rfl rfl (fun a hF => ?_)
          refine ls hF hW rfl ((y_pick_f hF rfl rfl rfl).q) (fun a w hF hW => ?_)
          refine ls hF hW rfl ((y_move hF rfl).q) (fun a w hF hW => ?_)
          refine ls_skip hF (wanted_n hF rfl rfl rfl rfl rfl) rfl rfl (fun a hF => ?_)
          refine ls_skip hF (wanted_n hF rfl rfl rfl rfl rfl) rfl rfl (fun a hF => ?_)
          refine ls_skip hF (wanted_n hF rfl rfl rfl rfl rfl) rfl rfl (fun a hF => ?_)
          refine ls_skip hF (wanted_n hF rfl rfl rfl rfl rfl) rfl rfl (fun a hF => ?_)
          refine ls_skip hF (wanted_n hF rfl rfl rfl rfl rfl) rfl rfl (fun a hF => ?_)
          refine ls hF hW rfl ((y_pick_f hF rfl rfl rfl).q) (fun a w hF hW => ?_)
          refine ls hF hW rfl ((y_move hF rfl).q) (fun a w hF hW => ?_)
          refine ls_skip hF (wanted_n hF rfl rfl rfl rfl rfl) rfl rfl (fun a hF => ?_)
          refine ls hF hW rfl ((y_pick_f hF rfl rfl rfl).q) (fun a w hF hW => ?_)
          refine ls hF hW rfl ((y_assign hF rfl).q) (fun a w hF hW => ?_)
          refine ls_nil ?_
          refine c_then ?_
          exact ⟨_, H, hF.re ⟨rfl, trivial⟩, hW⟩
      rintro a w ⟨x4, hj, hF, hW⟩
      have hj := Option.some.inj hj
      subst hj
      have H := K1
      clear G1 K1
      refine wp_ret ?_
      have H := Option.some.inj H
      subst H
      refine post1 (.inl rfl) hF hW rfl (rv_tmp hF rfl) ?_
      exact ⟨rfl, hW.done⟩

noncomputable def L05_CrcGoes (p0 : List UInt8) (p1 : List UInt8) : Option Bool := (if (decide (2000 < (p0.length : Int)) || decide (2000 < (p1.length : Int))) = true then (L05_awake).bind fun x1 => some x1 else (crc_Seal p0).bind fun x2 => (crc_Open x2).bind fun x3 => ((crc_Sum p0).bind fun x5 => (crc_More x5 p1).bind fun x6 => (app p0 p1).bind fun x7 => (crc_Sum x7).bind fun x8 => (if x6 = x8 then (if x3.2 = true then (if x3.1 = p0 then (L05_awake).bind fun x9 => some x9 else some false) else some false) else some false)).bind fun x4 => some x4)
theorem L05_CrcGoes_c (Y : Nat → Prop) (w0 : World)  (p0 : List UInt8) (p1 : List UInt8) (r : Bool) (H : L05_CrcGoes p0 p1 = some r) (h_tab0 : Sl w0 (NX []) (Rp.int .u32) tab0 tab0_l) :
    Calls Tryd.prog 4 #[.string (bs p0), .string (bs p1)] w0 fun e w' => e = .returned (.bool r) ∧ Below w0.heap.size w0 w' := by
  refine enter Tryd.func4 rfl Tryd.ntmps4 rfl (fun a hF => ?_)
  have hW := Stw.start Y w0
  unfold L05_CrcGoes at H
  refine c_seq ?_
  refine reg_list ?_
  refine ls hF hW rfl ((y_assign hF rfl).q) (fun a w hF hW => ?_)
  refine ls_nil ?_
  refine c_then ?_
  refine c_seq ?_
  refine c_seqJ (fun a w => Fr 42 [] [(0, .string (bs p0)), (1, .string (bs p1)), (4, .bool false), (14, .bool (decide (2000 < (p0.length : Int)) || decide (2000 < (p1.length : Int))))] a ∧ Stw ⟨Y, [], w0⟩ [] [] w) ?_ ?_
  ·
    refine reg_list ?_
    refine ls hF hW rfl ((y_move hF rfl).q) (fun a w hF hW => ?_)
    refine ls hF hW rfl ((y_slen (l := p0) Tryd.underlying9 rfl hF rfl).q) (fun a w hF hW => ?_)
    refine ls hF hW rfl ((y_gtr hF rfl rfl).q) (fun a w hF hW => ?_)
    refine ls hF hW rfl ((y_move hF rfl).q) (fun a w hF hW => ?_)
    rcases Bool.eq_false_or_eq_true (decide (2000 < (p0.length : Int))) with hb0 | hb0
    ·
      rw [hb0] at hF
      refine ls_skip hF (wanted_n hF rfl rfl rfl rfl rfl) rfl rfl (fun a hF => ?_)
      refine ls_skip hF (wanted_n hF rfl rfl rfl rfl rfl) rfl rfl (fun a hF => ?_)
      refine ls_skip hF (wanted_n hF rfl rfl rfl rfl rfl) rfl rfl (fun a hF => ?_)
      refine ls hF hW rfl ((y_pick_t hF rfl rfl rfl).q) (fun a w hF hW => ?_)
      refine ls_nil ?_
      refine c_then ?_
      exact ⟨hF.re ⟨rfl, rfl, rfl, (by show some (Value.bool true) = some (Value.bool (decide (2000 < (p0.length : Int)) || decide (2000 < (p1.length : Int)))); try rw [hb0]; all_goals simp only [Bool.not_true, Bool.not_false, Bool.true_and, Bool.false_and, Bool.true_or, Bool.false_or, Bool.and_true, Bool.or_false, cond_true, cond_false]), trivial⟩, hW⟩
    ·
      rw [hb0] at hF
      refine ls_w hF hW (wanted_y hF rfl rfl rfl rfl) rfl (Nat.le_of_ble_eq_true rfl) ((y_move hF rfl).q) (fun a w hF hW => ?_)
      refine ls_w hF hW (wanted_y hF rfl rfl rfl rfl) rfl (Nat.le_of_ble_eq_true rfl) ((y_slen (l := p1) Tryd.underlying9 rfl hF rfl).q) (fun a w hF hW => ?_)
      refine ls_w hF hW (wanted_y hF rfl rfl rfl rfl) rfl (Nat.le_of_ble_eq_true rfl) ((y_gtr hF rfl rfl).q) (fun a w hF hW => ?_)
      refine ls hF hW rfl ((y_pick_f hF rfl rfl rfl).q) (fun a w hF hW => ?_)
      refine ls_nil ?_
      refine c_then ?_
      exact ⟨hF.re ⟨rfl, rfl, rfl, (by show some (Value.bool (decide (2000 < (p1.length : Int)))) = some (Value.bool (decide (2000 < (p0.length : Int)) || decide (2000 < (p1.length : Int)))); try rw [hb0]; all_goals simp only [Bool.not_true, Bool.not_false, Bool.true_and, Bool.false_and, Bool.true_or, Bool.false_or, Bool.and_true, Bool.or_false, cond_true, cond_false]), trivial⟩, hW⟩
  rintro a w ⟨hF, hW⟩
  refine c_cond hF rfl (fun hb => ?_) (fun hb => ?_)
  ·
    have H := iteT hb H
    rw [hb] at hF
    clear hb
    refine c_seq ?_
    refine reg_list ?_
    obtain ⟨x1, h1, H⟩ := bindE H
    refine ls hF hW rfl (y_call (v := Value.bool x1) hF H7 rfl (fun w hW => L05_awake_c any w _ h1 (((rdc_ro h_tab0) : Rdc _ _ _ _ _ _) w hW).nx)) (fun a w hF hW => ?_)
    refine ls hF hW rfl ((y_assign hF rfl).q) (fun a w hF hW => ?_)
    refine ls_nil ?_
    refine c_then ?_
    refine wp_ret ?_
    refine r_then ?_
    have H := Option.some.inj H
    subst H
    refine post1 (.inl rfl) hF hW rfl (rv_tmp hF rfl) ?_
    exact ⟨rfl, hW.done⟩
  ·
    have H := iteF (by rw [hb]; decide) H
    rw [hb] at hF
    clear hb
    refine wp_skip ?_
    refine c_then ?_
    refine c_seq ?_
    refine reg_list ?_
    refine ls hF hW rfl ((y_move hF rfl).q) (fun a w hF hW => ?_)
    obtain ⟨x2, h2, H⟩ := bindE H
    refine ls hF hW rfl (y_call (v := Value.string (bs x2)) hF H14 rfl (fun w hW => crc_Seal_c any w p0 _ h2 (((rdc_ro h_tab0) : Rdc _ _ _ _ _ _) w hW).nx)) (fun a w hF hW => ?_)
    obtain ⟨x3, h3, H⟩ := bindE H
    refine ls hF hW rfl (y_call (v := Value.tuple #[.string (bs x3.1), .bool x3.2]) hF H8 rfl (fun w hW => crc_Open_c any w x2 _ h3 (((rdc_ro h_tab0) : Rdc _ _ _ _ _ _) w hW).nx)) (fun a w hF hW => ?_)
    refine ls hF hW rfl ((y_move hF rfl).q) (fun a w hF hW => ?_)
    refine ls hF hW rfl ((y_extract (v := Value.string (bs x3.1)) hF rfl rfl).q) (fun a w hF hW => ?_)
    refine ls hF hW rfl ((y_extract (v := Value.bool x3.2) hF rfl rfl).q) (fun a w hF hW => ?_)
    refine ls hF hW rfl ((y_assign hF rfl).q) (fun a w hF hW => ?_)
    refine ls hF hW rfl ((y_assign hF rfl).q) (fun a w hF hW => ?_)
    refine ls_nil ?_
    refine c_then ?_
    obtain ⟨o1, G1, K1⟩ := bindE H
    refine c_seqJ (fun a w => ∃ x4 : Bool, some (x4) = some o1 ∧ Fr 42 [] [(4, .bool x4)] a ∧ Stw ⟨Y, [], w0⟩ [] [] w) ?_ ?_
    ·
      have H := G1
      clear G1 K1
      refine reg_list ?_
      refine ls hF hW rfl ((y_move hF rfl).q) (fun a w hF hW => ?_)
      obtain ⟨x5, h4, H⟩ := bindE H
      refine ls hF hW rfl (y_call (v := Value.int .u32 x5) hF H10 rfl (fun w hW => crc_Sum_c any w p0 _ h4 (((rdc_ro h_tab0) : Rdc _ _ _ _ _ _) w hW).nx)) (fun a w hF hW => ?_)
      refine ls hF hW rfl ((y_move hF rfl).q) (fun a w hF hW => ?_)
      obtain ⟨x6, h5, H⟩ := bindE H
      refine ls hF hW rfl (y_call (v := Value.int .u32 x6) hF H12 rfl (fun w hW => crc_More_c any w x5 p1 _ h5 (((rdc_ro h_tab0) : Rdc _ _ _ _ _ _) w hW).nx)) (fun a w hF hW => ?_)
      refine ls hF hW rfl ((y_move hF rfl).q) (fun a w hF hW => ?_)
      refine ls hF hW rfl ((y_move hF rfl).q) (fun a w hF hW => ?_)
      obtain ⟨x7, h6, H⟩ := bindE H
      refine ls hF hW rfl ((y_sadd (l := p0) (m := p1) hF rfl rfl h6).q) (fun a w hF hW => ?_)
      obtain ⟨x8, h7, H⟩ := bindE H
      refine ls hF hW rfl (y_call (v := Value.int .u32 x8) hF H10 rfl (fun w hW => crc_Sum_c any w x7 _ h7 (((rdc_ro h_tab0) : Rdc _ _ _ _ _ _) w hW).nx)) (fun a w hF hW => ?_)
      refine ls hF hW rfl ((y_eql hF rfl rfl).q) (fun a w hF hW => ?_)
      refine ls hF hW rfl ((y_move hF rfl).q) (fun a w hF hW => ?_)
      rcases Bool.eq_false_or_eq_true (decide (x6 = x8)) with hb | hb
      ·
        have H := iteT (of_decide_eq_true hb) H
        rw [hb] at hF
        clear hb
        refine ls_w hF hW (wanted_y hF rfl rfl rfl rfl) rfl (Nat.le_of_ble_eq_true rfl) ((y_move hF rfl).q) (fun a w hF hW => ?_)
        refine ls hF hW rfl ((y_pick_t hF rfl rfl rfl).q) (fun a w hF hW => ?_)
        refine ls hF hW rfl ((y_move hF rfl).q) (fun a w hF hW => ?_)
        rcases Bool.eq_false_or_eq_true x3.2 with hb | hb
        ·
          have H := iteT hb H
          rw [hb] at hF
          clear hb
          refine ls_w hF hW (wanted_y hF rfl rfl rfl rfl) rfl (Nat.le_of_ble_eq_true rfl) ((y_move hF rfl).q) (fun a w hF hW => ?_)
          refine ls_w hF hW (wanted_y hF rfl rfl rfl rfl) rfl (Nat.le_of_ble_eq_true rfl) ((y_move hF rfl).q) (fun a w hF hW => ?_)
          refine ls_w hF hW (wanted_y hF rfl rfl rfl rfl) rfl (Nat.le_of_ble_eq_true rfl) ((y_seq (l := x3.1) (m := p0) hF rfl rfl).q) (fun a w hF hW => ?_)
          refine ls hF hW rfl ((y_pick_t hF rfl rfl rfl).q) (fun a w hF hW => ?_)
          refine ls hF hW rfl ((y_move hF rfl).q) (fun a w hF hW => ?_)
          rcases Bool.eq_false_or_eq_true (decide (x3.1 = p0)) with hb | hb
          ·
            have H := iteT (of_decide_eq_true hb) H
            rw [hb] at hF
            clear hb
            refine ls_g (wanted_y hF rfl rfl rfl rfl) ?_
            obtain ⟨x9, h8, H⟩ := bindE H
            refine ls hF hW rfl (y_call (v := Value.bool x9) hF H7 rfl (fun w hW => L05_awake_c any w _ h8 (((rdc_ro h_tab0) : Rdc _ _ _ _ _ _) w hW).nx)) (fun a w hF hW => ?_)
            refine ls hF hW rfl ((y_pick_t hF rfl rfl rfl).q) (fun a w hF hW => ?_)
            refine ls hF hW rfl ((y_assign hF rfl).q) (fun a w hF hW => ?_)
            refine ls_nil ?_
            refine c_then ?_
            exact ⟨_, H, hF.re ⟨rfl, trivial⟩, hW⟩
          ·
            have H := iteF (of_decide_eq_false hb) H
            rw [hb] at hF
            clear hb
            refine ls_skip hF (wanted_n hF rfl rfl rfl rfl rfl) rfl rfl (fun a hF => ?_)
            refine ls hF hW rfl ((y_pick_f hF rfl rfl rfl).q) (fun a w hF hW => ?_)
            refine ls hF hW rfl ((y_assign hF rfl).q) (fun a w hF hW => ?_)
            refine ls_nil ?_
            refine c_then ?_
            exact ⟨_, H, hF.re ⟨rfl, trivial⟩, hW⟩
        ·
          have H := iteF (by rw [hb]; decide) H
          rw [hb] at hF
          clear hb
          refine ls_skip hF (wanted_n hF rfl rfl rfl rfl rfl) rfl rfl (fun a hF => ?_)
          refine ls_skip hF (wanted_n hF rfl rfl rfl rfl rfl) rfl rfl (fun a hF => ?_)
          refine ls_skip hF (wanted_n hF rfl rfl rfl rfl rfl) rfl rfl (fun a hF => ?_)
          refine ls hF hW rfl ((y_pick_f hF rfl rfl rfl).q) (fun a w hF hW => ?_)
          refine ls hF hW rfl ((y_move hF rfl).q) (fun a w hF hW => ?_)
          refine ls_skip hF (wanted_n hF rfl rfl rfl rfl rfl) rfl rfl (fun a hF => ?_)
          refine ls hF hW rfl ((y_pick_f hF rfl rfl rfl).q) (fun a w hF hW => ?_)
          refine ls hF hW rfl ((y_assign hF rfl).q) (fun a w hF hW => ?_)
          refine ls_nil ?_
          refine c_then ?_
          exact ⟨_, H, hF.re ⟨rfl, trivial⟩, hW⟩
      ·
        have H := iteF (of_decide_eq_false hb) H
        rw [hb] at hF
        clear hb
        refine ls_skip hF (wanted_n hF rfl rfl rfl rfl rfl) rfl rfl (fun a hF => ?_)
        refine ls hF hW rfl ((y_pick_f hF rfl rfl rfl).q) (fun a w hF hW => ?_)
        refine ls hF hW rfl ((y_move hF rfl).q) (fun a w hF hW => ?_)
        refine ls_skip hF (wanted_n hF rfl rfl rfl rfl rfl) rfl rfl (fun a hF => ?_)
        refine ls_skip hF (wanted_n hF rfl rfl rfl rfl rfl) rfl rfl (fun a hF => ?_)
        refine ls_skip hF (wanted_n hF rfl rfl rfl rfl rfl) rfl rfl (fun a hF => ?_)
        refine ls hF hW rfl ((y_pick_f hF rfl rfl rfl).q) (fun a w hF hW => ?_)
        refine ls hF hW rfl ((y_move hF rfl).q) (fun a w hF hW => ?_)
        refine ls_skip hF (wanted_n hF rfl rfl rfl rfl rfl) rfl rfl (fun a hF => ?_)
        refine ls hF hW rfl ((y_pick_f hF rfl rfl rfl).q) (fun a w hF hW => ?_)
        refine ls hF hW rfl ((y_assign hF rfl).q) (fun a w hF hW => ?_)
        refine ls_nil ?_
        refine c_then ?_
        exact ⟨_, H, hF.re ⟨rfl, trivial⟩, hW⟩
    rintro a w ⟨x4, hj, hF, hW⟩
    have hj := Option.some.inj hj
    subst hj
    have H := K1
    clear G1 K1
    refine wp_ret ?_
    have H := Option.some.inj H
    subst H
    refine post1 (.inl rfl) hF hW rfl (rv_tmp hF rfl) ?_
    exact ⟨rfl, hW.done⟩

noncomputable def r05_Changed_l1 (p0 : List UInt8) (p1 : Int) (p2 : List UInt8) : (List Int × Int) → Option ((List Int × Int) ⊕ (List Int))
  | (x2, x3) => (if x3 < (p0.length : Int) then (ix p0 x3).bind fun x4 => (if (decide (p1 ≤ x3) && decide ((w64 (x3 - p1)) < (p2.length : Int))) = true then (ix p2 (w64 (x3 - p1))).bind fun x6 => some (xorI .u8 (x4.toNat : Int) (x6.toNat : Int)) else some (x4.toNat : Int)).bind fun x5 => (app x2 ([x5] : List Int)).bind fun x7 => some (.inl (x7, w64 (x3 + 1))) else some (.inr x2))
noncomputable def r05_Changed (p0 : List UInt8) (p1 : Int) (p2 : List UInt8) : Option (List UInt8) := (loopW (r05_Changed_l1 p0 p1 p2) ([], 0)).bind fun x1 => some (strOf x1)
theorem r05_Changed_c (Y : Nat → Prop) (w0 : World)  (p0 : List UInt8) (p1 : Int) (p2 : List UInt8) (r : List UInt8) (H : r05_Changed p0 p1 p2 = some r)  :
    Calls Tryd.prog 16 #[.string (bs p0), .int .i64 p1, .string (bs p2)] w0 fun e w' => e = .returned (.string (bs r)) ∧ Below w0.heap.size w0 w' := by
  refine enter Tryd.func16 rfl Tryd.ntmps16 rfl (fun a hF => ?_)
  have hW := Stw.start Y w0
  unfold r05_Changed at H
  refine c_seq ?_
  refine reg_list ?_
  refine ls hF hW rfl ((y_assign (v := Value.string (bs ([] : List UInt8))) hF rfl).q) (fun a w hF hW => ?_)
  refine ls_nil ?_
  refine c_then ?_
  refine c_seq ?_
  refine reg_list ?_
  refine ls hF hW rfl ((y_assign hF rfl).q) (fun a w hF hW => ?_)
  refine ls_nil ?_
  refine c_then ?_
  obtain ⟨o1, G1, K1⟩ := bindE H
  refine c_seqJ (fun a w => ∃ x1 : List Int, ∃ v1 : Value, some (x1) = some o1 ∧ Fr 43 [] [(6, .string (bs ([] : List UInt8))), (7, v1)] a ∧ Stw ⟨Y, [], w0⟩ [] [row v1 5 (Rp.int .u8) x1] w) ?_ ?_
  ·
    have H := G1
    clear G1 K1
    refine c_seq ?_
    refine reg_list ?_
    refine ls hF hW rfl ((y_assign hF rfl).q) (fun a w hF hW => ?_)
    refine ls_nil ?_
    refine c_then ?_
    refine wp_block ?_
    have hW := hW.nilRow 5 (Rp.int .u8)
    refine c_loopW H (fun s a w => ∃ v2 : Value, Fr 43 [] [(0, .string (bs p0)), (1, .int .i64 p1), (2, .string (bs p2)), (6, .string (bs ([] : List UInt8))), (7, v2), (8, .int .i64 s.2)] a ∧ Stw ⟨Y, [], w0⟩ [] [row v2 5 (Rp.int .u8) s.1] w) ⟨(Value.slice none 0 0), hF.re ⟨rfl, rfl, rfl, rfl, rfl, rfl, trivial⟩, hW⟩ (fun s o a w H L2 hR => ?_)
    obtain ⟨x2, x3⟩ := s
    obtain ⟨v2, hF, hW⟩ := hR
    have hF : Fr 43 [] [(0, .string (bs p0)), (1, .int .i64 p1), (2, .string (bs p2)), (6, .string (bs ([] : List UInt8))), (7, v2), (8, .int .i64 x3)] a := hF
    have hW : Stw ⟨Y, [], w0⟩ [] [row v2 5 (Rp.int .u8) x2] w := hW
    rw [r05_Changed_l1] at H
    refine c_seq ?_
    refine c_seq ?_
    refine reg_list ?_
    refine ls hF hW rfl ((y_move hF rfl).q) (fun a w hF hW => ?_)
    refine ls hF hW rfl ((y_move hF rfl).q) (fun a w hF hW => ?_)
    refine ls hF hW rfl ((y_slen (l := p0) Tryd.underlying9 rfl hF rfl).q) (fun a w hF hW => ?_)
    refine ls hF hW rfl ((y_lss hF rfl rfl).q) (fun a w hF hW => ?_)
    refine ls_nil ?_
    refine c_then ?_
    refine c_cond hF rfl (fun hb => ?_) (fun hb => ?_)
    ·
      have H := iteT (of_decide_eq_true hb) H
      rw [hb] at hF
      clear hb
      refine wp_skip ?_
      refine c_then ?_
      refine c_seq ?_
      refine wp_block ?_
      refine c_seq ?_
      refine reg_list ?_
      refine ls hF hW rfl ((y_move hF rfl).q) (fun a w hF hW => ?_)
      refine ls hF hW rfl ((y_move hF rfl).q) (fun a w hF hW => ?_)
      obtain ⟨x4, h1, H⟩ := bindE H
      refine ls hF hW rfl ((y_sindex (l := p0) Tryd.underlying9 hF rfl rfl h1).q) (fun a w hF hW => ?_)
      refine ls hF hW rfl ((y_assign hF rfl).q) (fun a w hF hW => ?_)
      refine ls_nil ?_
      refine c_then ?_
      obtain ⟨o3, G3, K3⟩ := bindE H
      refine c_seqJ (fun a w => ∃ x5 : Int, some (x5) = some o3 ∧ Fr 43 [] [(0, .string (bs p0)), (1, .int .i64 p1), (2, .string (bs p2)), (6, .string (bs ([] : List UInt8))), (7, v2), (8, .int .i64 x3), (9, .int .u8 x5)] a ∧ Stw ⟨Y, [], w0⟩ [] [row v2 5 (Rp.int .u8) x2] w) ?_ ?_
      ·
        have H := G3
        clear G3 K3
        refine c_seqJ (fun a w => Fr 43 [] [(0, .string (bs p0)), (1, .int .i64 p1), (2, .string (bs p2)), (6, .string (bs ([] : List UInt8))), (7, v2), (8, .int .i64 x3), (9, .int .u8 (x4.toNat : Int)), (29, .bool (decide (p1 ≤ x3) && decide ((w64 (x3 - p1)) < (p2.length : Int))))] a ∧ Stw ⟨Y, [], w0⟩ [] [row v2 5 (Rp.int .u8) x2] w) ?_ ?_
        ·
          refine reg_list ?_
          refine ls hF hW rfl ((y_move hF rfl).q) (fun a w hF hW => ?_)
          refine ls hF hW rfl ((y_move hF rfl).q) (fun a w hF hW => ?_)
          refine ls hF hW rfl ((y_geq hF rfl rfl).q) (fun a w hF hW => ?_)
          refine ls hF hW rfl ((y_move hF rfl).q) (fun a w hF hW => ?_)
          rcases Bool.eq_false_or_eq_true (decide (p1 ≤ x3)) with hb0 | hb0
          ·
            rw [hb0] at hF
            refine ls_w hF hW (wanted_y hF rfl rfl rfl rfl) rfl (Nat.le_of_ble_eq_true rfl) ((y_move hF rfl).q) (fun a w hF hW => ?_)
            refine ls_w hF hW (wanted_y hF rfl rfl rfl rfl) rfl (Nat.le_of_ble_eq_true rfl) ((y_move hF rfl).q) (fun a w hF hW => ?_)
            refine ls_w hF hW (wanted_y hF rfl rfl rfl rfl) rfl (Nat.le_of_ble_eq_true rfl) ((y_sub hF rfl rfl rfl).q) (fun a w hF hW => ?_)
            refine ls_w hF hW (wanted_y hF rfl rfl rfl rfl) rfl (Nat.le_of_ble_eq_true rfl) ((y_move hF rfl).q) (fun a w hF hW => ?_)
            refine ls_w hF hW (wanted_y hF rfl rfl rfl rfl) rfl (Nat.le_of_ble_eq_true rfl) ((y_slen (l := p2) Tryd.underlying9 rfl hF rfl).q) (fun a w hF hW => ?_)
            refine ls_w hF hW (wanted_y hF rfl rfl rfl rfl) rfl (Nat.le_of_ble_eq_true rfl) ((y_lss hF rfl rfl).q) (fun a w hF hW => ?_)
            refine ls hF hW rfl ((y_pick_t hF rfl rfl rfl).q) (fun a w hF hW => ?_)
            refine ls_nil ?_
            refine c_then ?_
            exact ⟨hF.re ⟨rfl, rfl, rfl, rfl, rfl, rfl, rfl, (by show some (Value.bool (decide ((w64 (x3 - p1)) < (p2.length : Int)))) = some (Value.bool (decide (p1 ≤ x3) && decide ((w64 (x3 - p1)) < (p2.length : Int)))); try rw [hb0]; all_goals simp only [Bool.not_true, Bool.not_false, Bool.true_and, Bool.false_and, Bool.true_or, Bool.false_or, Bool.and_true, Bool.or_false, cond_true, cond_false]), trivial⟩, hW⟩
          ·
            rw [hb0] at hF
            refine ls_skip hF (wanted_n hF rfl rfl rfl rfl rfl) rfl rfl (fun a hF => ?_)
            refine ls_skip hF (wanted_n hF rfl rfl rfl rfl rfl) rfl rfl (fun a hF => ?_)
            refine ls_skip hF (wanted_n hF rfl rfl rfl rfl rfl) rfl rfl (fun a hF => ?_)
            refine ls_skip hF (wanted_n hF rfl rfl rfl rfl rfl) rfl rfl (fun a hF => ?_)
            refine ls_skip hF (wanted_n hF rfl rfl rfl rfl rfl) rfl rfl (fun a hF => ?_)
            refine ls_skip hF (wanted_n hF rfl rfl rfl rfl rfl) rfl rfl (fun a hF => ?_)
            refine ls hF hW rfl ((y_pick_f hF rfl rfl rfl).q) (fun a w hF hW => ?_)
            refine ls_nil ?_
            refine c_then ?_
            exact ⟨hF.re ⟨rfl, rfl, rfl, rfl, rfl, rfl, rfl, (by show some (Value.bool false) = some (Value.bool (decide (p1 ≤ x3) && decide ((w64 (x3 - p1)) < (p2.length : Int)))); try rw [hb0]; all_goals simp only [Bool.not_true, Bool.not_false, Bool.true_and, Bool.false_and, Bool.true_or, Bool.false_or, Bool.and_true, Bool.or_false, cond_true, cond_false]), trivial⟩, hW⟩
        rintro a w ⟨hF, hW⟩
        refine c_cond hF rfl (fun hb => ?_) (fun hb => ?_)
        ·
          have H := iteT hb H
          rw [hb] at hF
          clear hb
          refine reg_list ?_
          refine ls hF hW rfl ((y_move hF rfl).q) (fun a w hF hW => ?_)
          refine ls hF hW rfl ((y_move hF rfl).q) (fun a w hF hW => ?_)
          refine ls hF hW rfl ((y_move hF rfl).q) (fun a w hF hW => ?_)
          refine ls hF hW rfl ((y_move hF rfl).q) (fun a w hF hW => ?_)
          refine ls hF hW rfl ((y_sub hF rfl rfl rfl).q) (fun a w hF hW => ?_)
          obtain ⟨x6, h2, H⟩ := bindE H
          refine ls hF hW rfl ((y_sindex (l := p2) Tryd.underlying9 hF rfl rfl h2).q) (fun a w hF hW => ?_)
          refine ls hF hW rfl ((y_xor hF rfl rfl).q) (fun a w hF hW => ?_)
          refine ls hF hW rfl ((y_assign hF rfl).q) (fun a w hF hW => ?_)
          refine ls_nil ?_
          refine c_then ?_
          exact ⟨_, H, hF.re ⟨rfl, rfl, rfl, rfl, rfl, rfl, rfl, trivial⟩, hW⟩
        ·
          have H := iteF (by rw [hb]; decide) H
          rw [hb] at hF
          clear hb
          refine wp_skip ?_
          refine c_then ?_
          exact ⟨_, H, hF.re ⟨rfl, rfl, rfl, rfl, rfl, rfl, rfl, trivial⟩, hW⟩
      rintro a w ⟨x5, hj, hF, hW⟩
      have hj := Option.some.inj hj
      subst hj
      have H := K3
      clear G3 K3
      refine reg_list ?_
      refine ls hF hW rfl ((y_move hF rfl).q) (fun a w hF hW => ?_)
      refine ls hF hW rfl ((y_move hF rfl).q) (fun a w hF hW => ?_)
      refine l_lit (z := Value.int .u8 0) (cs := [.int .u8 x5]) (Rp.int .u8) ([x5] : List Int) hF hW rfl L32 Z5 rfl rfl rfl rfl rfl rfl (Fl.int.repL _ _ ([x5] : List Int)) (fun v3 a w hF hW => ?_)
      obtain ⟨x7, h3, H⟩ := bindE H
      refine l_append (r := (Rp.int .u8)) (i := 1) hF hW rfl L32 rfl rfl rfl rfl (src_row hW 0 rfl) h3 rfl (fun v4 a w hF hW => ?_)
      have hW : Stw ⟨Y, [], w0⟩ [] [row v4 5 (Rp.int .u8) x7, row v3 5 (Rp.int .u8) ([x5] : List Int)] w := hW
      refine ls hF hW rfl ((y_assign hF rfl).q) (fun a w hF hW => ?_)
      refine ls_nil ?_
      refine b_normal ?_
      refine c_then ?_
      refine reg_list ?_
      refine ls hF hW rfl ((y_move hF rfl).q) (fun a w hF hW => ?_)
      refine ls hF hW rfl ((y_add hF rfl rfl rfl).q) (fun a w hF hW => ?_)
      refine ls hF hW rfl ((y_assign hF rfl).q) (fun a w hF hW => ?_)
      refine ls_nil ?_
      refine c_then ?_
      have hW := hW.sub (M' := []) (Z' := [row v4 5 (Rp.int .u8) x7]) (List.Sublist.refl _) (List.Sublist.cons_cons _ (List.nil_sublist _))
      exact ⟨_, H, (v4), hF.re ⟨rfl, rfl, rfl, rfl, rfl, rfl, trivial⟩, hW⟩
    ·
      have H := iteF (of_decide_eq_false hb) H
      rw [hb] at hF
      clear hb
      refine wp_exit ?_
      refine e_then ?_
      refine e_then ?_
      refine e_block ?_
      refine c_then ?_
      have H := L2 _ H
      exact ⟨_, (v2), H, hF.re ⟨rfl, rfl, trivial⟩, hW⟩
  rintro a w ⟨x1, v1, hj, hF, hW⟩
  have hj := Option.some.inj hj
  subst hj
  have H := K1
  clear G1 K1
  refine c_seq ?_
  refine reg_list ?_
  refine ls hF hW rfl ((y_move hF rfl).q) (fun a w hF hW => ?_)
  refine ls hF hW rfl ((y_convB (ns := x1) Tryd.underlying32 Tryd.underlying5 Tryd.underlying9 hF rfl (rdc_row 0 rfl)).q) (fun a w hF hW => ?_)
  refine ls hF hW rfl ((y_assign hF rfl).q) (fun a w hF hW => ?_)
  refine ls_nil ?_
  refine c_then ?_
  refine wp_ret ?_
  have H := Option.some.inj H
  subst H
  refine post1 (.inl rfl) hF hW rfl (rv_tmp hF rfl) ?_
  exact ⟨rfl, hW.done⟩

theorem H16 : Has Tryd.prog 16 := ⟨fun args w => run_callFunc_body Tryd.func16 rfl (by decide) args w⟩
noncomputable def L05_CrcFinds (p0 : List UInt8) (p1 : Int) (p2 : Int) (p3 : Int) (p4 : Int) : Option Bool := (if (decide (2000 < (p0.length : Int)) || (decide (p2 = 0) && (decide (p3 = 0) && decide (p4 = 0)))) = true then (L05_awake).bind fun x1 => some x1 else (crc_Seal p0).bind fun x2 => (if (decide (p1 < 0) || decide ((w64 ((x2.length : Int) - 3)) < p1)) = true then (L05_awake).bind fun x3 => some x3 else (r05_Changed x2 p1 (strOf ([p2, p3, p4] : List Int))).bind fun x4 => (crc_Open x4).bind fun x5 => (if (!x5.2) = true then (L05_awake).bind fun x7 => some x7 else some false).bind fun x6 => some x6))
theorem L05_CrcFinds_c (Y : Nat → Prop) (w0 : World)  (p0 : List UInt8) (p1 : Int) (p2 : Int) (p3 : Int) (p4 : Int) (r : Bool) (H : L05_CrcFinds p0 p1 p2 p3 p4 = some r) (h_tab0 : Sl w0 (NX []) (Rp.int .u32) tab0 tab0_l) :
    Calls Tryd.prog 5 #[.string (bs p0), .int .i64 p1, .int .u8 p2, .int .u8 p3, .int .u8 p4] w0 fun e w' => e = .returned (.bool r) ∧ Below w0.heap.size w0 w' := by
  refine enter Tryd.func5 rfl Tryd.ntmps5 rfl (fun a hF => ?_)
  have hW := Stw.start Y w0
  unfold L05_CrcFinds at H
  refine c_seq ?_
  refine reg_list ?_
  refine ls hF hW rfl ((y_assign hF rfl).q) (fun a w hF hW => ?_)
  refine ls_nil ?_
  refine c_then ?_
  refine c_seq ?_
  refine c_seqJ (fun a w => Fr 59 [] [(0, .string (bs p0)), (1, .int .i64 p1), (2, .int .u8 p2), (3, .int .u8 p3), (4, .int .u8 p4), (10, .bool false), (28, .bool (decide (2000 < (p0.length : Int)) || (decide (p2 = 0) && (decide (p3 = 0) && decide (p4 = 0)))))] a ∧ Stw ⟨Y, [], w0⟩ [] [] w) ?_ ?_
  ·
    refine reg_list ?_
    refine ls hF hW rfl ((y_move hF rfl).q) (fun a w hF hW => ?_)
    refine ls hF hW rfl ((y_slen (l := p0) Tryd.underlying9 rfl hF rfl).q) (fun a w hF hW => ?_)
    refine ls hF hW rfl ((y_gtr hF rfl rfl).q) (fun a w hF hW => ?_)
    refine ls hF hW rfl ((y_move hF rfl).q) (fun a w hF hW => ?_)
    rcases Bool.eq_false_or_eq_true (decide (2000 < (p0.length : Int))) with hb0 | hb0
    ·
      rw [hb0] at hF
      refine ls_skip hF (wanted_n hF rfl rfl rfl rfl rfl) rfl rfl (fun a hF => ?_)
      refine ls_skip hF (wanted_n hF rfl rfl rfl rfl rfl) rfl rfl (fun a hF => ?_)
      refine ls_skip hF (wanted_n hF rfl rfl rfl rfl rfl) rfl rfl (fun a hF => ?_)
      refine ls_skip hF (wanted_undef hF rfl rfl rfl rfl) rfl rfl (fun a hF => ?_)
      refine ls_skip hF (wanted_undef hF rfl rfl rfl rfl) rfl rfl (fun a hF => ?_)
      refine ls_skip hF (wanted_n hF rfl rfl rfl rfl rfl) rfl rfl (fun a hF => ?_)
      refine ls_skip hF (wanted_n hF rfl rfl rfl rfl rfl) rfl rfl (fun a hF => ?_)
      refine ls_skip hF (wanted_undef hF rfl rfl rfl rfl) rfl rfl (fun a hF => ?_)
      refine ls_skip hF (wanted_undef hF rfl rfl rfl rfl) rfl rfl (fun a hF => ?_)
      refine ls_skip hF (wanted_n hF rfl rfl rfl rfl rfl) rfl rfl (fun a hF => ?_)
      refine ls hF hW rfl ((y_pick_t hF rfl rfl rfl).q) (fun a w hF hW => ?_)
      refine ls_nil ?_
      refine c_then ?_
      exact ⟨hF.re ⟨rfl, rfl, rfl, rfl, rfl, rfl, (by show some (Value.bool true) = some (Value.bool (decide (2000 < (p0.length : Int)) || (decide (p2 = 0) && (decide (p3 = 0) && decide (p4 = 0))))); try rw [hb0]; all_goals simp only [Bool.not_true, Bool.not_false, Bool.true_and, Bool.false_and, Bool.true_or, Bool.false_or, Bool.and_true, Bool.or_false, cond_true, cond_false]), trivial⟩, hW⟩
    ·
      rw [hb0] at hF
      refine ls_w hF hW (wanted_y hF rfl rfl rfl rfl) rfl (Nat.le_of_ble_eq_true rfl) ((y_move hF rfl).q) (fun a w hF hW => ?_)
      refine ls_w hF hW (wanted_y hF rfl rfl rfl rfl) rfl (Nat.le_of_ble_eq_true rfl) ((y_eql hF rfl rfl).q) (fun a w hF hW => ?_)
      refine ls_w hF hW (wanted_y hF rfl rfl rfl rfl) rfl (Nat.le_of_ble_eq_true rfl) ((y_move hF rfl).q) (fun a w hF hW => ?_)
      rcases Bool.eq_false_or_eq_true (decide (p2 = 0)) with hb1 | hb1
      ·
        rw [hb1] at hF
        refine ls_w hF hW (wanted_y hF rfl rfl rfl rfl) rfl (Nat.le_of_ble_eq_true rfl) ((y_move hF rfl).q) (fun a w hF hW => ?_)
        refine ls_w hF hW (wanted_y hF rfl rfl rfl rfl) rfl (Nat.le_of_ble_eq_true rfl) ((y_eql hF rfl rfl).q) (fun a w hF hW => ?_)
        refine ls_w hF hW (wanted_y hF rfl rfl rfl rfl) rfl (Nat.le_of_ble_eq_true rfl) ((y_pick_t hF rfl rfl rfl).q) (fun a w hF hW => ?_)
        refine ls_w hF hW (wanted_y hF rfl rfl rfl rfl) rfl (Nat.le_of_ble_eq_true rfl) ((y_move hF rfl).q) (fun a w hF hW => ?_)
        rcases Bool.eq_false_or_eq_true (decide (p3 = 0)) with hb2 | hb2
        ·
          rw [hb2] at hF
          refine ls_w hF hW (wanted_y hF rfl rfl rfl rfl) rfl (Nat.le_of_ble_eq_true rfl) ((y_move hF rfl).q) (fun a w hF hW => ?_)
          refine ls_w hF hW (wanted_y hF rfl rfl rfl rfl) rfl (Nat.le_of_ble_eq_true rfl) ((y_eql hF rfl rfl).q) (fun a w hF hW => ?_)
          refine ls_w hF hW (wanted_y hF rfl rfl rfl rfl) rfl (Nat.le_of_ble_eq_true rfl) ((y_pick_t hF rfl rfl rfl).q) (fun a w hF hW => ?_)
          refine ls hF hW rfl ((y_pick_f hF rfl rfl rfl).q) (fun a w hF hW => ?_)
          refine ls_nil ?_
          refine c_then ?_
          exact ⟨hF.re ⟨rfl, rfl, rfl, rfl, rfl, rfl, (by show some (Value.bool (decide (p4 = 0))) = some (Value.bool (decide (2000 < (p0.length : Int)) || (decide (p2 = 0) && (decide (p3 = 0) && decide (p4 = 0))))); try rw [hb0]; try rw [hb1]; try rw [hb2]; all_goals simp only [Bool.not_true, Bool.not_false, Bool.true_and, Bool.false_and, Bool.true_or, Bool.false_or, Bool.and_true, Bool.or_false, cond_true, cond_false]), trivial⟩, hW⟩
        ·
          rw [hb2] at hF
          refine ls_skip hF (wanted_n hF rfl rfl rfl rfl rfl) rfl rfl (fun a hF => ?_)
          refine ls_skip hF (wanted_n hF rfl rfl rfl rfl rfl) rfl rfl (fun a hF => ?_)
          refine ls_w hF hW (wanted_y hF rfl rfl rfl rfl) rfl (Nat.le_of_ble_eq_true rfl) ((y_pick_f hF rfl rfl rfl).q) (fun a w hF hW => ?_)
          refine ls hF hW rfl ((y_pick_f hF rfl rfl rfl).q) (fun a w hF hW => ?_)
          refine ls_nil ?_
          refine c_then ?_
          exact ⟨hF.re ⟨rfl, rfl, rfl, rfl, rfl, rfl, (by show some (Value.bool false) = some (Value.bool (decide (2000 < (p0.length : Int)) || (decide (p2 = 0) && (decide (p3 = 0) && decide (p4 = 0))))); try rw [hb0]; try rw [hb1]; try rw [hb2]; all_goals simp only [Bool.not_true, Bool.not_false, Bool.true_and, Bool.false_and, Bool.true_or, Bool.false_or, Bool.and_true, Bool.or_false, cond_true, cond_false]), trivial⟩, hW⟩
      ·
        rw [hb1] at hF
        refine ls_skip hF (wanted_n hF rfl rfl rfl rfl rfl) rfl rfl (fun a hF => ?_)
        refine ls_skip hF (wanted_n hF rfl rfl rfl rfl rfl) rfl rfl (fun a hF => ?_)
        refine ls_w hF hW (wanted_y hF rfl rfl rfl rfl) rfl (Nat.le_of_ble_eq_true rfl) ((y_pick_f hF rfl rfl rfl).q) (fun a w hF hW => ?_)
        refine ls_w hF hW (wanted_y hF rfl rfl rfl rfl) rfl (Nat.le_of_ble_eq_true rfl) ((y_move hF rfl).q) (fun a w hF hW => ?_)
        refine ls_skip hF (wanted_n hF rfl rfl rfl rfl rfl) rfl rfl (fun a hF => ?_)
        refine ls_skip hF (wanted_n hF rfl rfl rfl rfl rfl) rfl rfl (fun a hF => ?_)
        refine ls_w hF hW (wanted_y hF rfl rfl rfl rfl) rfl (Nat.le_of_ble_eq_true rfl) ((y_pick_f hF rfl rfl rfl).q) (fun a w hF hW => ?_)
        refine ls hF hW rfl ((y_pick_f hF rfl rfl rfl).q) (fun a w hF hW => ?_)
        refine ls_nil ?_
        refine c_then ?_
        exact ⟨hF.re ⟨rfl, rfl, rfl, rfl, rfl, rfl, (by show some (Value.bool false) = some (Value.bool (decide (2000 < (p0.length : Int)) || (decide (p2 = 0) && (decide (p3 = 0) && decide (p4 = 0))))); try rw [hb0]; try rw [hb1]; all_goals simp only [Bool.not_true, Bool.not_false, Bool.true_and, Bool.false_and, Bool.true_or, Bool.false_or, Bool.and_true, Bool.or_false, cond_true, cond_false]), trivial⟩, hW⟩
  rintro a w ⟨hF, hW⟩
  refine c_cond hF rfl (fun hb => ?_) (fun hb => ?_)
  ·
    have H := iteT hb H
    rw [hb] at hF
    clear hb
    refine c_seq ?_
    refine reg_list ?_
    obtain ⟨x1, h1, H⟩ := bindE H
    refine ls hF hW rfl (y_call (v := Value.bool x1) hF H7 rfl (fun w hW => L05_awake_c any w _ h1 (((rdc_ro h_tab0) : Rdc _ _ _ _ _ _) w hW).nx)) (fun a w hF hW => ?_)
    refine ls hF hW rfl ((y_assign hF rfl).q) (fun a w hF hW => ?_)
    refine ls_nil ?_
    refine c_then ?_
    refine wp_ret ?_
    refine r_then ?_
    have H := Option.some.inj H
    subst H
    refine post1 (.inl rfl) hF hW rfl (rv_tmp hF rfl) ?_
    exact ⟨rfl, hW.done⟩
  ·
    have H := iteF (by rw [hb]; decide) H
    rw [hb] at hF
    clear hb
    refine wp_skip ?_
    refine c_then ?_
    refine c_seq ?_
    refine reg_list ?_
    refine ls hF hW rfl ((y_move hF rfl).q) (fun a w hF hW => ?_)
    obtain ⟨x2, h2, H⟩ := bindE H
    refine ls hF hW rfl (y_call (v := Value.string (bs x2)) hF H14 rfl (fun w hW => crc_Seal_c any w p0 _ h2 (((rdc_ro h_tab0) : Rdc _ _ _ _ _ _) w hW).nx)) (fun a w hF hW => ?_)
    refine ls hF hW rfl ((y_assign hF rfl).q) (fun a w hF hW => ?_)
    refine ls_nil ?_
    refine c_then ?_
    refine c_seq ?_
    refine c_seqJ (fun a w => Fr 59 [] [(1, .int .i64 p1), (2, .int .u8 p2), (3, .int .u8 p3), (4, .int .u8 p4), (10, .bool false), (11, .string (bs x2)), (40, .bool (decide (p1 < 0) || decide ((w64 ((x2.length : Int) - 3)) < p1)))] a ∧ Stw ⟨Y, [], w0⟩ [] [] w) ?_ ?_
    ·
      refine reg_list ?_
      refine ls hF hW rfl ((y_move hF rfl).q) (fun a w hF hW => ?_)
      refine ls hF hW rfl ((y_lss hF rfl rfl).q) (fun a w hF hW => ?_)
      refine ls hF hW rfl ((y_move hF rfl).q) (fun a w hF hW => ?_)
      rcases Bool.eq_false_or_eq_true (decide (p1 < 0)) with hb0 | hb0
      ·
        rw [hb0] at hF
        refine ls_skip hF (wanted_n hF rfl rfl rfl rfl rfl) rfl rfl (fun a hF => ?_)
        refine ls_skip hF (wanted_n hF rfl rfl rfl rfl rfl) rfl rfl (fun a hF => ?_)
        refine ls_skip hF (wanted_n hF rfl rfl rfl rfl rfl) rfl rfl (fun a hF => ?_)
        refine ls_skip hF (wanted_n hF rfl rfl rfl rfl rfl) rfl rfl (fun a hF => ?_)
        refine ls_skip hF (wanted_n hF rfl rfl rfl rfl rfl) rfl rfl (fun a hF => ?_)
        refine ls hF hW rfl ((y_pick_t hF rfl rfl rfl).q) (fun a w hF hW => ?_)
        refine ls_nil ?_
        refine c_then ?_
        exact ⟨hF.re ⟨rfl, rfl, rfl, rfl, rfl, rfl, (by show some (Value.bool true) = some (Value.bool (decide (p1 < 0) || decide ((w64 ((x2.length : Int) - 3)) < p1))); try rw [hb0]; all_goals simp only [Bool.not_true, Bool.not_false, Bool.true_and, Bool.false_and, Bool.true_or, Bool.false_or, Bool.and_true, Bool.or_false, cond_true, cond_false]), trivial⟩, hW⟩
      ·
        rw [hb0] at hF
        refine ls_w hF hW (wanted_y hF rfl rfl rfl rfl) rfl (Nat.le_of_ble_eq_true rfl) ((y_move hF rfl).q) (fun a w hF hW => ?_)
        refine ls_w hF hW (wanted_y hF rfl rfl rfl rfl) rfl (Nat.le_of_ble_eq_true rfl) ((y_move hF rfl).q) (fun a w hF hW => ?_)
        refine ls_w hF hW (wanted_y hF rfl rfl rfl rfl) rfl (Nat.le_of_ble_eq_true rfl) ((y_slen (l := x2) Tryd.underlying9 rfl hF rfl).q) (fun a w hF hW => ?_)
        refine ls_w hF hW (wanted_y hF rfl rfl rfl rfl) rfl (Nat.le_of_ble_eq_true rfl) ((y_sub hF rfl rfl rfl).q) (fun a w hF hW => ?_)
        refine ls_w hF hW (wanted_y hF rfl rfl rfl rfl) rfl (Nat.le_of_ble_eq_true rfl) ((y_gtr hF rfl rfl).q) (fun a w hF hW => ?_)
        refine ls hF hW rfl ((y_pick_f hF rfl rfl rfl).q) (fun a w hF hW => ?_)
        refine ls_nil ?_
        refine c_then ?_
        exact ⟨hF.re ⟨rfl, rfl, rfl, rfl, rfl, rfl, (by show some (Value.bool (decide ((w64 ((x2.length : Int) - 3)) < p1))) = some (Value.bool (decide (p1 < 0) || decide ((w64 ((x2.length : Int) - 3)) < p1))); try rw [hb0]; all_goals simp only [Bool.not_true, Bool.not_false, Bool.true_and, Bool.false_and, Bool.true_or, Bool.false_or, Bool.and_true, Bool.or_false, cond_true, cond_false]), trivial⟩, hW⟩
    rintro a w ⟨hF, hW⟩
    refine c_cond hF rfl (fun hb => ?_) (fun hb => ?_)
    ·
      have H := iteT hb H
      rw [hb] at hF
      clear hb
      refine c_seq ?_
      refine reg_list ?_
      obtain ⟨x3, h3, H⟩ := bindE H
      refine ls hF hW rfl (y_call (v := Value.bool x3) hF H7 rfl (fun w hW => L05_awake_c any w _ h3 (((rdc_ro h_tab0) : Rdc _ _ _ _ _ _) w hW).nx)) (fun a w hF hW => ?_)
      refine ls hF hW rfl ((y_assign hF rfl).q) (fun a w hF hW => ?_)
      refine ls_nil ?_
      refine c_then ?_
      refine wp_ret ?_
      refine r_then ?_
      have H := Option.some.inj H
      subst H
      refine post1 (.inl rfl) hF hW rfl (rv_tmp hF rfl) ?_
      exact ⟨rfl, hW.done⟩
    ·
      have H := iteF (by rw [hb]; decide) H
      rw [hb] at hF
      clear hb
      refine wp_skip ?_
      refine c_then ?_
      refine c_seq ?_
      refine reg_list ?_
      refine ls hF hW rfl ((y_move hF rfl).q) (fun a w hF hW => ?_)
      refine ls hF hW rfl ((y_move hF rfl).q) (fun a w hF hW => ?_)
      refine ls hF hW rfl ((y_move hF rfl).q) (fun a w hF hW => ?_)
      refine ls hF hW rfl ((y_move hF rfl).q) (fun a w hF hW => ?_)
      refine ls hF hW rfl ((y_move hF rfl).q) (fun a w hF hW => ?_)
      refine l_lit (z := Value.int .u8 0) (cs := [.int .u8 p2, .int .u8 p3, .int .u8 p4]) (Rp.int .u8) ([p2, p3, p4] : List Int) hF hW rfl L32 Z5 rfl rfl rfl rfl rfl rfl (Fl.int.repL _ _ ([p2, p3, p4] : List Int)) (fun v1 a w hF hW => ?_)
      refine ls hF hW rfl ((y_convB (ns := ([p2, p3, p4] : List Int)) Tryd.underlying32 Tryd.underlying5 Tryd.underlying9 hF rfl (rdc_row 0 rfl)).q) (fun a w hF hW => ?_)
      obtain ⟨x4, h4, H⟩ := bindE H
      refine ls hF hW rfl (y_call (v := Value.string (bs x4)) hF H16 rfl (fun w hW => r05_Changed_c any w x2 p1 (strOf ([p2, p3, p4] : List Int)) _ h4)) (fun a w hF hW => ?_)
      obtain ⟨x5, h5, H⟩ := bindE H
      refine ls hF hW rfl (y_call (v := Value.tuple #[.string (bs x5.1), .bool x5.2]) hF H8 rfl (fun w hW => crc_Open_c any w x4 _ h5 (((rdc_ro h_tab0) : Rdc _ _ _ _ _ _) w hW).nx)) (fun a w hF hW => ?_)
      refine ls hF hW rfl ((y_move hF rfl).q) (fun a w hF hW => ?_)
      refine ls hF hW rfl ((y_extract (v := Value.string (bs x5.1)) hF rfl rfl).q) (fun a w hF hW => ?_)
      refine ls hF hW rfl ((y_extract (v := Value.bool x5.2) hF rfl rfl).q) (fun a w hF hW => ?_)
      refine ls hF hW rfl ((y_assign hF rfl).q) (fun a w hF hW => ?_)
      refine ls hF hW rfl ((y_assign hF rfl).q) (fun a w hF hW => ?_)
      refine ls_nil ?_
      refine c_then ?_
      obtain ⟨o1, G1, K1⟩ := bindE H
      refine c_seqJ (fun a w => ∃ x6 : Bool, some (x6) = some o1 ∧ Fr 59 [] [(10, .bool x6)] a ∧ Stw ⟨Y, [], w0⟩ [] [] w) ?_ ?_
      ·
        have H := G1
        clear G1 K1
        refine reg_list ?_
        refine ls hF hW rfl ((y_move hF rfl).q) (fun a w hF hW => ?_)
        refine ls hF hW rfl ((y_not hF rfl).q) (fun a w hF hW => ?_)
        refine ls hF hW rfl ((y_move hF rfl).q) (fun a w hF hW => ?_)
        rcases Bool.eq_false_or_eq_true (!x5.2) with hb | hb
        ·
          have H := iteT hb H
          rw [hb] at hF
          clear hb
          refine ls_g (wanted_y hF rfl rfl rfl rfl) ?_
          obtain ⟨x7, h6, H⟩ := bindE H
          refine ls hF hW rfl (y_call (v := Value.bool x7) hF H7 rfl (fun w hW => L05_awake_c any w _ h6 (((rdc_ro h_tab0) : Rdc _ _ _ _ _ _) w hW).nx)) (fun a w hF hW => ?_)
          refine ls hF hW rfl ((y_pick_t hF rfl rfl rfl).q) (fun a w hF hW => ?_)
          refine ls hF hW rfl ((y_assign hF rfl).q) (fun a w hF hW => ?_)
          refine ls_nil ?_
          refine c_then ?_
          have hW := hW.sub (M' := []) (Z' := []) (List.Sublist.refl _) (List.nil_sublist _)
          exact ⟨_, H, hF.re ⟨rfl, trivial⟩, hW⟩
        ·
          have H := iteF (by rw [hb]; decide) H
          rw [hb] at hF
          clear hb
          refine ls_skip hF (wanted_n hF rfl rfl rfl rfl rfl) rfl rfl (fun a hF => ?_)
          refine ls hF hW rfl ((y_pick_f hF rfl rfl rfl).q) (fun a w hF hW => ?_)
          refine ls hF hW rfl ((y_assign hF rfl).q) (fun a w hF hW => ?_)
          refine ls_nil ?_
          refine c_then ?_
          have hW := hW.sub (M' := []) (Z' := []) (List.Sublist.refl _) (List.nil_sublist _)
          exact ⟨_, H, hF.re ⟨rfl, trivial⟩, hW⟩
      rintro a w ⟨x6, hj, hF, hW⟩
      have hj := Option.some.inj hj
      subst hj
      have H := K1
      clear G1 K1
      refine wp_ret ?_
      have H := Option.some.inj H
      subst H
      refine post1 (.inl rfl) hF hW rfl (rv_tmp hF rfl) ?_
      exact ⟨rfl, hW.done⟩

noncomputable def L05_CrcLinear (p0 : List UInt8) (p1 : List UInt8) (p2 : Int) (p3 : Int) : Option Bool := (if (decide ((p0.length : Int) ≠ (p1.length : Int)) || decide (500 < (p0.length : Int))) = true then (L05_awake).bind fun x1 => some x1 else ((crc_More p2 p0).bind fun x3 => (crc_More p3 p1).bind fun x4 => (r05_Changed p0 0 p1).bind fun x5 => (crc_More (xorI .u32 p2 p3) x5).bind fun x6 => (if (xorI .u32 x3 x4) = x6 then (L05_awake).bind fun x7 => some x7 else some false)).bind fun x2 => some x2)
theorem L05_CrcLinear_c (Y : Nat → Prop) (w0 : World)  (p0 : List UInt8) (p1 : List UInt8) (p2 : Int) (p3 : Int) (r : Bool) (H : L05_CrcLinear p0 p1 p2 p3 = some r) (h_tab0 : Sl w0 (NX []) (Rp.int .u32) tab0 tab0_l) :
    Calls Tryd.prog 6 #[.string (bs p0), .string (bs p1), .int .u32 p2, .int .u32 p3] w0 fun e w' => e = .returned (.bool r) ∧ Below w0.heap.size w0 w' := by
  refine enter Tryd.func6 rfl Tryd.ntmps6 rfl (fun a hF => ?_)
  have hW := Stw.start Y w0
  unfold L05_CrcLinear at H
  refine c_seq ?_
  refine reg_list ?_
  refine ls hF hW rfl ((y_assign hF rfl).q) (fun a w hF hW => ?_)
  refine ls_nil ?_
  refine c_then ?_
  refine c_seq ?_
  refine c_seqJ (fun a w => Fr 38 [] [(0, .string (bs p0)), (1, .string (bs p1)), (2, .int .u32 p2), (3, .int .u32 p3), (8, .bool false), (18, .bool (decide ((p0.length : Int) ≠ (p1.length : Int)) || decide (500 < (p0.length : Int))))] a ∧ Stw ⟨Y, [], w0⟩ [] [] w) ?_ ?_
  ·
    refine reg_list ?_
    refine ls hF hW rfl ((y_move hF rfl).q) (fun a w hF hW => ?_)
    refine ls hF hW rfl ((y_slen (l := p0) Tryd.underlying9 rfl hF rfl).q) (fun a w hF hW => ?_)
    refine ls hF hW rfl ((y_move hF rfl).q) (fun a w hF hW => ?_)
    refine ls hF hW rfl ((y_slen (l := p1) Tryd.underlying9 rfl hF rfl).q) (fun a w hF hW => ?_)
    refine ls hF hW rfl ((y_neq hF rfl rfl).q) (fun a w hF hW => ?_)
    refine ls hF hW rfl ((y_move hF rfl).q) (fun a w hF hW => ?_)
    rcases Bool.eq_false_or_eq_true (decide ((p0.length : Int) ≠ (p1.length : Int))) with hb0 | hb0
    ·
      rw [hb0] at hF
      refine ls_skip hF (wanted_n hF rfl rfl rfl rfl rfl) rfl rfl (fun a hF => ?_)
      refine ls_skip hF (wanted_n hF rfl rfl rfl rfl rfl) rfl rfl (fun a hF => ?_)
      refine ls_skip hF (wanted_n hF rfl rfl rfl rfl rfl) rfl rfl (fun a hF => ?_)
      refine ls hF hW rfl ((y_pick_t hF rfl rfl rfl).q) (fun a w hF hW => ?_)
      refine ls_nil ?_
      refine c_then ?_
      exact ⟨hF.re ⟨rfl, rfl, rfl, rfl, rfl, (by show some (Value.bool true) = some (Value.bool (decide ((p0.length : Int) ≠ (p1.length : Int)) || decide (500 < (p0.length : Int)))); try rw [hb0]; all_goals simp only [Bool.not_true, Bool.not_false, Bool.true_and, Bool.false_and, Bool.true_or, Bool.false_or, Bool.and_true, Bool.or_false, cond_true, cond_false]), trivial⟩, hW⟩
    ·
      rw [hb0] at hF
      refine ls_w hF hW (wanted_y hF rfl rfl rfl rfl) rfl (Nat.le_of_ble_eq_true rfl) ((y_move hF rfl).q) (fun a w hF hW => ?_)
      refine ls_w hF hW (wanted_y hF rfl rfl rfl rfl) rfl (Nat.le_of_ble_eq_true rfl) ((y_slen (l := p0) Tryd.underlying9 rfl hF rfl).q) (fun a w hF hW => ?_)
      refine ls_w hF hW (wanted_y hF rfl rfl rfl rfl) rfl (Nat.le_of_ble_eq_true rfl) ((y_gtr hF rfl rfl).q) (fun a w hF hW => ?_)
      refine ls hF hW rfl ((y_pick_f hF rfl rfl rfl).q) (fun a w hF hW => ?_)
      refine ls_nil ?_
      refine c_then ?_
      exact ⟨hF.re ⟨rfl, rfl, rfl, rfl, rfl, (by show some (Value.bool (decide (500 < (p0.length : Int)))) = some (Value.bool (decide ((p0.length : Int) ≠ (p1.length : Int)) || decide (500 < (p0.length : Int)))); try rw [hb0]; all_goals simp only [Bool.not_true, Bool.not_false, Bool.true_and, Bool.false_and, Bool.true_or, Bool.false_or, Bool.and_true, Bool.or_false, cond_true, cond_false]), trivial⟩, hW⟩
  rintro a w ⟨hF, hW⟩
  refine c_cond hF rfl (fun hb => ?_) (fun hb => ?_)
  ·
    have H := iteT hb H
    rw [hb] at hF
    clear hb
    refine c_seq ?_
    refine reg_list ?_
    obtain ⟨x1, h1, H⟩ := bindE H
    refine ls hF hW rfl (y_call (v := Value.bool x1) hF H7 rfl (fun w hW => L05_awake_c any w _ h1 (((rdc_ro h_tab0) : Rdc _ _ _ _ _ _) w hW).nx)) (fun a w hF hW => ?_)
    refine ls hF hW rfl ((y_assign hF rfl).q) (fun a w hF hW => ?_)
    refine ls_nil ?_
    refine c_then ?_
    refine wp_ret ?_
    refine r_then ?_
    have H := Option.some.inj H
    subst H
    refine post1 (.inl rfl) hF hW rfl (rv_tmp hF rfl) ?_
    exact ⟨rfl, hW.done⟩
  ·
    have H := iteF (by rw [hb]; decide) H
    rw [hb] at hF
    clear hb
    refine wp_skip ?_
    refine c_then ?_
    obtain ⟨o1, G1, K1⟩ := bindE H
    refine c_seqJ (fun a w => ∃ x2 : Bool, some (x2) = some o1 ∧ Fr 38 [] [(8, .bool x2)] a ∧ Stw ⟨Y, [], w0⟩ [] [] w) ?_ ?_
    ·
      have H := G1
      clear G1 K1
      refine reg_list ?_
      refine ls hF hW rfl ((y_move hF rfl).q) (fun a w hF hW => ?_)
      refine ls hF hW rfl ((y_move hF rfl).q) (fun a w hF hW => ?_)
      obtain ⟨x3, h2, H⟩ := bindE H
      refine ls hF hW rfl (y_call (v := Value.int .u32 x3) hF H12 rfl (fun w hW => crc_More_c any w p2 p0 _ h2 (((rdc_ro h_tab0) : Rdc _ _ _ _ _ _) w hW).nx)) (fun a w hF hW => ?_)
      refine ls hF hW rfl ((y_move hF rfl).q) (fun a w hF hW => ?_)
      refine ls hF hW rfl ((y_move hF rfl).q) (fun a w hF hW => ?_)
      obtain ⟨x4, h3, H⟩ := bindE H
      refine ls hF hW rfl (y_call (v := Value.int .u32 x4) hF H12 rfl (fun w hW => crc_More_c any w p3 p1 _ h3 (((rdc_ro h_tab0) : Rdc _ _ _ _ _ _) w hW).nx)) (fun a w hF hW => ?_)
      refine ls hF hW rfl ((y_xor hF rfl rfl).q) (fun a w hF hW => ?_)
      refine ls hF hW rfl ((y_move hF rfl).q) (fun a w hF hW => ?_)
      refine ls hF hW rfl ((y_move hF rfl).q) (fun a w hF hW => ?_)
      refine ls hF hW rfl ((y_xor hF rfl rfl).q) (fun a w hF hW => ?_)
      refine ls hF hW rfl ((y_move hF rfl).q) (fun a w hF hW => ?_)
      refine ls hF hW rfl ((y_move hF rfl).q) (fun a w hF hW => ?_)
      obtain ⟨x5, h4, H⟩ := bindE H
      refine ls hF hW rfl (y_call (v := Value.string (bs x5)) hF H16 rfl (fun w hW => r05_Changed_c any w p0 0 p1 _ h4)) (fun a w hF hW => ?_)
      obtain ⟨x6, h5, H⟩ := bindE H
      refine ls hF hW rfl (y_call (v := Value.int .u32 x6) hF H12 rfl (fun w hW => crc_More_c any w (xorI .u32 p2 p3) x5 _ h5 (((rdc_ro h_tab0) : Rdc _ _ _ _ _ _) w hW).nx)) (fun a w hF hW => ?_)
      refine ls hF hW rfl ((y_eql hF rfl rfl).q) (fun a w hF hW => ?_)
      refine ls hF hW rfl ((y_move hF rfl).q) (fun a w hF hW => ?_)
      rcases Bool.eq_false_or_eq_true (decide ((xorI .u32 x3 x4) = x6)) with hb | hb
      ·
        have H := iteT (of_decide_eq_true hb) H
        rw [hb] at hF
        clear hb
        refine ls_g (wanted_y hF rfl rfl rfl rfl) ?_
        obtain ⟨x7, h6, H⟩ := bindE H
        refine ls hF hW rfl (y_call (v := Value.bool x7) hF H7 rfl (fun w hW => L05_awake_c any w _ h6 (((rdc_ro h_tab0) : Rdc _ _ _ _ _ _) w hW).nx)) (fun a w hF hW => ?_)
        refine ls hF hW rfl ((y_pick_t hF rfl rfl rfl).q) (fun a w hF hW => ?_)
        refine ls hF hW rfl ((y_assign hF rfl).q) (fun a w hF hW => ?_)
        refine ls_nil ?_
        refine c_then ?_
        exact ⟨_, H, hF.re ⟨rfl, trivial⟩, hW⟩
      ·
        have H := iteF (of_decide_eq_false hb) H
        rw [hb] at hF
        clear hb
        refine ls_skip hF (wanted_n hF rfl rfl rfl rfl rfl) rfl rfl (fun a hF => ?_)
        refine ls hF hW rfl ((y_pick_f hF rfl rfl rfl).q) (fun a w hF hW => ?_)
        refine ls hF hW rfl ((y_assign hF rfl).q) (fun a w hF hW => ?_)
        refine ls_nil ?_
        refine c_then ?_
        exact ⟨_, H, hF.re ⟨rfl, trivial⟩, hW⟩
    rintro a w ⟨x2, hj, hF, hW⟩
    have hj := Option.some.inj hj
    subst hj
    have H := K1
    clear G1 K1
    refine wp_ret ?_
    have H := Option.some.inj H
    subst H
    refine post1 (.inl rfl) hF hW rfl (rv_tmp hF rfl) ?_
    exact ⟨rfl, hW.done⟩

end Go.Proofs.YtnifdmdnifjilaaDoor
