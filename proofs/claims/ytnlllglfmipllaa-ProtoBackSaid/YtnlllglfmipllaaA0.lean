/- The functions of layer 16, lifted. Conditions: none. -/
import Derived.Test.YtnlllglfmipllaaRows
import Derived.Test.YtnlllglfmipllaaOB
import Derived.Test.YtnlllglfmipllaaQT
import Derived.Test.YtnlllglfmipllaaOT
import Derived.Test.YtnlllglfmipllaaOD
import Derived.Test.YtnlllglfmipllaaOC
namespace Go.Proofs.Ytnlllglfmipllaa
open Go Go.RowKit
set_option linter.unusedVariables false
set_option linter.unusedSimpArgs false
set_option maxRecDepth 20000
theorem u24_ : type_of% Try.underlying24 := Try.underlying24
theorem B24 : Bt Try.prog 24 [.int .i64 0, .int .i64 0, .int .i64 0, .int .i64 0, .int .i64 0, .int .i64 0, .int .i64 0, .int .i64 0, .int .i64 0, .slice none 0 0] [(0, 1), (1, 1), (2, 1), (3, 1), (4, 1), (5, 1), (6, 1), (7, 1), (8, 1), (9, 1)] := ⟨⟨.agg #[.int .i64 0, .int .i64 0, .int .i64 0, .int .i64 0, .int .i64 0, .int .i64 0, .int .i64 0, .int .i64 0, .int .i64 0, .slice none 0 0], by kernel_rfl, rfl⟩, ⟨_, u24_, fun w => by kernel_rfl⟩⟩
theorem Z24 : (Try.prog.info? 24).bind (·.zero) = some (.agg #[.int .i64 0, .int .i64 0, .int .i64 0, .int .i64 0, .int .i64 0, .int .i64 0, .int .i64 0, .int .i64 0, .int .i64 0, .slice none 0 0]) := by kernel_rfl
theorem T24 : Ty Try.prog 24 true 10 := ⟨by kernel_rfl, by kernel_rfl⟩
abbrev R35 : Rp (Int × Int × Int × Int) := (Rp.pair (Rp.int .i64) (Rp.pair (Rp.int .i64) (Rp.pair (Rp.int .i64) (Rp.int .i64))))
abbrev R37 : Rp (Int × (Int × Int × Int × Int) × (Int × Int × Int × Int)) := (Rp.pair (Rp.int .i64) (Rp.pair R35 R35))
abbrev R77 : Rp (Int × Int × Int) := (Rp.pair (Rp.int .i64) (Rp.pair (Rp.int .i64) (Rp.int .i64)))
abbrev R40 : Rp (Int × (Int × (Int × Int × Int × Int) × (Int × Int × Int × Int)) × (List (Int × Int × Int))) := (Rp.pair (Rp.int .i64) (Rp.pair R37 (Rp.slice R77)))
abbrev R42 : Rp (Int × (Int × (Int × (Int × Int × Int × Int) × (Int × Int × Int × Int)) × (List (Int × Int × Int))) × Bool) := (Rp.pair (Rp.int .i64) (Rp.pair R40 Rp.bool))
abbrev RX40 : Rp (Int × (Int × (Int × Int × Int × Int) × (Int × Int × Int × Int)) × (Value × List (Int × Int × Int))) := (Rp.pair (Rp.int .i64) (Rp.pair R37 (Rp.vsl R77)))
abbrev RX42 : Rp (Int × (Int × (Int × (Int × Int × Int × Int) × (Int × Int × Int × Int)) × (Value × List (Int × Int × Int))) × Bool) := (Rp.pair (Rp.int .i64) (Rp.pair RX40 Rp.bool))
abbrev ER42 (p : Int × (Int × (Int × (Int × Int × Int × Int) × (Int × Int × Int × Int)) × (Value × List (Int × Int × Int))) × Bool) : Int × (Int × (Int × (Int × Int × Int × Int) × (Int × Int × Int × Int)) × (List (Int × Int × Int))) × Bool := (p.1, (p.2.1.1, p.2.1.2.1, p.2.1.2.2.2), p.2.2)
theorem EX42 : Ex R42 RX42 ER42 := (Ex.pair Ex.rfl' (Ex.pair (Ex.pair Ex.rfl' (Ex.pair Ex.rfl' Ex.sliceF)) Ex.rfl'))
theorem T3 : Ty Try.prog 3 false 1 := ⟨by kernel_rfl, by kernel_rfl⟩
def proto_fields (p0 : Int) : Int × Bool := (if p0 = 1 then (1, true) else (if p0 = 2 then (7, true) else (if p0 = 3 then (152, true) else (if p0 = 4 then (26, true) else (if p0 = 5 then (24, true) else (if p0 = 6 then (72, true) else (if p0 = 7 then (60, true) else (if p0 = 8 then (124, true) else (0, false)))))))))
theorem proto_fields_c (Y : Nat → Prop) (w0 : World)  (p0 : Int) (r : Int × Bool) (H : proto_fields p0 = r)  :
    Calls Try.prog 16 #[.int .i64 p0] w0 fun e w' => e = .returned (.tuple #[.int .i64 r.1, .bool r.2]) ∧ Below w0.heap.size w0 w' := by
 refine enter Try.func16 rfl Try.ntmps16 rfl (fun a hF => ?_)
 have hW := Stw.start Y w0
 unfold proto_fields at H
 refine c_seq ?_
 refine reg_list ?_
 refine ls hF hW rfl ((y_assign hF rfl).q) (fun a w hF hW => ?_)
 refine ls hF hW rfl ((y_assign hF rfl).q) (fun a w hF hW => ?_)
 refine ls_nil ?_
 refine c_then ?_
 refine c_seq ?_
 refine c_seq ?_
 refine reg_list ?_
 refine ls hF hW rfl ((y_move hF rfl).q) (fun a w hF hW => ?_)
 refine ls_nil ?_
 refine c_then ?_
 refine wp_block ?_
 refine c_seq ?_
 refine reg_list ?_
 refine ls hF hW rfl ((y_eql hF rfl rfl).q) (fun a w hF hW => ?_)
 refine ls hF hW rfl ((y_assign hF rfl).q) (fun a w hF hW => ?_)
 refine ls_nil ?_
 refine c_then ?_
 refine c_cond hF rfl (fun hb => ?_) (fun hb => ?_)
 ·
  have H := iteT (of_decide_eq_true hb) H
  rw [hb] at hF
  clear hb
  refine c_seq ?_
  refine reg_list ?_
  refine ls hF hW rfl ((y_assign hF rfl).q) (fun a w hF hW => ?_)
  refine ls hF hW rfl ((y_assign hF rfl).q) (fun a w hF hW => ?_)
  refine ls_nil ?_
  refine c_then ?_
  refine wp_ret ?_
  refine r_block ?_
  refine r_then ?_
  subst H
  refine post2 (.inl rfl) hF hW rfl (rv_tmp hF rfl) (rv_tmp hF rfl) ?_
  exact ⟨rfl, hW.done⟩
 ·
  have H := iteF (of_decide_eq_false hb) H
  rw [hb] at hF
  clear hb
  refine c_seq ?_
  refine reg_list ?_
  refine ls hF hW rfl ((y_eql hF rfl rfl).q) (fun a w hF hW => ?_)
  refine ls hF hW rfl ((y_assign hF rfl).q) (fun a w hF hW => ?_)
  refine ls_nil ?_
  refine c_then ?_
  refine c_cond hF rfl (fun hb => ?_) (fun hb => ?_)
  ·
   have H := iteT (of_decide_eq_true hb) H
   rw [hb] at hF
   clear hb
   refine c_seq ?_
   refine reg_list ?_
   refine ls hF hW rfl ((y_assign hF rfl).q) (fun a w hF hW => ?_)
   refine ls hF hW rfl ((y_assign hF rfl).q) (fun a w hF hW => ?_)
   refine ls_nil ?_
   refine c_then ?_
   refine wp_ret ?_
   refine r_block ?_
   refine r_then ?_
   subst H
   refine post2 (.inl rfl) hF hW rfl (rv_tmp hF rfl) (rv_tmp hF rfl) ?_
   exact ⟨rfl, hW.done⟩
  ·
   have H := iteF (of_decide_eq_false hb) H
   rw [hb] at hF
   clear hb
   refine c_seq ?_
   refine reg_list ?_
   refine ls hF hW rfl ((y_eql hF rfl rfl).q) (fun a w hF hW => ?_)
   refine ls hF hW rfl ((y_assign hF rfl).q) (fun a w hF hW => ?_)
   refine ls_nil ?_
   refine c_then ?_
   refine c_cond hF rfl (fun hb => ?_) (fun hb => ?_)
   ·
    have H := iteT (of_decide_eq_true hb) H
    rw [hb] at hF
    clear hb
    refine c_seq ?_
    refine reg_list ?_
    refine ls hF hW rfl ((y_assign hF rfl).q) (fun a w hF hW => ?_)
    refine ls hF hW rfl ((y_assign hF rfl).q) (fun a w hF hW => ?_)
    refine ls_nil ?_
    refine c_then ?_
    refine wp_ret ?_
    refine r_block ?_
    refine r_then ?_
    subst H
    refine post2 (.inl rfl) hF hW rfl (rv_tmp hF rfl) (rv_tmp hF rfl) ?_
    exact ⟨rfl, hW.done⟩
   ·
    have H := iteF (of_decide_eq_false hb) H
    rw [hb] at hF
    clear hb
    refine c_seq ?_
    refine reg_list ?_
    refine ls hF hW rfl ((y_eql hF rfl rfl).q) (fun a w hF hW => ?_)
    refine ls hF hW rfl ((y_assign hF rfl).q) (fun a w hF hW => ?_)
    refine ls_nil ?_
    refine c_then ?_
    refine c_cond hF rfl (fun hb => ?_) (fun hb => ?_)
    ·
     have H := iteT (of_decide_eq_true hb) H
     rw [hb] at hF
     clear hb
     refine c_seq ?_
     refine reg_list ?_
     refine ls hF hW rfl ((y_assign hF rfl).q) (fun a w hF hW => ?_)
     refine ls hF hW rfl ((y_assign hF rfl).q) (fun a w hF hW => ?_)
     refine ls_nil ?_
     refine c_then ?_
     refine wp_ret ?_
     refine r_block ?_
     refine r_then ?_
     subst H
     refine post2 (.inl rfl) hF hW rfl (rv_tmp hF rfl) (rv_tmp hF rfl) ?_
     exact ⟨rfl, hW.done⟩
    ·
     have H := iteF (of_decide_eq_false hb) H
     rw [hb] at hF
     clear hb
     refine c_seq ?_
     refine reg_list ?_
     refine ls hF hW rfl ((y_eql hF rfl rfl).q) (fun a w hF hW => ?_)
     refine ls hF hW rfl ((y_assign hF rfl).q) (fun a w hF hW => ?_)
     refine ls_nil ?_
     refine c_then ?_
     refine c_cond hF rfl (fun hb => ?_) (fun hb => ?_)
     ·
      have H := iteT (of_decide_eq_true hb) H
      rw [hb] at hF
      clear hb
      refine c_seq ?_
      refine reg_list ?_
      refine ls hF hW rfl ((y_assign hF rfl).q) (fun a w hF hW => ?_)
      refine ls hF hW rfl ((y_assign hF rfl).q) (fun a w hF hW => ?_)
      refine ls_nil ?_
      refine c_then ?_
      refine wp_ret ?_
      refine r_block ?_
      refine r_then ?_
      subst H
      refine post2 (.inl rfl) hF hW rfl (rv_tmp hF rfl) (rv_tmp hF rfl) ?_
      exact ⟨rfl, hW.done⟩
     ·
      have H := iteF (of_decide_eq_false hb) H
      rw [hb] at hF
      clear hb
      refine c_seq ?_
      refine reg_list ?_
      refine ls hF hW rfl ((y_eql hF rfl rfl).q) (fun a w hF hW => ?_)
      refine ls hF hW rfl ((y_assign hF rfl).q) (fun a w hF hW => ?_)
      refine ls_nil ?_
      refine c_then ?_
      refine c_cond hF rfl (fun hb => ?_) (fun hb => ?_)
      ·
       have H := iteT (of_decide_eq_true hb) H
       rw [hb] at hF
       clear hb
       refine c_seq ?_
       refine reg_list ?_
       refine ls hF hW rfl ((y_assign hF rfl).q) (fun a w hF hW => ?_)
       refine ls hF hW rfl ((y_assign hF rfl).q) (fun a w hF hW => ?_)
       refine ls_nil ?_
       refine c_then ?_
       refine wp_ret ?_
       refine r_block ?_
       refine r_then ?_
       subst H
       refine post2 (.inl rfl) hF hW rfl (rv_tmp hF rfl) (rv_tmp hF rfl) ?_
       exact ⟨rfl, hW.done⟩
      ·
       have H := iteF (of_decide_eq_false hb) H
       rw [hb] at hF
       clear hb
       refine c_seq ?_
       refine reg_list ?_
       refine ls hF hW rfl ((y_eql hF rfl rfl).q) (fun a w hF hW => ?_)
       refine ls hF hW rfl ((y_assign hF rfl).q) (fun a w hF hW => ?_)
       refine ls_nil ?_
       refine c_then ?_
       refine c_cond hF rfl (fun hb => ?_) (fun hb => ?_)
       ·
        have H := iteT (of_decide_eq_true hb) H
        rw [hb] at hF
        clear hb
        refine c_seq ?_
        refine reg_list ?_
        refine ls hF hW rfl ((y_assign hF rfl).q) (fun a w hF hW => ?_)
        refine ls hF hW rfl ((y_assign hF rfl).q) (fun a w hF hW => ?_)
        refine ls_nil ?_
        refine c_then ?_
        refine wp_ret ?_
        refine r_block ?_
        refine r_then ?_
        subst H
        refine post2 (.inl rfl) hF hW rfl (rv_tmp hF rfl) (rv_tmp hF rfl) ?_
        exact ⟨rfl, hW.done⟩
       ·
        have H := iteF (of_decide_eq_false hb) H
        rw [hb] at hF
        clear hb
        refine c_seq ?_
        refine reg_list ?_
        refine ls hF hW rfl ((y_eql hF rfl rfl).q) (fun a w hF hW => ?_)
        refine ls hF hW rfl ((y_assign hF rfl).q) (fun a w hF hW => ?_)
        refine ls_nil ?_
        refine c_then ?_
        refine c_cond hF rfl (fun hb => ?_) (fun hb => ?_)
        ·
         have H := iteT (of_decide_eq_true hb) H
         rw [hb] at hF
         clear hb
         refine c_seq ?_
         refine reg_list ?_
         refine ls hF hW rfl ((y_assign hF rfl).q) (fun a w hF hW => ?_)
         refine ls hF hW rfl ((y_assign hF rfl).q) (fun a w hF hW => ?_)
         refine ls_nil ?_
         refine c_then ?_
         refine wp_ret ?_
         refine r_block ?_
         refine r_then ?_
         subst H
         refine post2 (.inl rfl) hF hW rfl (rv_tmp hF rfl) (rv_tmp hF rfl) ?_
         exact ⟨rfl, hW.done⟩
        ·
         have H := iteF (of_decide_eq_false hb) H
         rw [hb] at hF
         clear hb
         refine wp_skip ?_
         refine b_normal ?_
         refine c_then ?_
         refine c_seq ?_
         refine reg_list ?_
         refine ls hF hW rfl ((y_assign hF rfl).q) (fun a w hF hW => ?_)
         refine ls hF hW rfl ((y_assign hF rfl).q) (fun a w hF hW => ?_)
         refine ls_nil ?_
         refine c_then ?_
         refine wp_ret ?_
         subst H
         refine post2 (.inl rfl) hF hW rfl (rv_tmp hF rfl) (rv_tmp hF rfl) ?_
         exact ⟨rfl, hW.done⟩

theorem H16 : Has Try.prog 16 := ⟨fun args w => run_callFunc_body Try.func16 rfl (by decide) args w⟩
theorem Z3 : (Try.prog.info? 3).bind (·.zero) = some (.int .i64 0) := by kernel_rfl
theorem MO : Try.prog.follows .mixedOrders = true := by kernel_rfl
def proto_Clean_1 (p0 : Int) (p1 : Int) (p2 : Int) : Int := (if (andI .i64 p2 p0) = 0 then 0 else p1)
theorem proto_Clean_1_c (Y : Nat → Prop) (w0 : World) (q_p2 : Nat) (p0 : Int) (p1 : Int) (p2 : Int) (r : Int) (H : proto_Clean_1 p0 p1 p2 = r) (a_q_p2 : At ⟨Y, [], w0⟩ q_p2 0 [.int .i64 p2]) :
    Calls Try.prog 24 #[.int .i64 p0, .int .i64 p1, .pointer (some ⟨q_p2, 0, none⟩)] w0 fun e w' => e = .returned (.int .i64 r) ∧ Below w0.heap.size w0 w' := by
 refine enter Try.func24 rfl Try.ntmps24 rfl (fun a hF => ?_)
 have hW := Stw.start Y w0
 unfold proto_Clean_1 at H
 refine c_seq ?_
 refine reg_list ?_
 refine ls hF hW rfl ((y_assign hF rfl).q) (fun a w hF hW => ?_)
 refine ls_nil ?_
 refine c_then ?_
 refine c_seq ?_
 refine c_seq ?_
 refine reg_list ?_
 refine ls hF hW rfl ((y_load_at (y := Value.int .i64 p2) (j := 0) hF rfl (Nat.zero_add _).symm a_q_p2 T3 rfl).q) (fun a w hF hW => ?_)
 refine ls hF hW rfl ((y_move hF rfl).q) (fun a w hF hW => ?_)
 refine ls hF hW rfl ((y_and hF rfl rfl).q) (fun a w hF hW => ?_)
 refine ls hF hW rfl ((y_eql hF rfl rfl).q) (fun a w hF hW => ?_)
 refine ls_nil ?_
 refine c_then ?_
 refine c_cond hF rfl (fun hb => ?_) (fun hb => ?_)
 ·
  have H := iteT (of_decide_eq_true hb) H
  rw [hb] at hF
  clear hb
  refine c_seq ?_
  refine reg_list ?_
  refine ls hF hW rfl ((y_assign hF rfl).q) (fun a w hF hW => ?_)
  refine ls_nil ?_
  refine c_then ?_
  refine wp_ret ?_
  refine r_then ?_
  subst H
  refine post1 (.inl rfl) hF hW rfl (rv_tmp hF rfl) ?_
  exact ⟨rfl, hW.done⟩
 ·
  have H := iteF (of_decide_eq_false hb) H
  rw [hb] at hF
  clear hb
  refine wp_skip ?_
  refine c_then ?_
  refine c_seq ?_
  refine reg_list ?_
  refine ls hF hW rfl ((y_move hF rfl).q) (fun a w hF hW => ?_)
  refine ls hF hW rfl ((y_assign hF rfl).q) (fun a w hF hW => ?_)
  refine ls_nil ?_
  refine c_then ?_
  refine wp_ret ?_
  subst H
  refine post1 (.inl rfl) hF hW rfl (rv_tmp hF rfl) ?_
  exact ⟨rfl, hW.done⟩

theorem u22_ : type_of% Try.underlying22 := Try.underlying22
theorem H24 : Has Try.prog 24 := ⟨fun args w => run_callFunc_body Try.func24 rfl (by decide) args w⟩
theorem T22 : Ty Try.prog 22 false 1 := ⟨by kernel_rfl, by kernel_rfl⟩
theorem Z42 : (Try.prog.info? 42).bind (·.zero) = some (.agg #[.int .i64 0, .int .i64 0, .int .i64 0, .int .i64 0, .int .i64 0, .int .i64 0, .int .i64 0, .int .i64 0, .int .i64 0, .int .i64 0, .int .i64 0, .slice none 0 0, .bool false]) := by kernel_rfl
theorem L22 : Et Try.prog 22 42 13 120 := Et.of u22_ (by kernel_rfl) (by kernel_rfl) (by kernel_rfl) (by decide)
noncomputable def slices_Clone_api_Mod_api_Mod (p0 : List (Int × (Int × (Int × (Int × Int × Int × Int) × (Int × Int × Int × Int)) × (List (Int × Int × Int))) × Bool)) : Option (List (Int × (Int × (Int × (Int × Int × Int × Int) × (Int × Int × Int × Int)) × (List (Int × Int × Int))) × Bool)) := (app ([] : List (Int × (Int × (Int × (Int × Int × Int × Int) × (Int × Int × Int × Int)) × (List (Int × Int × Int))) × Bool)) p0).bind fun x1 => some x1
theorem slices_Clone_api_Mod_api_Mod_c (Y : Nat → Prop) (w0 : World) (v1 : Value) (p0 : List (Int × (Int × (Int × (Int × Int × Int × Int) × (Int × Int × Int × Int)) × (List (Int × Int × Int))) × Bool)) (r : (List (Int × (Int × (Int × (Int × Int × Int × Int) × (Int × Int × Int × Int)) × (List (Int × Int × Int))) × Bool))) (H : slices_Clone_api_Mod_api_Mod p0 = some r) (s_v1 : Sl w0 Y R42 v1 p0) :
    Calls Try.prog 45 #[v1] w0 fun e w' => ∃ x : Value, e = .returned (x) ∧ Stw ⟨Y, [], w0⟩ [] [row (x) 42 R42 r] w' := by
 refine enter Try.func45 rfl Try.ntmps45 rfl (fun a hF => ?_)
 have hW := Stw.start Y w0
 obtain ⟨v2, h1, s_v1⟩ := s_v1.ex EX42
 have h_v1 := hW.nx s_v1
 unfold slices_Clone_api_Mod_api_Mod at H
 refine c_seq ?_
 refine reg_list ?_
 refine ls hF hW rfl ((y_assign hF rfl).q) (fun a w hF hW => ?_)
 refine ls_nil ?_
 refine c_then ?_
 refine c_seq ?_
 refine c_seq ?_
 refine reg_list ?_
 refine ls hF hW rfl ((y_move hF rfl).q) (fun a w hF hW => ?_)
 refine ls hF hW rfl ((y_eqlnil (r := R42) u22_ hF rfl (rdc_hide EX42 h1 (rdc_ro h_v1))).q) (fun a w hF hW => ?_)
 refine ls_nil ?_
 refine c_then ?_
 rcases nil_cases (rdc_hide EX42 h1 (rdc_ro h_v1)) hW with ⟨hb, hl⟩ | hb
 ·
  rw [hl] at H
  change some ([] : List (Int × (Int × (Int × (Int × Int × Int × Int) × (Int × Int × Int × Int)) × (List (Int × Int × Int))) × Bool)) = _ at H
  rw [hb] at hF
  refine c_cond_t hF rfl ?_
  refine c_seq ?_
  refine reg_list ?_
  refine ls hF hW rfl ((y_assign hF rfl).q) (fun a w hF hW => ?_)
  refine ls_nil ?_
  refine c_then ?_
  refine wp_ret ?_
  refine r_then ?_
  have H := Option.some.inj H
  subst H
  refine post1 (.inl rfl) hF hW rfl (rv_tmp hF rfl) ?_
  have hW := hW.nilRow 42 R42
  exact ⟨(Value.slice none 0 0), rfl, hW⟩
 ·
  rw [hb] at hF
  refine c_cond_f hF rfl ?_
  refine wp_skip ?_
  refine c_then ?_
  refine c_seq ?_
  refine reg_list ?_
  refine l_lit (z := Value.agg #[.int .i64 0, .int .i64 0, .int .i64 0, .int .i64 0, .int .i64 0, .int .i64 0, .int .i64 0, .int .i64 0, .int .i64 0, .int .i64 0, .int .i64 0, .slice none 0 0, .bool false]) (cs := []) R42 ([] : List (Int × (Int × (Int × (Int × Int × Int × Int) × (Int × Int × Int × Int)) × (List (Int × Int × Int))) × Bool)) hF hW rfl L22 Z42 rfl rfl rfl fill_nil rfl rfl rfl (fun v3 a w hF hW => ?_)
  refine ls hF hW rfl ((y_move hF rfl).q) (fun a w hF hW => ?_)
  obtain ⟨x1, h2, H⟩ := bindE H
  refine l_append (r := R42) (i := 0) hF hW rfl L22 rfl rfl rfl rfl (Src.hide EX42 h1 (src_old hW s_v1)) h2 rfl (fun v4 a w hF hW => ?_)
  have hW : Stw ⟨Y, [], w0⟩ [] [row v4 42 R42 x1] w := hW
  refine ls hF hW rfl ((y_assign hF rfl).q) (fun a w hF hW => ?_)
  refine ls_nil ?_
  refine c_then ?_
  refine wp_ret ?_
  have H := Option.some.inj H
  subst H
  refine post1 (.inl rfl) hF hW rfl (rv_tmp hF rfl) ?_
  exact ⟨(v4), rfl, hW⟩

theorem u38_ : type_of% Try.underlying38 := Try.underlying38
theorem H45 : Has Try.prog 45 := ⟨fun args w => run_callFunc_body Try.func45 rfl (by decide) args w⟩
def E35 (a : Int × Int × Int × Int) : List Value := [.int .i64 a.1, .int .i64 a.2.1, .int .i64 a.2.2.1, .int .i64 a.2.2.2]
theorem F35 : Fl R35 E35 := (Fl.pair Fl.int (Fl.pair Fl.int (Fl.pair Fl.int Fl.int)))
def E37 (a : Int × (Int × Int × Int × Int) × (Int × Int × Int × Int)) : List Value := [.int .i64 a.1, .int .i64 a.2.1.1, .int .i64 a.2.1.2.1, .int .i64 a.2.1.2.2.1, .int .i64 a.2.1.2.2.2, .int .i64 a.2.2.1, .int .i64 a.2.2.2.1, .int .i64 a.2.2.2.2.1, .int .i64 a.2.2.2.2.2]
theorem F37 : Fl R37 E37 := (Fl.pair Fl.int (Fl.pair F35 F35))
abbrev EE42 (a : Int × (Int × (Int × (Int × Int × Int × Int) × (Int × Int × Int × Int)) × (Value × List (Int × Int × Int))) × Bool) : List Value := [.int .i64 a.1, .int .i64 a.2.1.1, .int .i64 a.2.1.2.1.1, .int .i64 a.2.1.2.1.2.1.1, .int .i64 a.2.1.2.1.2.1.2.1, .int .i64 a.2.1.2.1.2.1.2.2.1, .int .i64 a.2.1.2.1.2.1.2.2.2, .int .i64 a.2.1.2.1.2.2.1, .int .i64 a.2.1.2.1.2.2.2.1, .int .i64 a.2.1.2.1.2.2.2.2.1, .int .i64 a.2.1.2.1.2.2.2.2.2, a.2.1.2.2.1, .bool a.2.2]
theorem FE42 : Flat RX42 EE42 := (Flat.pair Fl.int.to (Flat.pair (Flat.pair Fl.int.to (Flat.pair F37.to Flat.vsl)) Fl.bool.to))
theorem T40 : Ty Try.prog 40 true 11 := ⟨by kernel_rfl, by kernel_rfl⟩
theorem T38 : Ty Try.prog 38 false 1 := ⟨by kernel_rfl, by kernel_rfl⟩
theorem Z77 : (Try.prog.info? 77).bind (·.zero) = some (.agg #[.int .i64 0, .int .i64 0, .int .i64 0]) := by kernel_rfl
def E77 (a : Int × Int × Int) : List Value := [.int .i64 a.1, .int .i64 a.2.1, .int .i64 a.2.2]
theorem F77 : Fl R77 E77 := (Fl.pair Fl.int (Fl.pair Fl.int Fl.int))
theorem L38 : Et Try.prog 38 77 3 24 := Et.of u38_ (by kernel_rfl) (by kernel_rfl) (by kernel_rfl) (by decide)
noncomputable def slices_Clone_api_Act_api_Act (p0 : List (Int × Int × Int)) : Option (List (Int × Int × Int)) := (app ([] : List (Int × Int × Int)) p0).bind fun x1 => some x1
theorem slices_Clone_api_Act_api_Act_c (Y : Nat → Prop) (w0 : World) (v1 : Value) (p0 : List (Int × Int × Int)) (r : (List (Int × Int × Int))) (H : slices_Clone_api_Act_api_Act p0 = some r) (s_v1 : Sl w0 Y R77 v1 p0) :
    Calls Try.prog 46 #[v1] w0 fun e w' => ∃ x : Value, e = .returned (x) ∧ Stw ⟨Y, [], w0⟩ [] [row (x) 77 R77 r] w' := by
 refine enter Try.func46 rfl Try.ntmps46 rfl (fun a hF => ?_)
 have hW := Stw.start Y w0
 have h_v1 := hW.nx s_v1
 unfold slices_Clone_api_Act_api_Act at H
 refine c_seq ?_
 refine reg_list ?_
 refine ls hF hW rfl ((y_assign hF rfl).q) (fun a w hF hW => ?_)
 refine ls_nil ?_
 refine c_then ?_
 refine c_seq ?_
 refine c_seq ?_
 refine reg_list ?_
 refine ls hF hW rfl ((y_move hF rfl).q) (fun a w hF hW => ?_)
 refine ls hF hW rfl ((y_eqlnil (r := R77) u38_ hF rfl (rdc_ro h_v1)).q) (fun a w hF hW => ?_)
 refine ls_nil ?_
 refine c_then ?_
 rcases nil_cases (rdc_ro h_v1) hW with ⟨hb, hl⟩ | hb
 ·
  rw [hl] at H
  change some ([] : List (Int × Int × Int)) = _ at H
  rw [hb] at hF
  refine c_cond_t hF rfl ?_
  refine c_seq ?_
  refine reg_list ?_
  refine ls hF hW rfl ((y_assign hF rfl).q) (fun a w hF hW => ?_)
  refine ls_nil ?_
  refine c_then ?_
  refine wp_ret ?_
  refine r_then ?_
  have H := Option.some.inj H
  subst H
  refine post1 (.inl rfl) hF hW rfl (rv_tmp hF rfl) ?_
  have hW := hW.nilRow 77 R77
  exact ⟨(Value.slice none 0 0), rfl, hW⟩
 ·
  rw [hb] at hF
  refine c_cond_f hF rfl ?_
  refine wp_skip ?_
  refine c_then ?_
  refine c_seq ?_
  refine reg_list ?_
  refine l_lit (z := Value.agg #[.int .i64 0, .int .i64 0, .int .i64 0]) (cs := []) R77 ([] : List (Int × Int × Int)) hF hW rfl L38 Z77 rfl rfl rfl rfl rfl rfl (F77.repL _ _ ([] : List (Int × Int × Int))) (fun v2 a w hF hW => ?_)
  refine ls hF hW rfl ((y_move hF rfl).q) (fun a w hF hW => ?_)
  obtain ⟨x1, h1, H⟩ := bindE H
  refine l_append (r := R77) (i := 0) hF hW rfl L38 rfl rfl rfl rfl (src_old hW s_v1) h1 rfl (fun v3 a w hF hW => ?_)
  have hW : Stw ⟨Y, [], w0⟩ [] [row v3 77 R77 x1] w := hW
  refine ls hF hW rfl ((y_assign hF rfl).q) (fun a w hF hW => ?_)
  refine ls_nil ?_
  refine c_then ?_
  refine wp_ret ?_
  have H := Option.some.inj H
  subst H
  refine post1 (.inl rfl) hF hW rfl (rv_tmp hF rfl) ?_
  exact ⟨(v3), rfl, hW⟩

theorem u40_ : type_of% Try.underlying40 := Try.underlying40
theorem u42_ : type_of% Try.underlying42 := Try.underlying42
theorem H46 : Has Try.prog 46 := ⟨fun args w => run_callFunc_body Try.func46 rfl (by decide) args w⟩
noncomputable def proto_copied_l1 (x1 : (List (Int × (Int × (Int × (Int × Int × Int × Int) × (Int × Int × Int × Int)) × (List (Int × Int × Int))) × Bool))) : ((List (Int × (Int × (Int × (Int × Int × Int × Int) × (Int × Int × Int × Int)) × (List (Int × Int × Int))) × Bool)) × Int) → Option (((List (Int × (Int × (Int × (Int × Int × Int × Int) × (Int × Int × Int × Int)) × (List (Int × Int × Int))) × Bool)) × Int) ⊕ (List (Int × (Int × (Int × (Int × Int × Int × Int) × (Int × Int × Int × Int)) × (List (Int × Int × Int))) × Bool)))
  | (x3, x4) => (if x4 < (x1.length : Int) then (ix x3 x4).bind fun x5 => (slices_Clone_api_Act_api_Act x5.2.1.2.2).bind fun x6 => (ix x3 x4).bind fun x7 => some (.inl ((setAt x3 x4 (x7.1, (x7.2.1.1, x7.2.1.2.1, x6), x7.2.2)), w64 (x4 + 1))) else some (.inr x3))
noncomputable def proto_copied (p0 : List (Int × (Int × (Int × (Int × Int × Int × Int) × (Int × Int × Int × Int)) × (List (Int × Int × Int))) × Bool)) : Option (List (Int × (Int × (Int × (Int × Int × Int × Int) × (Int × Int × Int × Int)) × (List (Int × Int × Int))) × Bool)) := (slices_Clone_api_Mod_api_Mod p0).bind fun x1 => (loopW (proto_copied_l1 x1) (x1, 0)).bind fun x2 => some x2
theorem proto_copied_c (Y : Nat → Prop) (w0 : World) (v1 : Value) (p0 : List (Int × (Int × (Int × (Int × Int × Int × Int) × (Int × Int × Int × Int)) × (List (Int × Int × Int))) × Bool)) (r : (List (Int × (Int × (Int × (Int × Int × Int × Int) × (Int × Int × Int × Int)) × (List (Int × Int × Int))) × Bool))) (H : proto_copied p0 = some r) (s_v1 : Sl w0 Y R42 v1 p0) :
    Calls Try.prog 25 #[v1] w0 fun e w' => ∃ x : Value, e = .returned (x) ∧ Stw ⟨Y, [], w0⟩ [] [row (x) 42 R42 r] w' := by
 refine enter Try.func25 rfl Try.ntmps25 rfl (fun a hF => ?_)
 have hW := Stw.start Y w0
 obtain ⟨v2, h1, s_v1⟩ := s_v1.ex EX42
 have h_v1 := hW.nx s_v1
 unfold proto_copied at H
 refine c_seq ?_
 refine reg_list ?_
 refine ls hF hW rfl ((y_assign hF rfl).q) (fun a w hF hW => ?_)
 refine ls_nil ?_
 refine c_then ?_
 refine c_seq ?_
 refine reg_list ?_
 refine ls hF hW rfl ((y_move hF rfl).q) (fun a w hF hW => ?_)
 obtain ⟨x1, h2, H⟩ := bindE H
 refine l_callG (Ml := []) (Zl := []) (M := []) (Z := []) (β := Value) (rv := fun x => x) (MM := fun x => []) (ZZ := fun x => [row x 42 R42 x1]) hF hW H45 rfl rfl (fun hL => slices_Clone_api_Mod_api_Mod_c _ w (v1) p0 _ h2 (Sl.hide EX42 h1 (hW.old s_v1))) (fun x a w hF hW => ?_)
 obtain ⟨v3, rfl⟩ : ∃ y, y = x := ⟨x, rfl⟩
 have hW : Stw ⟨Y, [], w0⟩ [] [row v3 42 R42 x1] w := hW
 refine ls hF hW rfl ((y_assign hF rfl).q) (fun a w hF hW => ?_)
 refine ls_nil ?_
 refine c_then ?_
 obtain ⟨o1, G1, K1⟩ := bindE H
 refine c_seqJ (fun a w => ∃ x2 : List (Int × (Int × (Int × (Int × Int × Int × Int) × (Int × Int × Int × Int)) × (List (Int × Int × Int))) × Bool), some (x2) = some o1 ∧ Fr 26 [] [(2, .slice none 0 0), (3, v3)] a ∧ Stw ⟨Y, [], w0⟩ [] [row v3 42 R42 x2] w) ?_ ?_
 ·
  have H := G1
  clear G1 K1
  refine c_seq ?_
  refine reg_list ?_
  refine ls hF hW rfl ((y_move hF rfl).q) (fun a w hF hW => ?_)
  refine ls hF hW rfl ((y_len (r := R42) (l := x1) u22_ rfl hF rfl (rdc_row 0 rfl)).q) (fun a w hF hW => ?_)
  refine ls hF hW rfl ((y_move hF rfl).q) (fun a w hF hW => ?_)
  refine ls_nil ?_
  refine c_then ?_
  refine wp_block ?_
  refine c_loopW H (fun s a w => Fr 26 [] [(2, .slice none 0 0), (3, v3), (8, .int .i64 (x1.length : Int)), (9, .int .i64 s.2)] a ∧ Stw ⟨Y, [], w0⟩ [] [row v3 42 R42 s.1] w) ⟨hF.re ⟨rfl, rfl, rfl, rfl, trivial⟩, hW⟩ (fun s o a w H L2 hR => ?_)
  obtain ⟨x3, x4⟩ := s
  obtain ⟨hF, hW⟩ := hR
  have hF : Fr 26 [] [(2, .slice none 0 0), (3, v3), (8, .int .i64 (x1.length : Int)), (9, .int .i64 x4)] a := hF
  have hW : Stw ⟨Y, [], w0⟩ [] [row v3 42 R42 x3] w := hW
  rw [proto_copied_l1] at H
  refine c_seq ?_
  refine reg_list ?_
  refine ls hF hW rfl ((y_lss hF rfl rfl).q) (fun a w hF hW => ?_)
  refine ls_nil ?_
  refine c_then ?_
  refine c_seq ?_
  refine c_cond hF rfl (fun hb => ?_) (fun hb => ?_)
  ·
   have H := iteT (of_decide_eq_true hb) H
   rw [hb] at hF
   clear hb
   refine wp_skip ?_
   refine c_then ?_
   refine c_seq ?_
   refine wp_block ?_
   refine c_seq ?_
   refine reg_list ?_
   refine ls hF hW rfl ((y_move hF rfl).q) (fun a w hF hW => ?_)
   refine ls hF hW rfl ((y_assign hF rfl).q) (fun a w hF hW => ?_)
   refine ls_nil ?_
   refine c_then ?_
   obtain ⟨v4, h3, hW⟩ := hW.exR EX42
   refine reg_list ?_
   refine ls hF hW rfl ((y_move hF rfl).q) (fun a w hF hW => ?_)
   refine ls hF hW rfl ((y_move hF rfl).q) (fun a w hF hW => ?_)
   refine ls hF hW rfl ((y_move hF rfl).q) (fun a w hF hW => ?_)
   refine ls hF hW rfl ((y_move hF rfl).q) (fun a w hF hW => ?_)
   obtain ⟨x5, h4, H⟩ := bindE H
   obtain ⟨v5, h5, h6⟩ := ix_ex h3 h4
   have h7 : EE42 v5 = [.int .i64 x5.1, .int .i64 x5.2.1.1, .int .i64 x5.2.1.2.1.1, .int .i64 x5.2.1.2.1.2.1.1, .int .i64 x5.2.1.2.1.2.1.2.1, .int .i64 x5.2.1.2.1.2.1.2.2.1, .int .i64 x5.2.1.2.1.2.1.2.2.2, .int .i64 x5.2.1.2.1.2.2.1, .int .i64 x5.2.1.2.1.2.2.2.1, .int .i64 x5.2.1.2.1.2.2.2.2.1, .int .i64 x5.2.1.2.1.2.2.2.2.2, (v5.2.1.2.2.1), .bool x5.2.2] := congrArg (fun q : Int × (Int × (Int × (Int × Int × Int × Int) × (Int × Int × Int × Int)) × (List (Int × Int × Int))) × Bool => ([.int .i64 q.1, .int .i64 q.2.1.1, .int .i64 q.2.1.2.1.1, .int .i64 q.2.1.2.1.2.1.1, .int .i64 q.2.1.2.1.2.1.2.1, .int .i64 q.2.1.2.1.2.1.2.2.1, .int .i64 q.2.1.2.1.2.1.2.2.2, .int .i64 q.2.1.2.1.2.2.1, .int .i64 q.2.1.2.1.2.2.2.1, .int .i64 q.2.1.2.1.2.2.2.2.1, .int .i64 q.2.1.2.1.2.2.2.2.2, (v5.2.1.2.2.1), .bool q.2.2] : List Value)) h6
   refine ls hF hW rfl ((y_index (r := RX42) L22 hF rfl rfl (rdc_row 0 rfl) h5).q) (fun a w hF hW => ?_)
   refine ls hF hW rfl ((y_fieldAddr u42_ rfl rfl rfl T40 hF rfl (voff v3 + (x4).toNat * 13 + 1) rfl).q) (fun a w hF hW => ?_)
   refine ls hF hW rfl ((y_fieldAddr u40_ rfl rfl rfl T38 hF rfl (voff v3 + (x4).toNat * 13 + 1 + 10) rfl).q) (fun a w hF hW => ?_)
   refine ls hF hW rfl ((y_load_el (y := (v5.2.1.2.2.1)) (j := 11) (i := x4) (enc := EE42) hF rfl rfl (rdc_row 0 rfl) h5 FE42 T38 (by rw [h7]; rfl)).q) (fun a w hF hW => ?_)
   have hW := hW.note (hW.rowAt (k := 0) rfl h5 (Path.snd (Path.fst (Path.snd (Path.snd Path.here)))) (congrArg (fun q : Int × (Int × (Int × (Int × Int × Int × Int) × (Int × Int × Int × Int)) × (List (Int × Int × Int))) × Bool => q.2.1.2.2) h6))
   obtain ⟨x6, h8, H⟩ := bindE H
   refine l_callG (Ml := []) (Zl := []) (M := []) (Z := [frz (v5.2.1.2.2.1) R77 x5.2.1.2.2, row v3 42 RX42 v4]) (β := Value) (rv := fun x => x) (MM := fun x => []) (ZZ := fun x => [row x 77 R77 x6]) hF hW H46 rfl rfl (fun hL => slices_Clone_api_Act_api_Act_c _ w ((v5.2.1.2.2.1)) x5.2.1.2.2 _ h8 (hW.item (i := 0) rfl)) (fun x a w hF hW => ?_)
   obtain ⟨v6, rfl⟩ : ∃ y, y = x := ⟨x, rfl⟩
   have hW : Stw ⟨Y, [], w0⟩ [] [row v6 77 R77 x6, frz (v5.2.1.2.2.1) R77 x5.2.1.2.2, row v3 42 RX42 v4] w := hW
   obtain ⟨x7, h9, H⟩ := bindE H
   obtain ⟨v7, h10, h11⟩ := ix_ex h3 h9
   have h12 : EE42 v7 = [.int .i64 x7.1, .int .i64 x7.2.1.1, .int .i64 x7.2.1.2.1.1, .int .i64 x7.2.1.2.1.2.1.1, .int .i64 x7.2.1.2.1.2.1.2.1, .int .i64 x7.2.1.2.1.2.1.2.2.1, .int .i64 x7.2.1.2.1.2.1.2.2.2, .int .i64 x7.2.1.2.1.2.2.1, .int .i64 x7.2.1.2.1.2.2.2.1, .int .i64 x7.2.1.2.1.2.2.2.2.1, .int .i64 x7.2.1.2.1.2.2.2.2.2, (v7.2.1.2.2.1), .bool x7.2.2] := congrArg (fun q : Int × (Int × (Int × (Int × Int × Int × Int) × (Int × Int × Int × Int)) × (List (Int × Int × Int))) × Bool => ([.int .i64 q.1, .int .i64 q.2.1.1, .int .i64 q.2.1.2.1.1, .int .i64 q.2.1.2.1.2.1.1, .int .i64 q.2.1.2.1.2.1.2.1, .int .i64 q.2.1.2.1.2.1.2.2.1, .int .i64 q.2.1.2.1.2.1.2.2.2, .int .i64 q.2.1.2.1.2.2.1, .int .i64 q.2.1.2.1.2.2.2.1, .int .i64 q.2.1.2.1.2.2.2.2.1, .int .i64 q.2.1.2.1.2.2.2.2.2, (v7.2.1.2.2.1), .bool q.2.2] : List Value)) h11
   refine ls hF hW rfl ((y_index (r := RX42) L22 hF rfl rfl (rdc_row 2 rfl) h10).q) (fun a w hF hW => ?_)
   refine ls hF hW rfl ((y_fieldAddr u42_ rfl rfl rfl T40 hF rfl (voff v3 + (x4).toNat * 13 + 1) rfl).q) (fun a w hF hW => ?_)
   refine ls hF hW rfl ((y_fieldAddr u40_ rfl rfl rfl T38 hF rfl (voff v3 + (x4).toNat * 13 + 1 + 10) rfl).q) (fun a w hF hW => ?_)
   have hW := hW.freeze
   have hW := hW.frontZ (i := 2) rfl rfl
   have hW := hW.hideR EX42 h3
   refine l_store_el (r := R42) (i := x4) (j := 11) (vs := [v6]) (x' := (x7.1, (x7.2.1.1, x7.2.1.2.1, x6), x7.2.2)) hF hW rfl rfl rfl (k := 0) rfl rfl h9 T38 (cells_one (hW.oneF (k := 1) rfl)) rfl rfl (one_cons (hW.oneF (k := 1) rfl) one_nil) (fun A cs hA hc => by obtain ⟨z, hz, hc⟩ := EX42.to hc; have e1 := FE42 hc; have e2 : EE42 z = [.int .i64 x7.1, .int .i64 x7.2.1.1, .int .i64 x7.2.1.2.1.1, .int .i64 x7.2.1.2.1.2.1.1, .int .i64 x7.2.1.2.1.2.1.2.1, .int .i64 x7.2.1.2.1.2.1.2.2.1, .int .i64 x7.2.1.2.1.2.1.2.2.2, .int .i64 x7.2.1.2.1.2.2.1, .int .i64 x7.2.1.2.1.2.2.2.1, .int .i64 x7.2.1.2.1.2.2.2.2.1, .int .i64 x7.2.1.2.1.2.2.2.2.2, (z.2.1.2.2.1), .bool x7.2.2] := (congrArg (fun q : Int × (Int × (Int × (Int × Int × Int × Int) × (Int × Int × Int × Int)) × (List (Int × Int × Int))) × Bool => ([.int .i64 q.1, .int .i64 q.2.1.1, .int .i64 q.2.1.2.1.1, .int .i64 q.2.1.2.1.2.1.1, .int .i64 q.2.1.2.1.2.1.2.1, .int .i64 q.2.1.2.1.2.1.2.2.1, .int .i64 q.2.1.2.1.2.1.2.2.2, .int .i64 q.2.1.2.1.2.2.1, .int .i64 q.2.1.2.1.2.2.2.1, .int .i64 q.2.1.2.1.2.2.2.2.1, .int .i64 q.2.1.2.1.2.2.2.2.2, (z.2.1.2.2.1), .bool q.2.2] : List Value)) hz); rw [e1, e2]; exact ⟨[Value.int .i64 x7.1], [Value.int .i64 x7.2.1.1, Value.int .i64 x7.2.1.2.1.1, Value.int .i64 x7.2.1.2.1.2.1.1, Value.int .i64 x7.2.1.2.1.2.1.2.1, Value.int .i64 x7.2.1.2.1.2.1.2.2.1, Value.int .i64 x7.2.1.2.1.2.1.2.2.2, Value.int .i64 x7.2.1.2.1.2.2.1, Value.int .i64 x7.2.1.2.1.2.2.2.1, Value.int .i64 x7.2.1.2.1.2.2.2.2.1, Value.int .i64 x7.2.1.2.1.2.2.2.2.2, v6, Value.bool x7.2.2], rfl, rfl, ⟨[Value.int .i64 x7.2.1.1, Value.int .i64 x7.2.1.2.1.1, Value.int .i64 x7.2.1.2.1.2.1.1, Value.int .i64 x7.2.1.2.1.2.1.2.1, Value.int .i64 x7.2.1.2.1.2.1.2.2.1, Value.int .i64 x7.2.1.2.1.2.1.2.2.2, Value.int .i64 x7.2.1.2.1.2.2.1, Value.int .i64 x7.2.1.2.1.2.2.2.1, Value.int .i64 x7.2.1.2.1.2.2.2.2.1, Value.int .i64 x7.2.1.2.1.2.2.2.2.2, v6], [Value.bool x7.2.2], rfl, ⟨[Value.int .i64 x7.2.1.1], [Value.int .i64 x7.2.1.2.1.1, Value.int .i64 x7.2.1.2.1.2.1.1, Value.int .i64 x7.2.1.2.1.2.1.2.1, Value.int .i64 x7.2.1.2.1.2.1.2.2.1, Value.int .i64 x7.2.1.2.1.2.1.2.2.2, Value.int .i64 x7.2.1.2.1.2.2.1, Value.int .i64 x7.2.1.2.1.2.2.2.1, Value.int .i64 x7.2.1.2.1.2.2.2.2.1, Value.int .i64 x7.2.1.2.1.2.2.2.2.2, v6], rfl, rfl, ⟨[Value.int .i64 x7.2.1.2.1.1, Value.int .i64 x7.2.1.2.1.2.1.1, Value.int .i64 x7.2.1.2.1.2.1.2.1, Value.int .i64 x7.2.1.2.1.2.1.2.2.1, Value.int .i64 x7.2.1.2.1.2.1.2.2.2, Value.int .i64 x7.2.1.2.1.2.2.1, Value.int .i64 x7.2.1.2.1.2.2.2.1, Value.int .i64 x7.2.1.2.1.2.2.2.2.1, Value.int .i64 x7.2.1.2.1.2.2.2.2.2], [v6], rfl, ⟨[Value.int .i64 x7.2.1.2.1.1], [Value.int .i64 x7.2.1.2.1.2.1.1, Value.int .i64 x7.2.1.2.1.2.1.2.1, Value.int .i64 x7.2.1.2.1.2.1.2.2.1, Value.int .i64 x7.2.1.2.1.2.1.2.2.2, Value.int .i64 x7.2.1.2.1.2.2.1, Value.int .i64 x7.2.1.2.1.2.2.2.1, Value.int .i64 x7.2.1.2.1.2.2.2.2.1, Value.int .i64 x7.2.1.2.1.2.2.2.2.2], rfl, rfl, ⟨[Value.int .i64 x7.2.1.2.1.2.1.1, Value.int .i64 x7.2.1.2.1.2.1.2.1, Value.int .i64 x7.2.1.2.1.2.1.2.2.1, Value.int .i64 x7.2.1.2.1.2.1.2.2.2], [Value.int .i64 x7.2.1.2.1.2.2.1, Value.int .i64 x7.2.1.2.1.2.2.2.1, Value.int .i64 x7.2.1.2.1.2.2.2.2.1, Value.int .i64 x7.2.1.2.1.2.2.2.2.2], rfl, ⟨[Value.int .i64 x7.2.1.2.1.2.1.1], [Value.int .i64 x7.2.1.2.1.2.1.2.1, Value.int .i64 x7.2.1.2.1.2.1.2.2.1, Value.int .i64 x7.2.1.2.1.2.1.2.2.2], rfl, rfl, ⟨[Value.int .i64 x7.2.1.2.1.2.1.2.1], [Value.int .i64 x7.2.1.2.1.2.1.2.2.1, Value.int .i64 x7.2.1.2.1.2.1.2.2.2], rfl, rfl, ⟨[Value.int .i64 x7.2.1.2.1.2.1.2.2.1], [Value.int .i64 x7.2.1.2.1.2.1.2.2.2], rfl, rfl, rfl⟩⟩⟩, ⟨[Value.int .i64 x7.2.1.2.1.2.2.1], [Value.int .i64 x7.2.1.2.1.2.2.2.1, Value.int .i64 x7.2.1.2.1.2.2.2.2.1, Value.int .i64 x7.2.1.2.1.2.2.2.2.2], rfl, rfl, ⟨[Value.int .i64 x7.2.1.2.1.2.2.2.1], [Value.int .i64 x7.2.1.2.1.2.2.2.2.1, Value.int .i64 x7.2.1.2.1.2.2.2.2.2], rfl, rfl, ⟨[Value.int .i64 x7.2.1.2.1.2.2.2.2.1], [Value.int .i64 x7.2.1.2.1.2.2.2.2.2], rfl, rfl, rfl⟩⟩⟩⟩⟩, ⟨_, rfl, (Sl.stab (hW.item (i := 1) rfl) (fun b hb _ => ⟨hA b hb, rfl⟩))⟩⟩⟩, rfl⟩⟩) (fun w hW => ?_)
   refine ls_nil ?_
   refine b_normal ?_
   refine c_then ?_
   refine reg_list ?_
   refine ls hF hW rfl ((y_add hF rfl rfl rfl).q) (fun a w hF hW => ?_)
   refine ls hF hW rfl ((y_move hF rfl).q) (fun a w hF hW => ?_)
   refine ls_nil ?_
   refine c_then ?_
   have hW := hW.sub (M' := []) (Z' := [row v3 42 R42 (setAt x3 x4 (x7.1, (x7.2.1.1, x7.2.1.2.1, x6), x7.2.2))]) (List.Sublist.refl _) (List.Sublist.cons_cons _ (List.nil_sublist _))
   exact ⟨_, H, hF.re ⟨rfl, rfl, rfl, rfl, trivial⟩, hW⟩
  ·
   have H := iteF (of_decide_eq_false hb) H
   rw [hb] at hF
   clear hb
   refine wp_exit ?_
   refine e_then ?_
   refine e_then ?_
   refine e_block ?_
   refine c_then ?_
   have H := L2 _ H
   exact ⟨_, H, hF.re ⟨rfl, rfl, trivial⟩, hW⟩
 rintro a w ⟨x2, hj, hF, hW⟩
 have hj := Option.some.inj hj
 subst hj
 have H := K1
 clear G1 K1
 refine c_seq ?_
 refine reg_list ?_
 refine ls hF hW rfl ((y_move hF rfl).q) (fun a w hF hW => ?_)
 refine ls hF hW rfl ((y_assign hF rfl).q) (fun a w hF hW => ?_)
 refine ls_nil ?_
 refine c_then ?_
 refine wp_ret ?_
 have H := Option.some.inj H
 subst H
 refine post1 (.inl rfl) hF hW rfl (rv_tmp hF rfl) ?_
 exact ⟨(v3), rfl, hW⟩

theorem H25 : Has Try.prog 25 := ⟨fun args w => run_callFunc_body Try.func25 rfl (by decide) args w⟩
noncomputable def proto_Clean (p0 : Int × Int × Int × Int × Int × Int × Int × Int × Int × (List (Int × (Int × (Int × (Int × Int × Int × Int) × (Int × Int × Int × Int)) × (List (Int × Int × Int))) × Bool))) : Option (Int × Int × Int × Int × Int × Int × Int × Int × Int × (List (Int × (Int × (Int × (Int × Int × Int × Int) × (Int × Int × Int × Int)) × (List (Int × Int × Int))) × Bool))) := (if (andI .i64 ((proto_fields p0.1).1) 128) ≠ 0 then (proto_copied p0.2.2.2.2.2.2.2.2.2).bind fun x2 => some x2 else some ([])).bind fun x1 => some (p0.1, p0.2.1, (proto_Clean_1 8 p0.2.2.1 ((proto_fields p0.1).1)), (proto_Clean_1 16 p0.2.2.2.1 ((proto_fields p0.1).1)), (proto_Clean_1 1 p0.2.2.2.2.1 ((proto_fields p0.1).1)), (proto_Clean_1 2 p0.2.2.2.2.2.1 ((proto_fields p0.1).1)), (proto_Clean_1 4 p0.2.2.2.2.2.2.1 ((proto_fields p0.1).1)), (proto_Clean_1 32 p0.2.2.2.2.2.2.2.1 ((proto_fields p0.1).1)), (proto_Clean_1 64 p0.2.2.2.2.2.2.2.2.1 ((proto_fields p0.1).1)), x1)
theorem proto_Clean_c (Y : Nat → Prop) (w0 : World) (v1 : Value) (p0 : Int × Int × Int × Int × Int × Int × Int × Int × Int × (List (Int × (Int × (Int × (Int × Int × Int × Int) × (Int × Int × Int × Int)) × (List (Int × Int × Int))) × Bool))) (r : (Int × Int × Int × Int × Int × Int × Int × Int × Int × (List (Int × (Int × (Int × (Int × Int × Int × Int) × (Int × Int × Int × Int)) × (List (Int × Int × Int))) × Bool)))) (H : proto_Clean p0 = some r) (s_v1 : Sl w0 Y R42 v1 p0.2.2.2.2.2.2.2.2.2) :
    Calls Try.prog 10 #[.agg #[.int .i64 p0.1, .int .i64 p0.2.1, .int .i64 p0.2.2.1, .int .i64 p0.2.2.2.1, .int .i64 p0.2.2.2.2.1, .int .i64 p0.2.2.2.2.2.1, .int .i64 p0.2.2.2.2.2.2.1, .int .i64 p0.2.2.2.2.2.2.2.1, .int .i64 p0.2.2.2.2.2.2.2.2.1, v1]] w0 fun e w' => ∃ x : Value, e = .returned (.agg #[.int .i64 r.1, .int .i64 r.2.1, .int .i64 r.2.2.1, .int .i64 r.2.2.2.1, .int .i64 r.2.2.2.2.1, .int .i64 r.2.2.2.2.2.1, .int .i64 r.2.2.2.2.2.2.1, .int .i64 r.2.2.2.2.2.2.2.1, .int .i64 r.2.2.2.2.2.2.2.2.1, x]) ∧ Stw ⟨Y, [], w0⟩ [] [row (x) 42 R42 r.2.2.2.2.2.2.2.2.2] w' := by
 refine enter Try.func10 rfl Try.ntmps10 rfl (fun a hF => ?_)
 have hW := Stw.start Y w0
 obtain ⟨v2, h1, s_v1⟩ := s_v1.ex EX42
 have h_v1 := hW.nx s_v1
 unfold proto_Clean at H
 refine c_seq ?_
 refine reg_list ?_
 refine l_box (cs := [.int .i64 p0.1, .int .i64 p0.2.1, .int .i64 p0.2.2.1, .int .i64 p0.2.2.2.1, .int .i64 p0.2.2.2.2.1, .int .i64 p0.2.2.2.2.2.1, .int .i64 p0.2.2.2.2.2.2.1, .int .i64 p0.2.2.2.2.2.2.2.1, .int .i64 p0.2.2.2.2.2.2.2.2.1, v1]) hF hW rfl rfl rfl (fun b1 a w hF hW => ?_)
 refine l_alloc (cs := [.int .i64 0, .int .i64 0, .int .i64 0, .int .i64 0, .int .i64 0, .int .i64 0, .int .i64 0, .int .i64 0, .int .i64 0, .slice none 0 0]) hF hW rfl Z24 rfl (fun b2 a w hF hW => ?_)
 refine ls_nil ?_
 refine c_then ?_
 refine c_seq ?_
 refine reg_list ?_
 refine ls hF hW rfl ((y_fieldAddr u24_ rfl rfl rfl T3 hF rfl 0 rfl).q) (fun a w hF hW => ?_)
 refine ls hF hW rfl ((y_load (v := Value.int .i64 p0.1) 1 hF rfl rfl T3 rfl).q) (fun a w hF hW => ?_)
 refine ls hF hW rfl (y_call (v := Value.tuple #[.int .i64 ((proto_fields p0.1).1), .bool ((proto_fields p0.1).2)]) hF H16 rfl (fun w hW => proto_fields_c any w p0.1 _ rfl)) (fun a w hF hW => ?_)
 refine ls hF hW rfl ((y_move hF rfl).q) (fun a w hF hW => ?_)
 refine ls hF hW rfl ((y_extract (v := Value.int .i64 ((proto_fields p0.1).1)) hF rfl rfl).q) (fun a w hF hW => ?_)
 refine ls hF hW rfl ((y_extract (v := Value.bool ((proto_fields p0.1).2)) hF rfl rfl).q) (fun a w hF hW => ?_)
 refine l_alloc (cs := [.int .i64 0]) hF hW rfl Z3 rfl (fun b3 a w hF hW => ?_)
 refine l_store (vs := [.int .i64 ((proto_fields p0.1).1)]) (M' := [(b3, [.int .i64 ((proto_fields p0.1).1)]), (b2, [.int .i64 0, .int .i64 0, .int .i64 0, .int .i64 0, .int .i64 0, .int .i64 0, .int .i64 0, .int .i64 0, .int .i64 0, .slice none 0 0]), (b1, [.int .i64 p0.1, .int .i64 p0.2.1, .int .i64 p0.2.2.1, .int .i64 p0.2.2.2.1, .int .i64 p0.2.2.2.2.1, .int .i64 p0.2.2.2.2.2.1, .int .i64 p0.2.2.2.2.2.2.1, .int .i64 p0.2.2.2.2.2.2.2.1, .int .i64 p0.2.2.2.2.2.2.2.2.1, v1])]) 0 hF hW rfl rfl rfl T3 rfl rfl rfl rfl rfl (fun w hW => ?_)
 refine ls hF hW rfl ((y_assign hF rfl).q) (fun a w hF hW => ?_)
 refine ls_nil ?_
 refine c_then ?_
 refine c_seq ?_
 refine reg_list ?_
 refine ls hF hW rfl ((y_fieldAddr u24_ rfl rfl rfl T3 hF rfl 0 rfl).q) (fun a w hF hW => ?_)
 refine ls hF hW rfl ((y_load (v := Value.int .i64 p0.1) 2 hF rfl rfl T3 rfl).q) (fun a w hF hW => ?_)
 refine ls hF hW rfl ((y_fieldAddr u24_ rfl rfl rfl T3 hF rfl 1 rfl).q) (fun a w hF hW => ?_)
 refine ls hF hW rfl ((y_load (v := Value.int .i64 p0.2.1) 2 hF rfl rfl T3 rfl).q) (fun a w hF hW => ?_)
 refine ls hF hW rfl ((y_build (v := Value.agg #[.int .i64 p0.1, .int .i64 p0.2.1, .int .i64 0, .int .i64 0, .int .i64 0, .int .i64 0, .int .i64 0, .int .i64 0, .int .i64 0, .slice none 0 0]) B24 hF rfl rfl rfl).q) (fun a w hF hW => ?_)
 refine l_alloc (cs := [.int .i64 0, .int .i64 0, .int .i64 0, .int .i64 0, .int .i64 0, .int .i64 0, .int .i64 0, .int .i64 0, .int .i64 0, .slice none 0 0]) hF hW rfl Z24 rfl (fun b4 a w hF hW => ?_)
 refine l_store (vs := [.int .i64 p0.1, .int .i64 p0.2.1, .int .i64 0, .int .i64 0, .int .i64 0, .int .i64 0, .int .i64 0, .int .i64 0, .int .i64 0, .slice none 0 0]) (M' := [(b4, [.int .i64 p0.1, .int .i64 p0.2.1, .int .i64 0, .int .i64 0, .int .i64 0, .int .i64 0, .int .i64 0, .int .i64 0, .int .i64 0, .slice none 0 0]), (b3, [.int .i64 ((proto_fields p0.1).1)]), (b2, [.int .i64 0, .int .i64 0, .int .i64 0, .int .i64 0, .int .i64 0, .int .i64 0, .int .i64 0, .int .i64 0, .int .i64 0, .slice none 0 0]), (b1, [.int .i64 p0.1, .int .i64 p0.2.1, .int .i64 p0.2.2.1, .int .i64 p0.2.2.2.1, .int .i64 p0.2.2.2.2.1, .int .i64 p0.2.2.2.2.2.1, .int .i64 p0.2.2.2.2.2.2.1, .int .i64 p0.2.2.2.2.2.2.2.1, .int .i64 p0.2.2.2.2.2.2.2.2.1, v1])]) 0 hF hW rfl rfl rfl T24 rfl rfl rfl rfl rfl (fun w hW => ?_)
 refine ls_nil ?_
 refine c_then ?_
 refine c_seq ?_
 refine reg_list ?_
 refine ls hF hW rfl ((y_makeFunc (us := []) (vs := [.pointer (some ⟨b3, 0, none⟩)]) hF rfl rfl).q) (fun a w hF hW => ?_)
 refine ls hF hW rfl ((y_assign hF rfl).q) (fun a w hF hW => ?_)
 refine ls_nil ?_
 refine c_then ?_
 refine c_seq ?_
 refine reg_list ?_
 refine ls hF hW rfl ((y_move hF rfl).q) (fun a w hF hW => ?_)
 refine ls hF hW rfl ((y_fieldAddr u24_ rfl rfl rfl T3 hF rfl 4 rfl).q) (fun a w hF hW => ?_)
 refine ls hF hW rfl ((y_load (v := Value.int .i64 p0.2.2.2.2.1) 3 hF rfl rfl T3 rfl).q) (fun a w hF hW => ?_)
 refine ls hF hW rfl (y_callV (ws := [.int .i64 1, .int .i64 p0.2.2.2.2.1, .pointer (some ⟨b3, 0, none⟩)]) (v := Value.int .i64 (proto_Clean_1 1 p0.2.2.2.2.1 ((proto_fields p0.1).1))) hF H24 rfl (fun w hW => proto_Clean_1_c any w b3 1 p0.2.2.2.2.1 ((proto_fields p0.1).1) _ rfl (at_M hW 1 rfl))) (fun a w hF hW => ?_)
 refine ls hF hW rfl ((y_fieldAddr u24_ rfl rfl rfl T3 hF rfl 4 rfl).q) (fun a w hF hW => ?_)
 refine l_store (vs := [.int .i64 (proto_Clean_1 1 p0.2.2.2.2.1 ((proto_fields p0.1).1))]) (M' := [(b4, [.int .i64 p0.1, .int .i64 p0.2.1, .int .i64 0, .int .i64 0, .int .i64 (proto_Clean_1 1 p0.2.2.2.2.1 ((proto_fields p0.1).1)), .int .i64 0, .int .i64 0, .int .i64 0, .int .i64 0, .slice none 0 0]), (b3, [.int .i64 ((proto_fields p0.1).1)]), (b2, [.int .i64 0, .int .i64 0, .int .i64 0, .int .i64 0, .int .i64 0, .int .i64 0, .int .i64 0, .int .i64 0, .int .i64 0, .slice none 0 0]), (b1, [.int .i64 p0.1, .int .i64 p0.2.1, .int .i64 p0.2.2.1, .int .i64 p0.2.2.2.1, .int .i64 p0.2.2.2.2.1, .int .i64 p0.2.2.2.2.2.1, .int .i64 p0.2.2.2.2.2.2.1, .int .i64 p0.2.2.2.2.2.2.2.1, .int .i64 p0.2.2.2.2.2.2.2.2.1, v1])]) 0 hF hW rfl rfl rfl T3 rfl rfl rfl rfl rfl (fun w hW => ?_)
 refine ls_nil ?_
 refine c_then ?_
 refine c_seq ?_
 refine reg_list ?_
 refine ls hF hW rfl ((y_move hF rfl).q) (fun a w hF hW => ?_)
 refine ls hF hW rfl ((y_fieldAddr u24_ rfl rfl rfl T3 hF rfl 5 rfl).q) (fun a w hF hW => ?_)
 refine ls hF hW rfl ((y_load (v := Value.int .i64 p0.2.2.2.2.2.1) 3 hF rfl rfl T3 rfl).q) (fun a w hF hW => ?_)
 refine ls hF hW rfl (y_callV (ws := [.int .i64 2, .int .i64 p0.2.2.2.2.2.1, .pointer (some ⟨b3, 0, none⟩)]) (v := Value.int .i64 (proto_Clean_1 2 p0.2.2.2.2.2.1 ((proto_fields p0.1).1))) hF H24 rfl (fun w hW => proto_Clean_1_c any w b3 2 p0.2.2.2.2.2.1 ((proto_fields p0.1).1) _ rfl (at_M hW 1 rfl))) (fun a w hF hW => ?_)
 refine ls hF hW rfl ((y_fieldAddr u24_ rfl rfl rfl T3 hF rfl 5 rfl).q) (fun a w hF hW => ?_)
 refine l_store (vs := [.int .i64 (proto_Clean_1 2 p0.2.2.2.2.2.1 ((proto_fields p0.1).1))]) (M' := [(b4, [.int .i64 p0.1, .int .i64 p0.2.1, .int .i64 0, .int .i64 0, .int .i64 (proto_Clean_1 1 p0.2.2.2.2.1 ((proto_fields p0.1).1)), .int .i64 (proto_Clean_1 2 p0.2.2.2.2.2.1 ((proto_fields p0.1).1)), .int .i64 0, .int .i64 0, .int .i64 0, .slice none 0 0]), (b3, [.int .i64 ((proto_fields p0.1).1)]), (b2, [.int .i64 0, .int .i64 0, .int .i64 0, .int .i64 0, .int .i64 0, .int .i64 0, .int .i64 0, .int .i64 0, .int .i64 0, .slice none 0 0]), (b1, [.int .i64 p0.1, .int .i64 p0.2.1, .int .i64 p0.2.2.1, .int .i64 p0.2.2.2.1, .int .i64 p0.2.2.2.2.1, .int .i64 p0.2.2.2.2.2.1, .int .i64 p0.2.2.2.2.2.2.1, .int .i64 p0.2.2.2.2.2.2.2.1, .int .i64 p0.2.2.2.2.2.2.2.2.1, v1])]) 0 hF hW rfl rfl rfl T3 rfl rfl rfl rfl rfl (fun w hW => ?_)
 refine ls_nil ?_
 refine c_then ?_
 refine c_seq ?_
 refine reg_list ?_
 refine ls hF hW rfl ((y_move hF rfl).q) (fun a w hF hW => ?_)
 refine ls hF hW rfl ((y_fieldAddr u24_ rfl rfl rfl T3 hF rfl 6 rfl).q) (fun a w hF hW => ?_)
 refine ls hF hW rfl ((y_load (v := Value.int .i64 p0.2.2.2.2.2.2.1) 3 hF rfl rfl T3 rfl).q) (fun a w hF hW => ?_)
 refine ls hF hW rfl (y_callV (ws := [.int .i64 4, .int .i64 p0.2.2.2.2.2.2.1, .pointer (some ⟨b3, 0, none⟩)]) (v := Value.int .i64 (proto_Clean_1 4 p0.2.2.2.2.2.2.1 ((proto_fields p0.1).1))) hF H24 rfl (fun w hW => proto_Clean_1_c any w b3 4 p0.2.2.2.2.2.2.1 ((proto_fields p0.1).1) _ rfl (at_M hW 1 rfl))) (fun a w hF hW => ?_)
 refine ls hF hW rfl ((y_fieldAddr u24_ rfl rfl rfl T3 hF rfl 6 rfl).q) (fun a w hF hW => ?_)
 refine l_store (vs := [.int .i64 (proto_Clean_1 4 p0.2.2.2.2.2.2.1 ((proto_fields p0.1).1))]) (M' := [(b4, [.int .i64 p0.1, .int .i64 p0.2.1, .int .i64 0, .int .i64 0, .int .i64 (proto_Clean_1 1 p0.2.2.2.2.1 ((proto_fields p0.1).1)), .int .i64 (proto_Clean_1 2 p0.2.2.2.2.2.1 ((proto_fields p0.1).1)), .int .i64 (proto_Clean_1 4 p0.2.2.2.2.2.2.1 ((proto_fields p0.1).1)), .int .i64 0, .int .i64 0, .slice none 0 0]), (b3, [.int .i64 ((proto_fields p0.1).1)]), (b2, [.int .i64 0, .int .i64 0, .int .i64 0, .int .i64 0, .int .i64 0, .int .i64 0, .int .i64 0, .int .i64 0, .int .i64 0, .slice none 0 0]), (b1, [.int .i64 p0.1, .int .i64 p0.2.1, .int .i64 p0.2.2.1, .int .i64 p0.2.2.2.1, .int .i64 p0.2.2.2.2.1, .int .i64 p0.2.2.2.2.2.1, .int .i64 p0.2.2.2.2.2.2.1, .int .i64 p0.2.2.2.2.2.2.2.1, .int .i64 p0.2.2.2.2.2.2.2.2.1, v1])]) 0 hF hW rfl rfl rfl T3 rfl rfl rfl rfl rfl (fun w hW => ?_)
 refine ls_nil ?_
 refine c_then ?_
 refine c_seq ?_
 refine reg_list ?_
 refine ls hF hW rfl ((y_move hF rfl).q) (fun a w hF hW => ?_)
 refine ls hF hW rfl ((y_fieldAddr u24_ rfl rfl rfl T3 hF rfl 2 rfl).q) (fun a w hF hW => ?_)
 refine ls hF hW rfl ((y_load (v := Value.int .i64 p0.2.2.1) 3 hF rfl rfl T3 rfl).q) (fun a w hF hW => ?_)
 refine ls hF hW rfl (y_callV (ws := [.int .i64 8, .int .i64 p0.2.2.1, .pointer (some ⟨b3, 0, none⟩)]) (v := Value.int .i64 (proto_Clean_1 8 p0.2.2.1 ((proto_fields p0.1).1))) hF H24 rfl (fun w hW => proto_Clean_1_c any w b3 8 p0.2.2.1 ((proto_fields p0.1).1) _ rfl (at_M hW 1 rfl))) (fun a w hF hW => ?_)
 refine ls hF hW rfl ((y_fieldAddr u24_ rfl rfl rfl T3 hF rfl 2 rfl).q) (fun a w hF hW => ?_)
 refine l_store (vs := [.int .i64 (proto_Clean_1 8 p0.2.2.1 ((proto_fields p0.1).1))]) (M' := [(b4, [.int .i64 p0.1, .int .i64 p0.2.1, .int .i64 (proto_Clean_1 8 p0.2.2.1 ((proto_fields p0.1).1)), .int .i64 0, .int .i64 (proto_Clean_1 1 p0.2.2.2.2.1 ((proto_fields p0.1).1)), .int .i64 (proto_Clean_1 2 p0.2.2.2.2.2.1 ((proto_fields p0.1).1)), .int .i64 (proto_Clean_1 4 p0.2.2.2.2.2.2.1 ((proto_fields p0.1).1)), .int .i64 0, .int .i64 0, .slice none 0 0]), (b3, [.int .i64 ((proto_fields p0.1).1)]), (b2, [.int .i64 0, .int .i64 0, .int .i64 0, .int .i64 0, .int .i64 0, .int .i64 0, .int .i64 0, .int .i64 0, .int .i64 0, .slice none 0 0]), (b1, [.int .i64 p0.1, .int .i64 p0.2.1, .int .i64 p0.2.2.1, .int .i64 p0.2.2.2.1, .int .i64 p0.2.2.2.2.1, .int .i64 p0.2.2.2.2.2.1, .int .i64 p0.2.2.2.2.2.2.1, .int .i64 p0.2.2.2.2.2.2.2.1, .int .i64 p0.2.2.2.2.2.2.2.2.1, v1])]) 0 hF hW rfl rfl rfl T3 rfl rfl rfl rfl rfl (fun w hW => ?_)
 refine ls_nil ?_
 refine c_then ?_
 refine c_seq ?_
 refine reg_list ?_
 refine ls hF hW rfl ((y_move hF rfl).q) (fun a w hF hW => ?_)
 refine ls hF hW rfl ((y_fieldAddr u24_ rfl rfl rfl T3 hF rfl 3 rfl).q) (fun a w hF hW => ?_)
 refine ls hF hW rfl ((y_load (v := Value.int .i64 p0.2.2.2.1) 3 hF rfl rfl T3 rfl).q) (fun a w hF hW => ?_)
 refine ls hF hW rfl (y_callV (ws := [.int .i64 16, .int .i64 p0.2.2.2.1, .pointer (some ⟨b3, 0, none⟩)]) (v := Value.int .i64 (proto_Clean_1 16 p0.2.2.2.1 ((proto_fields p0.1).1))) hF H24 rfl (fun w hW => proto_Clean_1_c any w b3 16 p0.2.2.2.1 ((proto_fields p0.1).1) _ rfl (at_M hW 1 rfl))) (fun a w hF hW => ?_)
 refine ls hF hW rfl ((y_fieldAddr u24_ rfl rfl rfl T3 hF rfl 3 rfl).q) (fun a w hF hW => ?_)
 refine l_store (vs := [.int .i64 (proto_Clean_1 16 p0.2.2.2.1 ((proto_fields p0.1).1))]) (M' := [(b4, [.int .i64 p0.1, .int .i64 p0.2.1, .int .i64 (proto_Clean_1 8 p0.2.2.1 ((proto_fields p0.1).1)), .int .i64 (proto_Clean_1 16 p0.2.2.2.1 ((proto_fields p0.1).1)), .int .i64 (proto_Clean_1 1 p0.2.2.2.2.1 ((proto_fields p0.1).1)), .int .i64 (proto_Clean_1 2 p0.2.2.2.2.2.1 ((proto_fields p0.1).1)), .int .i64 (proto_Clean_1 4 p0.2.2.2.2.2.2.1 ((proto_fields p0.1).1)), .int .i64 0, .int .i64 0, .slice none 0 0]), (b3, [.int .i64 ((proto_fields p0.1).1)]), (b2, [.int .i64 0, .int .i64 0, .int .i64 0, .int .i64 0, .int .i64 0, .int .i64 0, .int .i64 0, .int .i64 0, .int .i64 0, .slice none 0 0]), (b1, [.int .i64 p0.1, .int .i64 p0.2.1, .int .i64 p0.2.2.1, .int .i64 p0.2.2.2.1, .int .i64 p0.2.2.2.2.1, .int .i64 p0.2.2.2.2.2.1, .int .i64 p0.2.2.2.2.2.2.1, .int .i64 p0.2.2.2.2.2.2.2.1, .int .i64 p0.2.2.2.2.2.2.2.2.1, v1])]) 0 hF hW rfl rfl rfl T3 rfl rfl rfl rfl rfl (fun w hW => ?_)
 refine ls_nil ?_
 refine c_then ?_
 refine c_seq ?_
 refine reg_list ?_
 refine ls hF hW rfl ((y_move hF rfl).q) (fun a w hF hW => ?_)
 refine ls hF hW rfl ((y_fieldAddr u24_ rfl rfl rfl T3 hF rfl 7 rfl).q) (fun a w hF hW => ?_)
 refine ls hF hW rfl ((y_load (v := Value.int .i64 p0.2.2.2.2.2.2.2.1) 3 hF rfl rfl T3 rfl).q) (fun a w hF hW => ?_)
 refine ls hF hW rfl (y_callV (ws := [.int .i64 32, .int .i64 p0.2.2.2.2.2.2.2.1, .pointer (some ⟨b3, 0, none⟩)]) (v := Value.int .i64 (proto_Clean_1 32 p0.2.2.2.2.2.2.2.1 ((proto_fields p0.1).1))) hF H24 rfl (fun w hW => proto_Clean_1_c any w b3 32 p0.2.2.2.2.2.2.2.1 ((proto_fields p0.1).1) _ rfl (at_M hW 1 rfl))) (fun a w hF hW => ?_)
 refine ls hF hW rfl ((y_fieldAddr u24_ rfl rfl rfl T3 hF rfl 7 rfl).q) (fun a w hF hW => ?_)
 refine l_store (vs := [.int .i64 (proto_Clean_1 32 p0.2.2.2.2.2.2.2.1 ((proto_fields p0.1).1))]) (M' := [(b4, [.int .i64 p0.1, .int .i64 p0.2.1, .int .i64 (proto_Clean_1 8 p0.2.2.1 ((proto_fields p0.1).1)), .int .i64 (proto_Clean_1 16 p0.2.2.2.1 ((proto_fields p0.1).1)), .int .i64 (proto_Clean_1 1 p0.2.2.2.2.1 ((proto_fields p0.1).1)), .int .i64 (proto_Clean_1 2 p0.2.2.2.2.2.1 ((proto_fields p0.1).1)), .int .i64 (proto_Clean_1 4 p0.2.2.2.2.2.2.1 ((proto_fields p0.1).1)), .int .i64 (proto_Clean_1 32 p0.2.2.2.2.2.2.2.1 ((proto_fields p0.1).1)), .int .i64 0, .slice none 0 0]), (b3, [.int .i64 ((proto_fields p0.1).1)]), (b2, [.int .i64 0, .int .i64 0, .int .i64 0, .int .i64 0, .int .i64 0, .int .i64 0, .int .i64 0, .int .i64 0, .int .i64 0, .slice none 0 0]), (b1, [.int .i64 p0.1, .int .i64 p0.2.1, .int .i64 p0.2.2.1, .int .i64 p0.2.2.2.1, .int .i64 p0.2.2.2.2.1, .int .i64 p0.2.2.2.2.2.1, .int .i64 p0.2.2.2.2.2.2.1, .int .i64 p0.2.2.2.2.2.2.2.1, .int .i64 p0.2.2.2.2.2.2.2.2.1, v1])]) 0 hF hW rfl rfl rfl T3 rfl rfl rfl rfl rfl (fun w hW => ?_)
 refine ls_nil ?_
 refine c_then ?_
 refine c_seq ?_
 refine reg_list ?_
 refine ls hF hW rfl ((y_move hF rfl).q) (fun a w hF hW => ?_)
 refine ls hF hW rfl ((y_fieldAddr u24_ rfl rfl rfl T3 hF rfl 8 rfl).q) (fun a w hF hW => ?_)
 refine ls hF hW rfl ((y_load (v := Value.int .i64 p0.2.2.2.2.2.2.2.2.1) 3 hF rfl rfl T3 rfl).q) (fun a w hF hW => ?_)
 refine ls hF hW rfl (y_callV (ws := [.int .i64 64, .int .i64 p0.2.2.2.2.2.2.2.2.1, .pointer (some ⟨b3, 0, none⟩)]) (v := Value.int .i64 (proto_Clean_1 64 p0.2.2.2.2.2.2.2.2.1 ((proto_fields p0.1).1))) hF H24 rfl (fun w hW => proto_Clean_1_c any w b3 64 p0.2.2.2.2.2.2.2.2.1 ((proto_fields p0.1).1) _ rfl (at_M hW 1 rfl))) (fun a w hF hW => ?_)
 refine ls hF hW rfl ((y_fieldAddr u24_ rfl rfl rfl T3 hF rfl 8 rfl).q) (fun a w hF hW => ?_)
 refine l_store (vs := [.int .i64 (proto_Clean_1 64 p0.2.2.2.2.2.2.2.2.1 ((proto_fields p0.1).1))]) (M' := [(b4, [.int .i64 p0.1, .int .i64 p0.2.1, .int .i64 (proto_Clean_1 8 p0.2.2.1 ((proto_fields p0.1).1)), .int .i64 (proto_Clean_1 16 p0.2.2.2.1 ((proto_fields p0.1).1)), .int .i64 (proto_Clean_1 1 p0.2.2.2.2.1 ((proto_fields p0.1).1)), .int .i64 (proto_Clean_1 2 p0.2.2.2.2.2.1 ((proto_fields p0.1).1)), .int .i64 (proto_Clean_1 4 p0.2.2.2.2.2.2.1 ((proto_fields p0.1).1)), .int .i64 (proto_Clean_1 32 p0.2.2.2.2.2.2.2.1 ((proto_fields p0.1).1)), .int .i64 (proto_Clean_1 64 p0.2.2.2.2.2.2.2.2.1 ((proto_fields p0.1).1)), .slice none 0 0]), (b3, [.int .i64 ((proto_fields p0.1).1)]), (b2, [.int .i64 0, .int .i64 0, .int .i64 0, .int .i64 0, .int .i64 0, .int .i64 0, .int .i64 0, .int .i64 0, .int .i64 0, .slice none 0 0]), (b1, [.int .i64 p0.1, .int .i64 p0.2.1, .int .i64 p0.2.2.1, .int .i64 p0.2.2.2.1, .int .i64 p0.2.2.2.2.1, .int .i64 p0.2.2.2.2.2.1, .int .i64 p0.2.2.2.2.2.2.1, .int .i64 p0.2.2.2.2.2.2.2.1, .int .i64 p0.2.2.2.2.2.2.2.2.1, v1])]) 0 hF hW rfl rfl rfl T3 rfl rfl rfl rfl rfl (fun w hW => ?_)
 refine ls_nil ?_
 refine c_then ?_
 obtain ⟨o1, G1, K1⟩ := bindE H
 refine c_seqJ (fun a w => ∃ x1 : List (Int × (Int × (Int × (Int × Int × Int × Int) × (Int × Int × Int × Int)) × (List (Int × Int × Int))) × Bool), ∃ v3 : Value, some (x1) = some o1 ∧ Fr 62 [] [(2, .pointer (some ⟨b2, 0, none⟩)), (5, .pointer (some ⟨b4, 0, none⟩))] a ∧ Stw ⟨Y, [], w0⟩ [(b4, [.int .i64 p0.1, .int .i64 p0.2.1, .int .i64 (proto_Clean_1 8 p0.2.2.1 ((proto_fields p0.1).1)), .int .i64 (proto_Clean_1 16 p0.2.2.2.1 ((proto_fields p0.1).1)), .int .i64 (proto_Clean_1 1 p0.2.2.2.2.1 ((proto_fields p0.1).1)), .int .i64 (proto_Clean_1 2 p0.2.2.2.2.2.1 ((proto_fields p0.1).1)), .int .i64 (proto_Clean_1 4 p0.2.2.2.2.2.2.1 ((proto_fields p0.1).1)), .int .i64 (proto_Clean_1 32 p0.2.2.2.2.2.2.2.1 ((proto_fields p0.1).1)), .int .i64 (proto_Clean_1 64 p0.2.2.2.2.2.2.2.2.1 ((proto_fields p0.1).1)), v3]), (b3, [.int .i64 ((proto_fields p0.1).1)]), (b2, [.int .i64 0, .int .i64 0, .int .i64 0, .int .i64 0, .int .i64 0, .int .i64 0, .int .i64 0, .int .i64 0, .int .i64 0, .slice none 0 0]), (b1, [.int .i64 p0.1, .int .i64 p0.2.1, .int .i64 p0.2.2.1, .int .i64 p0.2.2.2.1, .int .i64 p0.2.2.2.2.1, .int .i64 p0.2.2.2.2.2.1, .int .i64 p0.2.2.2.2.2.2.1, .int .i64 p0.2.2.2.2.2.2.2.1, .int .i64 p0.2.2.2.2.2.2.2.2.1, v1])] [row v3 42 R42 x1] w) ?_ ?_
 ·
  have H := G1
  clear G1 K1
  refine c_seq ?_
  refine reg_list ?_
  refine ls hF hW rfl ((y_load (v := Value.int .i64 ((proto_fields p0.1).1)) 1 hF rfl rfl T3 rfl).q) (fun a w hF hW => ?_)
  refine ls hF hW rfl ((y_and hF rfl rfl).q) (fun a w hF hW => ?_)
  refine ls hF hW rfl ((y_neq hF rfl rfl).q) (fun a w hF hW => ?_)
  refine ls_nil ?_
  refine c_then ?_
  refine c_cond hF rfl (fun hb => ?_) (fun hb => ?_)
  ·
   have H := iteT (of_decide_eq_true hb) H
   rw [hb] at hF
   clear hb
   refine reg_list ?_
   refine ls hF hW rfl ((y_fieldAddr u24_ rfl rfl rfl T22 hF rfl 9 rfl).q) (fun a w hF hW => ?_)
   refine ls hF hW rfl ((y_load (v := v1) 3 hF rfl rfl T22 rfl).q) (fun a w hF hW => ?_)
   obtain ⟨x2, h2, H⟩ := bindE H
   refine l_callG (Ml := []) (Zl := []) (M := [(b4, [.int .i64 p0.1, .int .i64 p0.2.1, .int .i64 (proto_Clean_1 8 p0.2.2.1 ((proto_fields p0.1).1)), .int .i64 (proto_Clean_1 16 p0.2.2.2.1 ((proto_fields p0.1).1)), .int .i64 (proto_Clean_1 1 p0.2.2.2.2.1 ((proto_fields p0.1).1)), .int .i64 (proto_Clean_1 2 p0.2.2.2.2.2.1 ((proto_fields p0.1).1)), .int .i64 (proto_Clean_1 4 p0.2.2.2.2.2.2.1 ((proto_fields p0.1).1)), .int .i64 (proto_Clean_1 32 p0.2.2.2.2.2.2.2.1 ((proto_fields p0.1).1)), .int .i64 (proto_Clean_1 64 p0.2.2.2.2.2.2.2.2.1 ((proto_fields p0.1).1)), .slice none 0 0]), (b3, [.int .i64 ((proto_fields p0.1).1)]), (b2, [.int .i64 0, .int .i64 0, .int .i64 0, .int .i64 0, .int .i64 0, .int .i64 0, .int .i64 0, .int .i64 0, .int .i64 0, .slice none 0 0]), (b1, [.int .i64 p0.1, .int .i64 p0.2.1, .int .i64 p0.2.2.1, .int .i64 p0.2.2.2.1, .int .i64 p0.2.2.2.2.1, .int .i64 p0.2.2.2.2.2.1, .int .i64 p0.2.2.2.2.2.2.1, .int .i64 p0.2.2.2.2.2.2.2.1, .int .i64 p0.2.2.2.2.2.2.2.2.1, v1])]) (Z := []) (β := Value) (rv := fun x => x) (MM := fun x => []) (ZZ := fun x => [row x 42 R42 x2]) hF hW H25 rfl rfl (fun hL => proto_copied_c _ w (v1) p0.2.2.2.2.2.2.2.2.2 _ h2 (Sl.hide EX42 h1 (hW.old s_v1))) (fun x a w hF hW => ?_)
   obtain ⟨v4, rfl⟩ : ∃ y, y = x := ⟨x, rfl⟩
   have hW : Stw ⟨Y, [], w0⟩ [(b4, [.int .i64 p0.1, .int .i64 p0.2.1, .int .i64 (proto_Clean_1 8 p0.2.2.1 ((proto_fields p0.1).1)), .int .i64 (proto_Clean_1 16 p0.2.2.2.1 ((proto_fields p0.1).1)), .int .i64 (proto_Clean_1 1 p0.2.2.2.2.1 ((proto_fields p0.1).1)), .int .i64 (proto_Clean_1 2 p0.2.2.2.2.2.1 ((proto_fields p0.1).1)), .int .i64 (proto_Clean_1 4 p0.2.2.2.2.2.2.1 ((proto_fields p0.1).1)), .int .i64 (proto_Clean_1 32 p0.2.2.2.2.2.2.2.1 ((proto_fields p0.1).1)), .int .i64 (proto_Clean_1 64 p0.2.2.2.2.2.2.2.2.1 ((proto_fields p0.1).1)), .slice none 0 0]), (b3, [.int .i64 ((proto_fields p0.1).1)]), (b2, [.int .i64 0, .int .i64 0, .int .i64 0, .int .i64 0, .int .i64 0, .int .i64 0, .int .i64 0, .int .i64 0, .int .i64 0, .slice none 0 0]), (b1, [.int .i64 p0.1, .int .i64 p0.2.1, .int .i64 p0.2.2.1, .int .i64 p0.2.2.2.1, .int .i64 p0.2.2.2.2.1, .int .i64 p0.2.2.2.2.2.1, .int .i64 p0.2.2.2.2.2.2.1, .int .i64 p0.2.2.2.2.2.2.2.1, .int .i64 p0.2.2.2.2.2.2.2.2.1, v1])] [row v4 42 R42 x2] w := hW
   refine ls hF hW rfl ((y_fieldAddr u24_ rfl rfl rfl T22 hF rfl 9 rfl).q) (fun a w hF hW => ?_)
   refine l_store1 (M' := [(b4, [.int .i64 p0.1, .int .i64 p0.2.1, .int .i64 (proto_Clean_1 8 p0.2.2.1 ((proto_fields p0.1).1)), .int .i64 (proto_Clean_1 16 p0.2.2.2.1 ((proto_fields p0.1).1)), .int .i64 (proto_Clean_1 1 p0.2.2.2.2.1 ((proto_fields p0.1).1)), .int .i64 (proto_Clean_1 2 p0.2.2.2.2.2.1 ((proto_fields p0.1).1)), .int .i64 (proto_Clean_1 4 p0.2.2.2.2.2.2.1 ((proto_fields p0.1).1)), .int .i64 (proto_Clean_1 32 p0.2.2.2.2.2.2.2.1 ((proto_fields p0.1).1)), .int .i64 (proto_Clean_1 64 p0.2.2.2.2.2.2.2.2.1 ((proto_fields p0.1).1)), v4]), (b3, [.int .i64 ((proto_fields p0.1).1)]), (b2, [.int .i64 0, .int .i64 0, .int .i64 0, .int .i64 0, .int .i64 0, .int .i64 0, .int .i64 0, .int .i64 0, .int .i64 0, .slice none 0 0]), (b1, [.int .i64 p0.1, .int .i64 p0.2.1, .int .i64 p0.2.2.1, .int .i64 p0.2.2.2.1, .int .i64 p0.2.2.2.2.1, .int .i64 p0.2.2.2.2.2.1, .int .i64 p0.2.2.2.2.2.2.1, .int .i64 p0.2.2.2.2.2.2.2.1, .int .i64 p0.2.2.2.2.2.2.2.2.1, v1])]) 0 hF hW rfl rfl rfl T22 (hW.one (k := 0) rfl) rfl rfl (fun w hW => ?_)
   refine ls_nil ?_
   refine c_then ?_
   have hW := hW.frontM (i := 3) rfl rfl
   have hW := hW.frontM (i := 3) rfl rfl
   have hW := hW.frontM (i := 3) rfl rfl
   have hW := hW.frontM (i := 3) rfl rfl
   exact ⟨_, (v4), H, hF.re ⟨rfl, rfl, trivial⟩, hW⟩
  ·
   have H := iteF (of_decide_eq_false hb) H
   rw [hb] at hF
   clear hb
   refine wp_skip ?_
   refine c_then ?_
   have hW := hW.nilRow 42 R42
   have hW := hW.frontM (i := 3) rfl rfl
   have hW := hW.frontM (i := 3) rfl rfl
   have hW := hW.frontM (i := 3) rfl rfl
   have hW := hW.frontM (i := 3) rfl rfl
   exact ⟨_, (Value.slice none 0 0), H, hF.re ⟨rfl, rfl, trivial⟩, hW⟩
 rintro a w ⟨x1, v3, hj, hF, hW⟩
 have hj := Option.some.inj hj
 subst hj
 have H := K1
 clear G1 K1
 refine c_seq ?_
 refine reg_list ?_
 refine ls hF hW rfl ((y_load (v := Value.agg #[.int .i64 p0.1, .int .i64 p0.2.1, .int .i64 (proto_Clean_1 8 p0.2.2.1 ((proto_fields p0.1).1)), .int .i64 (proto_Clean_1 16 p0.2.2.2.1 ((proto_fields p0.1).1)), .int .i64 (proto_Clean_1 1 p0.2.2.2.2.1 ((proto_fields p0.1).1)), .int .i64 (proto_Clean_1 2 p0.2.2.2.2.2.1 ((proto_fields p0.1).1)), .int .i64 (proto_Clean_1 4 p0.2.2.2.2.2.2.1 ((proto_fields p0.1).1)), .int .i64 (proto_Clean_1 32 p0.2.2.2.2.2.2.2.1 ((proto_fields p0.1).1)), .int .i64 (proto_Clean_1 64 p0.2.2.2.2.2.2.2.2.1 ((proto_fields p0.1).1)), v3]) 0 hF rfl rfl T24 rfl).q) (fun a w hF hW => ?_)
 refine l_store (vs := [.int .i64 p0.1, .int .i64 p0.2.1, .int .i64 (proto_Clean_1 8 p0.2.2.1 ((proto_fields p0.1).1)), .int .i64 (proto_Clean_1 16 p0.2.2.2.1 ((proto_fields p0.1).1)), .int .i64 (proto_Clean_1 1 p0.2.2.2.2.1 ((proto_fields p0.1).1)), .int .i64 (proto_Clean_1 2 p0.2.2.2.2.2.1 ((proto_fields p0.1).1)), .int .i64 (proto_Clean_1 4 p0.2.2.2.2.2.2.1 ((proto_fields p0.1).1)), .int .i64 (proto_Clean_1 32 p0.2.2.2.2.2.2.2.1 ((proto_fields p0.1).1)), .int .i64 (proto_Clean_1 64 p0.2.2.2.2.2.2.2.2.1 ((proto_fields p0.1).1)), v3]) (M' := [(b4, [.int .i64 p0.1, .int .i64 p0.2.1, .int .i64 (proto_Clean_1 8 p0.2.2.1 ((proto_fields p0.1).1)), .int .i64 (proto_Clean_1 16 p0.2.2.2.1 ((proto_fields p0.1).1)), .int .i64 (proto_Clean_1 1 p0.2.2.2.2.1 ((proto_fields p0.1).1)), .int .i64 (proto_Clean_1 2 p0.2.2.2.2.2.1 ((proto_fields p0.1).1)), .int .i64 (proto_Clean_1 4 p0.2.2.2.2.2.2.1 ((proto_fields p0.1).1)), .int .i64 (proto_Clean_1 32 p0.2.2.2.2.2.2.2.1 ((proto_fields p0.1).1)), .int .i64 (proto_Clean_1 64 p0.2.2.2.2.2.2.2.2.1 ((proto_fields p0.1).1)), v3]), (b3, [.int .i64 ((proto_fields p0.1).1)]), (b2, [.int .i64 p0.1, .int .i64 p0.2.1, .int .i64 (proto_Clean_1 8 p0.2.2.1 ((proto_fields p0.1).1)), .int .i64 (proto_Clean_1 16 p0.2.2.2.1 ((proto_fields p0.1).1)), .int .i64 (proto_Clean_1 1 p0.2.2.2.2.1 ((proto_fields p0.1).1)), .int .i64 (proto_Clean_1 2 p0.2.2.2.2.2.1 ((proto_fields p0.1).1)), .int .i64 (proto_Clean_1 4 p0.2.2.2.2.2.2.1 ((proto_fields p0.1).1)), .int .i64 (proto_Clean_1 32 p0.2.2.2.2.2.2.2.1 ((proto_fields p0.1).1)), .int .i64 (proto_Clean_1 64 p0.2.2.2.2.2.2.2.2.1 ((proto_fields p0.1).1)), v3]), (b1, [.int .i64 p0.1, .int .i64 p0.2.1, .int .i64 p0.2.2.1, .int .i64 p0.2.2.2.1, .int .i64 p0.2.2.2.2.1, .int .i64 p0.2.2.2.2.2.1, .int .i64 p0.2.2.2.2.2.2.1, .int .i64 p0.2.2.2.2.2.2.2.1, .int .i64 p0.2.2.2.2.2.2.2.2.1, v1])]) 2 hF hW rfl rfl rfl T24 rfl rfl rfl (one_cons rfl (one_cons rfl (one_cons rfl (one_cons rfl (one_cons rfl (one_cons rfl (one_cons rfl (one_cons rfl (one_cons rfl (one_cons (hW.one (k := 0) rfl) one_nil)))))))))) rfl (fun w hW => ?_)
 refine ls_nil ?_
 refine c_then ?_
 refine wp_ret ?_
 have H := Option.some.inj H
 subst H
 refine post1 (.inl rfl) hF hW rfl (rv_cell 2 hF rfl rfl T24 rfl) ?_
 have hW := hW.sub (M' := []) (Z' := [row v3 42 R42 x1]) (List.nil_sublist _) (List.Sublist.refl _)
 exact ⟨(v3), rfl, hW⟩

theorem u3_ : type_of% Try.underlying3 := Try.underlying3
theorem u35_ : type_of% Try.underlying35 := Try.underlying35
theorem u37_ : type_of% Try.underlying37 := Try.underlying37
theorem H10 : Has Try.prog 10 := ⟨fun args w => run_callFunc_body Try.func10 rfl (by decide) args w⟩
theorem T42 : Ty Try.prog 42 true 13 := ⟨by kernel_rfl, by kernel_rfl⟩
theorem T4 : Ty Try.prog 4 false 1 := ⟨by kernel_rfl, by kernel_rfl⟩
theorem T37 : Ty Try.prog 37 true 9 := ⟨by kernel_rfl, by kernel_rfl⟩
theorem Ar35 : Ar Try.prog 35 4 3 1 := ⟨u35_, by kernel_rfl⟩
theorem QA35 (d : Nat) (x0 x1 x2 x3 y0 y1 y2 y3 : Int) (w : World) : (Op.equalIn (d + 2) 35 (.agg #[.int .i64 x0, .int .i64 x1, .int .i64 x2, .int .i64 x3]) (.agg #[.int .i64 y0, .int .i64 y1, .int .i64 y2, .int .i64 y3])).run Try.prog w = .ok (decide (x0 = y0 ∧ x1 = y1 ∧ x2 = y2 ∧ x3 = y3)) w :=
  (eq_arr (d := d) (k := .i64) Ar35 u3_ T3 [x0, x1, x2, x3] [y0, y1, y2, y3] rfl rfl w).trans (by congr 1; exact decide_eq_decide.2 (by simp))
theorem T35 : Ty Try.prog 35 true 4 := ⟨by kernel_rfl, by kernel_rfl⟩
theorem QD37 (dd : Nat) (x0 : Int) (x1 : Int) (x2 : Int) (x3 : Int) (x4 : Int) (x5 : Int) (x6 : Int) (x7 : Int) (x8 : Int) (y0 : Int) (y1 : Int) (y2 : Int) (y3 : Int) (y4 : Int) (y5 : Int) (y6 : Int) (y7 : Int) (y8 : Int) (w : World) : (Op.equalIn (dd + 3) 37 (.agg #[.int .i64 x0, .int .i64 x1, .int .i64 x2, .int .i64 x3, .int .i64 x4, .int .i64 x5, .int .i64 x6, .int .i64 x7, .int .i64 x8]) (.agg #[.int .i64 y0, .int .i64 y1, .int .i64 y2, .int .i64 y3, .int .i64 y4, .int .i64 y5, .int .i64 y6, .int .i64 y7, .int .i64 y8])).run Try.prog w = .ok (decide (x0 = y0 ∧ x1 = y1 ∧ x2 = y2 ∧ x3 = y3 ∧ x4 = y4 ∧ x5 = y5 ∧ x6 = y6 ∧ x7 = y7 ∧ x8 = y8)) w :=
  eq_struct (d := dd + 2) (rs := [decide (x0 = y0), decide (x1 = y1 ∧ x2 = y2 ∧ x3 = y3 ∧ x4 = y4), decide (x5 = y5 ∧ x6 = y6 ∧ x7 = y7 ∧ x8 = y8)]) u37_ (by kernel_rfl) ⟨rfl, fld_int (d := dd + 1) rfl rfl u3_ T3 rfl rfl, rfl, fld_agg (d := dd + 2) (sz := 4) (xs' := [.int .i64 x1, .int .i64 x2, .int .i64 x3, .int .i64 x4]) (ys' := [.int .i64 y1, .int .i64 y2, .int .i64 y3, .int .i64 y4]) rfl rfl T35 rfl rfl (fun w => QA35 (dd + 0) x1 x2 x3 x4 y1 y2 y3 y4 w), rfl, fld_agg (d := dd + 2) (sz := 4) (xs' := [.int .i64 x5, .int .i64 x6, .int .i64 x7, .int .i64 x8]) (ys' := [.int .i64 y5, .int .i64 y6, .int .i64 y7, .int .i64 y8]) rfl rfl T35 rfl rfl (fun w => QA35 (dd + 0) x5 x6 x7 x8 y5 y6 y7 y8 w), trivial⟩ (by rw [Bool.eq_iff_iff]; simp [and_assoc]) w
theorem G37 : Try.prog.eqGuardType Try.prog.depth 37 = false := by kernel_rfl
theorem Q37 (x0 : Int) (x1 : Int) (x2 : Int) (x3 : Int) (x4 : Int) (x5 : Int) (x6 : Int) (x7 : Int) (x8 : Int) (y0 : Int) (y1 : Int) (y2 : Int) (y3 : Int) (y4 : Int) (y5 : Int) (y6 : Int) (y7 : Int) (y8 : Int) (w : World) : (Op.equalIn 10000 37 (.agg #[.int .i64 x0, .int .i64 x1, .int .i64 x2, .int .i64 x3, .int .i64 x4, .int .i64 x5, .int .i64 x6, .int .i64 x7, .int .i64 x8]) (.agg #[.int .i64 y0, .int .i64 y1, .int .i64 y2, .int .i64 y3, .int .i64 y4, .int .i64 y5, .int .i64 y6, .int .i64 y7, .int .i64 y8])).run Try.prog w = .ok (decide (x0 = y0 ∧ x1 = y1 ∧ x2 = y2 ∧ x3 = y3 ∧ x4 = y4 ∧ x5 = y5 ∧ x6 = y6 ∧ x7 = y7 ∧ x8 = y8)) w := QD37 9997 x0 x1 x2 x3 x4 x5 x6 x7 x8 y0 y1 y2 y3 y4 y5 y6 y7 y8 w
def rule_Key (p0 : Int × (Int × (Int × Int × Int × Int) × (Int × Int × Int × Int)) × (List (Int × Int × Int))) (p1 : Int × (Int × (Int × Int × Int × Int) × (Int × Int × Int × Int)) × (List (Int × Int × Int))) : Bool := (decide (p0.1 = p1.1) && decide (p0.2.1.1 = p1.2.1.1 ∧ p0.2.1.2.1.1 = p1.2.1.2.1.1 ∧ p0.2.1.2.1.2.1 = p1.2.1.2.1.2.1 ∧ p0.2.1.2.1.2.2.1 = p1.2.1.2.1.2.2.1 ∧ p0.2.1.2.1.2.2.2 = p1.2.1.2.1.2.2.2 ∧ p0.2.1.2.2.1 = p1.2.1.2.2.1 ∧ p0.2.1.2.2.2.1 = p1.2.1.2.2.2.1 ∧ p0.2.1.2.2.2.2.1 = p1.2.1.2.2.2.2.1 ∧ p0.2.1.2.2.2.2.2 = p1.2.1.2.2.2.2.2))
theorem rule_Key_c (Y : Nat → Prop) (w0 : World) (v1 : Value) (v2 : Value) (p0 : Int × (Int × (Int × Int × Int × Int) × (Int × Int × Int × Int)) × (List (Int × Int × Int))) (p1 : Int × (Int × (Int × Int × Int × Int) × (Int × Int × Int × Int)) × (List (Int × Int × Int))) (r : Bool) (H : rule_Key p0 p1 = r) (h_v1 : Sl w0 (NX []) R77 v1 p0.2.2) (h_v2 : Sl w0 (NX []) R77 v2 p1.2.2) :
    Calls Try.prog 64 #[.agg #[.int .i64 p0.1, .int .i64 p0.2.1.1, .int .i64 p0.2.1.2.1.1, .int .i64 p0.2.1.2.1.2.1, .int .i64 p0.2.1.2.1.2.2.1, .int .i64 p0.2.1.2.1.2.2.2, .int .i64 p0.2.1.2.2.1, .int .i64 p0.2.1.2.2.2.1, .int .i64 p0.2.1.2.2.2.2.1, .int .i64 p0.2.1.2.2.2.2.2, v1], .agg #[.int .i64 p1.1, .int .i64 p1.2.1.1, .int .i64 p1.2.1.2.1.1, .int .i64 p1.2.1.2.1.2.1, .int .i64 p1.2.1.2.1.2.2.1, .int .i64 p1.2.1.2.1.2.2.2, .int .i64 p1.2.1.2.2.1, .int .i64 p1.2.1.2.2.2.1, .int .i64 p1.2.1.2.2.2.2.1, .int .i64 p1.2.1.2.2.2.2.2, v2]] w0 fun e w' => e = .returned (.bool r) ∧ Below w0.heap.size w0 w' := by
 refine enter Try.func64 rfl Try.ntmps64 rfl (fun a hF => ?_)
 have hW := Stw.start Y w0
 unfold rule_Key at H
 refine c_seq ?_
 refine reg_list ?_
 refine l_box (cs := [.int .i64 p0.1, .int .i64 p0.2.1.1, .int .i64 p0.2.1.2.1.1, .int .i64 p0.2.1.2.1.2.1, .int .i64 p0.2.1.2.1.2.2.1, .int .i64 p0.2.1.2.1.2.2.2, .int .i64 p0.2.1.2.2.1, .int .i64 p0.2.1.2.2.2.1, .int .i64 p0.2.1.2.2.2.2.1, .int .i64 p0.2.1.2.2.2.2.2, v1]) hF hW rfl rfl rfl (fun b1 a w hF hW => ?_)
 refine l_box (cs := [.int .i64 p1.1, .int .i64 p1.2.1.1, .int .i64 p1.2.1.2.1.1, .int .i64 p1.2.1.2.1.2.1, .int .i64 p1.2.1.2.1.2.2.1, .int .i64 p1.2.1.2.1.2.2.2, .int .i64 p1.2.1.2.2.1, .int .i64 p1.2.1.2.2.2.1, .int .i64 p1.2.1.2.2.2.2.1, .int .i64 p1.2.1.2.2.2.2.2, v2]) hF hW rfl rfl rfl (fun b2 a w hF hW => ?_)
 refine ls hF hW rfl ((y_assign hF rfl).q) (fun a w hF hW => ?_)
 refine ls_nil ?_
 refine c_then ?_
 refine c_seqJ (fun a w => Fr 17 [] [(4, .bool (decide (p0.1 = p1.1) && decide (p0.2.1.1 = p1.2.1.1 ∧ p0.2.1.2.1.1 = p1.2.1.2.1.1 ∧ p0.2.1.2.1.2.1 = p1.2.1.2.1.2.1 ∧ p0.2.1.2.1.2.2.1 = p1.2.1.2.1.2.2.1 ∧ p0.2.1.2.1.2.2.2 = p1.2.1.2.1.2.2.2 ∧ p0.2.1.2.2.1 = p1.2.1.2.2.1 ∧ p0.2.1.2.2.2.1 = p1.2.1.2.2.2.1 ∧ p0.2.1.2.2.2.2.1 = p1.2.1.2.2.2.2.1 ∧ p0.2.1.2.2.2.2.2 = p1.2.1.2.2.2.2.2)))] a ∧ Stw ⟨Y, [], w0⟩ [(b2, [.int .i64 p1.1, .int .i64 p1.2.1.1, .int .i64 p1.2.1.2.1.1, .int .i64 p1.2.1.2.1.2.1, .int .i64 p1.2.1.2.1.2.2.1, .int .i64 p1.2.1.2.1.2.2.2, .int .i64 p1.2.1.2.2.1, .int .i64 p1.2.1.2.2.2.1, .int .i64 p1.2.1.2.2.2.2.1, .int .i64 p1.2.1.2.2.2.2.2, v2]), (b1, [.int .i64 p0.1, .int .i64 p0.2.1.1, .int .i64 p0.2.1.2.1.1, .int .i64 p0.2.1.2.1.2.1, .int .i64 p0.2.1.2.1.2.2.1, .int .i64 p0.2.1.2.1.2.2.2, .int .i64 p0.2.1.2.2.1, .int .i64 p0.2.1.2.2.2.1, .int .i64 p0.2.1.2.2.2.2.1, .int .i64 p0.2.1.2.2.2.2.2, v1])] [] w) ?_ ?_
 ·
  refine reg_list ?_
  refine ls hF hW rfl ((y_fieldAddr u40_ rfl rfl rfl T3 hF rfl 0 rfl).q) (fun a w hF hW => ?_)
  refine ls hF hW rfl ((y_load (v := Value.int .i64 p0.1) 1 hF rfl rfl T3 rfl).q) (fun a w hF hW => ?_)
  refine ls hF hW rfl ((y_fieldAddr u40_ rfl rfl rfl T3 hF rfl 0 rfl).q) (fun a w hF hW => ?_)
  refine ls hF hW rfl ((y_load (v := Value.int .i64 p1.1) 0 hF rfl rfl T3 rfl).q) (fun a w hF hW => ?_)
  refine ls hF hW rfl ((y_eql hF rfl rfl).q) (fun a w hF hW => ?_)
  refine ls hF hW rfl ((y_move hF rfl).q) (fun a w hF hW => ?_)
  rcases Bool.eq_false_or_eq_true (decide (p0.1 = p1.1)) with hb0 | hb0
  ·
   rw [hb0] at hF
   refine ls_w hF hW (wanted_y hF rfl rfl rfl rfl) rfl (Nat.le_of_ble_eq_true rfl) ((y_fieldAddr u40_ rfl rfl rfl T37 hF rfl 1 rfl).q) (fun a w hF hW => ?_)
   refine ls_w hF hW (wanted_y hF rfl rfl rfl rfl) rfl (Nat.le_of_ble_eq_true rfl) ((y_load (v := Value.agg #[.int .i64 p0.2.1.1, .int .i64 p0.2.1.2.1.1, .int .i64 p0.2.1.2.1.2.1, .int .i64 p0.2.1.2.1.2.2.1, .int .i64 p0.2.1.2.1.2.2.2, .int .i64 p0.2.1.2.2.1, .int .i64 p0.2.1.2.2.2.1, .int .i64 p0.2.1.2.2.2.2.1, .int .i64 p0.2.1.2.2.2.2.2]) 1 hF rfl rfl T37 rfl).q) (fun a w hF hW => ?_)
   refine ls_w hF hW (wanted_y hF rfl rfl rfl rfl) rfl (Nat.le_of_ble_eq_true rfl) ((y_fieldAddr u40_ rfl rfl rfl T37 hF rfl 1 rfl).q) (fun a w hF hW => ?_)
   refine ls_w hF hW (wanted_y hF rfl rfl rfl rfl) rfl (Nat.le_of_ble_eq_true rfl) ((y_load (v := Value.agg #[.int .i64 p1.2.1.1, .int .i64 p1.2.1.2.1.1, .int .i64 p1.2.1.2.1.2.1, .int .i64 p1.2.1.2.1.2.2.1, .int .i64 p1.2.1.2.1.2.2.2, .int .i64 p1.2.1.2.2.1, .int .i64 p1.2.1.2.2.2.1, .int .i64 p1.2.1.2.2.2.2.1, .int .i64 p1.2.1.2.2.2.2.2]) 0 hF rfl rfl T37 rfl).q) (fun a w hF hW => ?_)
   refine ls_w hF hW (wanted_y hF rfl rfl rfl rfl) rfl (Nat.le_of_ble_eq_true rfl) ((y_eqa (t := decide (p0.2.1.1 = p1.2.1.1 ∧ p0.2.1.2.1.1 = p1.2.1.2.1.1 ∧ p0.2.1.2.1.2.1 = p1.2.1.2.1.2.1 ∧ p0.2.1.2.1.2.2.1 = p1.2.1.2.1.2.2.1 ∧ p0.2.1.2.1.2.2.2 = p1.2.1.2.1.2.2.2 ∧ p0.2.1.2.2.1 = p1.2.1.2.2.1 ∧ p0.2.1.2.2.2.1 = p1.2.1.2.2.2.1 ∧ p0.2.1.2.2.2.2.1 = p1.2.1.2.2.2.2.1 ∧ p0.2.1.2.2.2.2.2 = p1.2.1.2.2.2.2.2)) G37 (Q37 _ _ _ _ _ _ _ _ _ _ _ _ _ _ _ _ _ _) hF rfl rfl).q) (fun a w hF hW => ?_)
   refine ls hF hW rfl ((y_pick_t hF rfl rfl rfl).q) (fun a w hF hW => ?_)
   refine ls hF hW rfl ((y_assign hF rfl).q) (fun a w hF hW => ?_)
   refine ls_nil ?_
   refine c_then ?_
   exact ⟨hF.re ⟨(by show some (Value.bool (decide (p0.2.1.1 = p1.2.1.1 ∧ p0.2.1.2.1.1 = p1.2.1.2.1.1 ∧ p0.2.1.2.1.2.1 = p1.2.1.2.1.2.1 ∧ p0.2.1.2.1.2.2.1 = p1.2.1.2.1.2.2.1 ∧ p0.2.1.2.1.2.2.2 = p1.2.1.2.1.2.2.2 ∧ p0.2.1.2.2.1 = p1.2.1.2.2.1 ∧ p0.2.1.2.2.2.1 = p1.2.1.2.2.2.1 ∧ p0.2.1.2.2.2.2.1 = p1.2.1.2.2.2.2.1 ∧ p0.2.1.2.2.2.2.2 = p1.2.1.2.2.2.2.2))) = some (Value.bool (decide (p0.1 = p1.1) && decide (p0.2.1.1 = p1.2.1.1 ∧ p0.2.1.2.1.1 = p1.2.1.2.1.1 ∧ p0.2.1.2.1.2.1 = p1.2.1.2.1.2.1 ∧ p0.2.1.2.1.2.2.1 = p1.2.1.2.1.2.2.1 ∧ p0.2.1.2.1.2.2.2 = p1.2.1.2.1.2.2.2 ∧ p0.2.1.2.2.1 = p1.2.1.2.2.1 ∧ p0.2.1.2.2.2.1 = p1.2.1.2.2.2.1 ∧ p0.2.1.2.2.2.2.1 = p1.2.1.2.2.2.2.1 ∧ p0.2.1.2.2.2.2.2 = p1.2.1.2.2.2.2.2))); try rw [hb0]; all_goals simp only [Bool.not_true, Bool.not_false, Bool.true_and, Bool.false_and, Bool.true_or, Bool.false_or, Bool.and_true, Bool.or_false, cond_true, cond_false]), trivial⟩, hW⟩
  ·
   rw [hb0] at hF
   refine lsn hF rfl rfl rfl rfl rfl rfl rfl (fun a hF => ?_)
   refine lsn hF rfl rfl rfl rfl rfl rfl rfl (fun a hF => ?_)
   refine lsn hF rfl rfl rfl rfl rfl rfl rfl (fun a hF => ?_)
   refine lsn hF rfl rfl rfl rfl rfl rfl rfl (fun a hF => ?_)
   refine lsn hF rfl rfl rfl rfl rfl rfl rfl (fun a hF => ?_)
   refine ls hF hW rfl ((y_pick_f hF rfl rfl rfl).q) (fun a w hF hW => ?_)
   refine ls hF hW rfl ((y_assign hF rfl).q) (fun a w hF hW => ?_)
   refine ls_nil ?_
   refine c_then ?_
   exact ⟨hF.re ⟨(by show some (Value.bool false) = some (Value.bool (decide (p0.1 = p1.1) && decide (p0.2.1.1 = p1.2.1.1 ∧ p0.2.1.2.1.1 = p1.2.1.2.1.1 ∧ p0.2.1.2.1.2.1 = p1.2.1.2.1.2.1 ∧ p0.2.1.2.1.2.2.1 = p1.2.1.2.1.2.2.1 ∧ p0.2.1.2.1.2.2.2 = p1.2.1.2.1.2.2.2 ∧ p0.2.1.2.2.1 = p1.2.1.2.2.1 ∧ p0.2.1.2.2.2.1 = p1.2.1.2.2.2.1 ∧ p0.2.1.2.2.2.2.1 = p1.2.1.2.2.2.2.1 ∧ p0.2.1.2.2.2.2.2 = p1.2.1.2.2.2.2.2))); try rw [hb0]; all_goals simp only [Bool.not_true, Bool.not_false, Bool.true_and, Bool.false_and, Bool.true_or, Bool.false_or, Bool.and_true, Bool.or_false, cond_true, cond_false]), trivial⟩, hW⟩
 rintro a w ⟨hF, hW⟩
 refine wp_ret ?_
 subst H
 refine post1 (.inl rfl) hF hW rfl (rv_tmp hF rfl) ?_
 exact ⟨rfl, hW.done⟩

theorem u77_ : type_of% Try.underlying77 := Try.underlying77
theorem H64 : Has Try.prog 64 := ⟨fun args w => run_callFunc_body Try.func64 rfl (by decide) args w⟩
theorem T77 : Ty Try.prog 77 true 3 := ⟨by kernel_rfl, by kernel_rfl⟩
theorem QD77 (dd : Nat) (x0 : Int) (x1 : Int) (x2 : Int) (y0 : Int) (y1 : Int) (y2 : Int) (w : World) : (Op.equalIn (dd + 2) 77 (.agg #[.int .i64 x0, .int .i64 x1, .int .i64 x2]) (.agg #[.int .i64 y0, .int .i64 y1, .int .i64 y2])).run Try.prog w = .ok (decide (x0 = y0 ∧ x1 = y1 ∧ x2 = y2)) w :=
  eq_struct (d := dd + 1) (rs := [decide (x0 = y0), decide (x1 = y1), decide (x2 = y2)]) u77_ (by kernel_rfl) ⟨rfl, fld_int (d := dd + 0) rfl rfl u3_ T3 rfl rfl, rfl, fld_int (d := dd + 0) rfl rfl u3_ T3 rfl rfl, rfl, fld_int (d := dd + 0) rfl rfl u3_ T3 rfl rfl, trivial⟩ (by simp) w
theorem G77 : Try.prog.eqGuardType Try.prog.depth 77 = false := by kernel_rfl
theorem Q77 (x0 : Int) (x1 : Int) (x2 : Int) (y0 : Int) (y1 : Int) (y2 : Int) (w : World) : (Op.equalIn 10000 77 (.agg #[.int .i64 x0, .int .i64 x1, .int .i64 x2]) (.agg #[.int .i64 y0, .int .i64 y1, .int .i64 y2])).run Try.prog w = .ok (decide (x0 = y0 ∧ x1 = y1 ∧ x2 = y2)) w := QD77 9998 x0 x1 x2 y0 y1 y2 w
noncomputable def slices_Equal_api_Act_api_Act_l1 (p0 : List (Int × Int × Int)) (p1 : List (Int × Int × Int)) : Int → Option (Int ⊕ (Unit ⊕ Bool))
  | x1 => (if x1 < (p0.length : Int) then (ix p0 x1).bind fun x2 => (ix p1 x1).bind fun x3 => (if (!(decide (x2.1 = x3.1 ∧ x2.2.1 = x3.2.1 ∧ x2.2.2 = x3.2.2))) = true then some (.inr (.inr false)) else some (.inl (w64 (x1 + 1)))) else some (.inr (.inl ())))
noncomputable def slices_Equal_api_Act_api_Act (p0 : List (Int × Int × Int)) (p1 : List (Int × Int × Int)) : Option Bool := (if (p0.length : Int) ≠ (p1.length : Int) then some false else orR (loopW (slices_Equal_api_Act_api_Act_l1 p0 p1) 0) fun _ => some true)
theorem slices_Equal_api_Act_api_Act_c (Y : Nat → Prop) (w0 : World) (v1 : Value) (v2 : Value) (p0 : List (Int × Int × Int)) (p1 : List (Int × Int × Int)) (r : Bool) (H : slices_Equal_api_Act_api_Act p0 p1 = some r) (h_v1 : Sl w0 (NX []) R77 v1 p0) (h_v2 : Sl w0 (NX []) R77 v2 p1) :
    Calls Try.prog 79 #[v1, v2] w0 fun e w' => e = .returned (.bool r) ∧ Below w0.heap.size w0 w' := by
 refine enter Try.func79 rfl Try.ntmps79 rfl (fun a hF => ?_)
 have hW := Stw.start Y w0
 unfold slices_Equal_api_Act_api_Act at H
 refine c_seq ?_
 refine reg_list ?_
 refine ls hF hW rfl ((y_assign hF rfl).q) (fun a w hF hW => ?_)
 refine ls_nil ?_
 refine c_then ?_
 refine c_seq ?_
 refine c_seq ?_
 refine reg_list ?_
 refine ls hF hW rfl ((y_move hF rfl).q) (fun a w hF hW => ?_)
 refine ls hF hW rfl ((y_len (r := R77) (l := p0) u38_ rfl hF rfl (rdc_ro h_v1)).q) (fun a w hF hW => ?_)
 refine ls hF hW rfl ((y_move hF rfl).q) (fun a w hF hW => ?_)
 refine ls hF hW rfl ((y_len (r := R77) (l := p1) u38_ rfl hF rfl (rdc_ro h_v2)).q) (fun a w hF hW => ?_)
 refine ls hF hW rfl ((y_neq hF rfl rfl).q) (fun a w hF hW => ?_)
 refine ls_nil ?_
 refine c_then ?_
 refine c_cond hF rfl (fun hb => ?_) (fun hb => ?_)
 ·
  have H := iteT (of_decide_eq_true hb) H
  rw [hb] at hF
  clear hb
  refine c_seq ?_
  refine reg_list ?_
  refine ls hF hW rfl ((y_assign hF rfl).q) (fun a w hF hW => ?_)
  refine ls_nil ?_
  refine c_then ?_
  refine wp_ret ?_
  refine r_then ?_
  have H := Option.some.inj H
  subst H
  refine post1 (.inl rfl) hF hW rfl (rv_tmp hF rfl) ?_
  exact ⟨rfl, hW.done⟩
 ·
  have H := iteF (of_decide_eq_false hb) H
  rw [hb] at hF
  clear hb
  refine wp_skip ?_
  refine c_then ?_
  obtain ⟨o1, G1, K1, L1⟩ := orE H
  refine c_seqJ (fun a w => some (Sum.inl ()) = some o1 ∧ Fr 26 [] [(4, .bool false)] a ∧ Stw ⟨Y, [], w0⟩ [] [] w) ?_ ?_
  ·
   have H := G1
   clear G1 K1
   refine c_seq ?_
   refine reg_list ?_
   refine ls hF hW rfl ((y_move hF rfl).q) (fun a w hF hW => ?_)
   refine ls hF hW rfl ((y_len (r := R77) (l := p0) u38_ rfl hF rfl (rdc_ro h_v1)).q) (fun a w hF hW => ?_)
   refine ls hF hW rfl ((y_move hF rfl).q) (fun a w hF hW => ?_)
   refine ls_nil ?_
   refine c_then ?_
   refine wp_block ?_
   refine c_loopW H (fun s a w => Fr 26 [] [(0, v1), (1, v2), (4, .bool false), (12, .int .i64 (p0.length : Int)), (13, .int .i64 s)] a ∧ Stw ⟨Y, [], w0⟩ [] [] w) ⟨hF.re ⟨rfl, rfl, rfl, rfl, rfl, trivial⟩, hW⟩ (fun s o a w H L2 hR => ?_)
   obtain ⟨x1, rfl⟩ : ∃ x, x = s := ⟨s, rfl⟩
   obtain ⟨hF, hW⟩ := hR
   have hF : Fr 26 [] [(0, v1), (1, v2), (4, .bool false), (12, .int .i64 (p0.length : Int)), (13, .int .i64 x1)] a := hF
   have hW : Stw ⟨Y, [], w0⟩ [] [] w := hW
   rw [slices_Equal_api_Act_api_Act_l1] at H
   refine c_seq ?_
   refine reg_list ?_
   refine ls hF hW rfl ((y_lss hF rfl rfl).q) (fun a w hF hW => ?_)
   refine ls_nil ?_
   refine c_then ?_
   refine c_seq ?_
   refine c_cond hF rfl (fun hb => ?_) (fun hb => ?_)
   ·
    have H := iteT (of_decide_eq_true hb) H
    rw [hb] at hF
    clear hb
    refine wp_skip ?_
    refine c_then ?_
    refine c_seq ?_
    refine wp_block ?_
    refine c_seq ?_
    refine reg_list ?_
    refine ls hF hW rfl ((y_move hF rfl).q) (fun a w hF hW => ?_)
    refine ls hF hW rfl ((y_assign hF rfl).q) (fun a w hF hW => ?_)
    refine ls_nil ?_
    refine c_then ?_
    refine c_seq ?_
    refine reg_quiet hW MO (by kernel_rfl) ?_
    refine qs hF rfl ((y_move hF rfl).q) (fun a hF => ?_)
    refine qs hF rfl ((y_move hF rfl).q) (fun a hF => ?_)
    obtain ⟨x2, h1, H⟩ := bindE H
    refine qs hF rfl ((y_index (r := R77) L38 hF rfl rfl (rdc_ro h_v1) h1).q) (fun a hF => ?_)
    refine qs hF rfl ((y_load_el (y := Value.agg #[.int .i64 x2.1, .int .i64 x2.2.1, .int .i64 x2.2.2]) (j := 0) (i := x1) hF rfl rfl (rdc_ro h_v1) h1 F77.to T77 rfl).q) (fun a hF => ?_)
    refine qs hF rfl ((y_move hF rfl).q) (fun a hF => ?_)
    refine qs hF rfl ((y_move hF rfl).q) (fun a hF => ?_)
    obtain ⟨x3, h2, H⟩ := bindE H
    refine qs hF rfl ((y_index (r := R77) L38 hF rfl rfl (rdc_ro h_v2) h2).q) (fun a hF => ?_)
    refine qs hF rfl ((y_load_el (y := Value.agg #[.int .i64 x3.1, .int .i64 x3.2.1, .int .i64 x3.2.2]) (j := 0) (i := x1) hF rfl rfl (rdc_ro h_v2) h2 F77.to T77 rfl).q) (fun a hF => ?_)
    refine qs hF rfl ((y_nea (t := decide (x2.1 = x3.1 ∧ x2.2.1 = x3.2.1 ∧ x2.2.2 = x3.2.2)) G77 (Q77 _ _ _ _ _ _) hF rfl rfl).q) (fun a hF => ?_)
    refine quiet_end (fun w hW => ?_)
    refine c_then ?_
    refine c_cond hF rfl (fun hb => ?_) (fun hb => ?_)
    ·
     have H := iteT hb H
     rw [hb] at hF
     clear hb
     refine c_seq ?_
     refine reg_list ?_
     refine ls hF hW rfl ((y_assign hF rfl).q) (fun a w hF hW => ?_)
     refine ls_nil ?_
     refine c_then ?_
     refine wp_ret ?_
     refine r_block ?_
     refine r_then ?_
     refine r_then ?_
     refine r_block ?_
     refine r_then ?_
     have H := L2 _ H
     have H := L1 _ H
     have H := Option.some.inj H
     subst H
     refine post1 (.inl rfl) hF hW rfl (rv_tmp hF rfl) ?_
     exact ⟨rfl, hW.done⟩
    ·
     have H := iteF (by rw [hb]; decide) H
     rw [hb] at hF
     clear hb
     refine wp_skip ?_
     refine b_normal ?_
     refine c_then ?_
     refine reg_list ?_
     refine ls hF hW rfl ((y_add hF rfl rfl rfl).q) (fun a w hF hW => ?_)
     refine ls hF hW rfl ((y_move hF rfl).q) (fun a w hF hW => ?_)
     refine ls_nil ?_
     refine c_then ?_
     exact ⟨_, H, hF.re ⟨rfl, rfl, rfl, rfl, rfl, trivial⟩, hW⟩
   ·
    have H := iteF (of_decide_eq_false hb) H
    rw [hb] at hF
    clear hb
    refine wp_exit ?_
    refine e_then ?_
    refine e_then ?_
    refine e_block ?_
    refine c_then ?_
    have H := L2 _ H
    exact ⟨H, hF.re ⟨rfl, trivial⟩, hW⟩
  rintro a w ⟨hj, hF, hW⟩
  have H := K1 _ hj
  clear hj G1 K1 L1
  refine c_seq ?_
  refine reg_list ?_
  refine ls hF hW rfl ((y_assign hF rfl).q) (fun a w hF hW => ?_)
  refine ls_nil ?_
  refine c_then ?_
  refine wp_ret ?_
  have H := Option.some.inj H
  subst H
  refine post1 (.inl rfl) hF hW rfl (rv_tmp hF rfl) ?_
  exact ⟨rfl, hW.done⟩

theorem H79 : Has Try.prog 79 := ⟨fun args w => run_callFunc_body Try.func79 rfl (by decide) args w⟩
noncomputable def act_Same (p0 : List (Int × Int × Int)) (p1 : List (Int × Int × Int)) : Option Bool := (slices_Equal_api_Act_api_Act p0 p1).bind fun x1 => some x1
theorem act_Same_c (Y : Nat → Prop) (w0 : World) (v1 : Value) (v2 : Value) (p0 : List (Int × Int × Int)) (p1 : List (Int × Int × Int)) (r : Bool) (H : act_Same p0 p1 = some r) (h_v1 : Sl w0 (NX []) R77 v1 p0) (h_v2 : Sl w0 (NX []) R77 v2 p1) :
    Calls Try.prog 65 #[v1, v2] w0 fun e w' => e = .returned (.bool r) ∧ Below w0.heap.size w0 w' := by
 refine enter Try.func65 rfl Try.ntmps65 rfl (fun a hF => ?_)
 have hW := Stw.start Y w0
 unfold act_Same at H
 refine c_seq ?_
 refine reg_list ?_
 refine ls hF hW rfl ((y_assign hF rfl).q) (fun a w hF hW => ?_)
 refine ls_nil ?_
 refine c_then ?_
 refine c_seq ?_
 refine reg_list ?_
 refine ls hF hW rfl ((y_move hF rfl).q) (fun a w hF hW => ?_)
 refine ls hF hW rfl ((y_move hF rfl).q) (fun a w hF hW => ?_)
 obtain ⟨x1, h1, H⟩ := bindE H
 refine ls hF hW rfl (y_call (v := Value.bool x1) hF H79 rfl (fun w hW => slices_Equal_api_Act_api_Act_c any w (v1) (v2) p0 p1 _ h1 (((rdc_ro h_v1) : Rdc _ _ _ _ _ _) w hW).nx (((rdc_ro h_v2) : Rdc _ _ _ _ _ _) w hW).nx)) (fun a w hF hW => ?_)
 refine ls hF hW rfl ((y_assign hF rfl).q) (fun a w hF hW => ?_)
 refine ls_nil ?_
 refine c_then ?_
 refine wp_ret ?_
 have H := Option.some.inj H
 subst H
 refine post1 (.inl rfl) hF hW rfl (rv_tmp hF rfl) ?_
 exact ⟨rfl, hW.done⟩

theorem H65 : Has Try.prog 65 := ⟨fun args w => run_callFunc_body Try.func65 rfl (by decide) args w⟩
noncomputable def rule_Same (p0 : Int × (Int × (Int × Int × Int × Int) × (Int × Int × Int × Int)) × (List (Int × Int × Int))) (p1 : Int × (Int × (Int × Int × Int × Int) × (Int × Int × Int × Int)) × (List (Int × Int × Int))) : Option Bool := (if (rule_Key p0 p1) = true then (act_Same p0.2.2 p1.2.2).bind fun x2 => some x2 else some false).bind fun x1 => some x1
theorem rule_Same_c (Y : Nat → Prop) (w0 : World) (v1 : Value) (v2 : Value) (p0 : Int × (Int × (Int × Int × Int × Int) × (Int × Int × Int × Int)) × (List (Int × Int × Int))) (p1 : Int × (Int × (Int × Int × Int × Int) × (Int × Int × Int × Int)) × (List (Int × Int × Int))) (r : Bool) (H : rule_Same p0 p1 = some r) (h_v1 : Sl w0 (NX []) R77 v1 p0.2.2) (h_v2 : Sl w0 (NX []) R77 v2 p1.2.2) :
    Calls Try.prog 47 #[.agg #[.int .i64 p0.1, .int .i64 p0.2.1.1, .int .i64 p0.2.1.2.1.1, .int .i64 p0.2.1.2.1.2.1, .int .i64 p0.2.1.2.1.2.2.1, .int .i64 p0.2.1.2.1.2.2.2, .int .i64 p0.2.1.2.2.1, .int .i64 p0.2.1.2.2.2.1, .int .i64 p0.2.1.2.2.2.2.1, .int .i64 p0.2.1.2.2.2.2.2, v1], .agg #[.int .i64 p1.1, .int .i64 p1.2.1.1, .int .i64 p1.2.1.2.1.1, .int .i64 p1.2.1.2.1.2.1, .int .i64 p1.2.1.2.1.2.2.1, .int .i64 p1.2.1.2.1.2.2.2, .int .i64 p1.2.1.2.2.1, .int .i64 p1.2.1.2.2.2.1, .int .i64 p1.2.1.2.2.2.2.1, .int .i64 p1.2.1.2.2.2.2.2, v2]] w0 fun e w' => e = .returned (.bool r) ∧ Below w0.heap.size w0 w' := by
 refine enter Try.func47 rfl Try.ntmps47 rfl (fun a hF => ?_)
 have hW := Stw.start Y w0
 unfold rule_Same at H
 refine c_seq ?_
 refine reg_list ?_
 refine l_box (cs := [.int .i64 p0.1, .int .i64 p0.2.1.1, .int .i64 p0.2.1.2.1.1, .int .i64 p0.2.1.2.1.2.1, .int .i64 p0.2.1.2.1.2.2.1, .int .i64 p0.2.1.2.1.2.2.2, .int .i64 p0.2.1.2.2.1, .int .i64 p0.2.1.2.2.2.1, .int .i64 p0.2.1.2.2.2.2.1, .int .i64 p0.2.1.2.2.2.2.2, v1]) hF hW rfl rfl rfl (fun b1 a w hF hW => ?_)
 refine l_box (cs := [.int .i64 p1.1, .int .i64 p1.2.1.1, .int .i64 p1.2.1.2.1.1, .int .i64 p1.2.1.2.1.2.1, .int .i64 p1.2.1.2.1.2.2.1, .int .i64 p1.2.1.2.1.2.2.2, .int .i64 p1.2.1.2.2.1, .int .i64 p1.2.1.2.2.2.1, .int .i64 p1.2.1.2.2.2.2.1, .int .i64 p1.2.1.2.2.2.2.2, v2]) hF hW rfl rfl rfl (fun b2 a w hF hW => ?_)
 refine ls hF hW rfl ((y_assign hF rfl).q) (fun a w hF hW => ?_)
 refine ls_nil ?_
 refine c_then ?_
 obtain ⟨o1, G1, K1⟩ := bindE H
 refine c_seqJ (fun a w => ∃ x1 : Bool, some (x1) = some o1 ∧ Fr 15 [] [(4, .bool x1)] a ∧ Stw ⟨Y, [], w0⟩ [(b2, [.int .i64 p1.1, .int .i64 p1.2.1.1, .int .i64 p1.2.1.2.1.1, .int .i64 p1.2.1.2.1.2.1, .int .i64 p1.2.1.2.1.2.2.1, .int .i64 p1.2.1.2.1.2.2.2, .int .i64 p1.2.1.2.2.1, .int .i64 p1.2.1.2.2.2.1, .int .i64 p1.2.1.2.2.2.2.1, .int .i64 p1.2.1.2.2.2.2.2, v2]), (b1, [.int .i64 p0.1, .int .i64 p0.2.1.1, .int .i64 p0.2.1.2.1.1, .int .i64 p0.2.1.2.1.2.1, .int .i64 p0.2.1.2.1.2.2.1, .int .i64 p0.2.1.2.1.2.2.2, .int .i64 p0.2.1.2.2.1, .int .i64 p0.2.1.2.2.2.1, .int .i64 p0.2.1.2.2.2.2.1, .int .i64 p0.2.1.2.2.2.2.2, v1])] [] w) ?_ ?_
 ·
  have H := G1
  clear G1 K1
  refine reg_list ?_
  refine ls hF hW rfl ((y_load (v := Value.agg #[.int .i64 p0.1, .int .i64 p0.2.1.1, .int .i64 p0.2.1.2.1.1, .int .i64 p0.2.1.2.1.2.1, .int .i64 p0.2.1.2.1.2.2.1, .int .i64 p0.2.1.2.1.2.2.2, .int .i64 p0.2.1.2.2.1, .int .i64 p0.2.1.2.2.2.1, .int .i64 p0.2.1.2.2.2.2.1, .int .i64 p0.2.1.2.2.2.2.2, v1]) 1 hF rfl rfl T40 rfl).q) (fun a w hF hW => ?_)
  refine ls hF hW rfl ((y_load (v := Value.agg #[.int .i64 p1.1, .int .i64 p1.2.1.1, .int .i64 p1.2.1.2.1.1, .int .i64 p1.2.1.2.1.2.1, .int .i64 p1.2.1.2.1.2.2.1, .int .i64 p1.2.1.2.1.2.2.2, .int .i64 p1.2.1.2.2.1, .int .i64 p1.2.1.2.2.2.1, .int .i64 p1.2.1.2.2.2.2.1, .int .i64 p1.2.1.2.2.2.2.2, v2]) 0 hF rfl rfl T40 rfl).q) (fun a w hF hW => ?_)
  refine ls hF hW rfl (y_call (v := Value.bool (rule_Key p0 p1)) hF H64 rfl (fun w hW => rule_Key_c any w (v1) (v2) p0 p1 _ rfl (((rdc_ro h_v1) : Rdc _ _ _ _ _ _) w hW).nx (((rdc_ro h_v2) : Rdc _ _ _ _ _ _) w hW).nx)) (fun a w hF hW => ?_)
  refine ls hF hW rfl ((y_move hF rfl).q) (fun a w hF hW => ?_)
  rcases Bool.eq_false_or_eq_true (rule_Key p0 p1) with hb | hb
  ·
   have H := iteT hb H
   rw [hb] at hF
   clear hb
   refine ls_w hF hW (wanted_y hF rfl rfl rfl rfl) rfl (Nat.le_of_ble_eq_true rfl) ((y_fieldAddr u40_ rfl rfl rfl T38 hF rfl 10 rfl).q) (fun a w hF hW => ?_)
   refine ls_w hF hW (wanted_y hF rfl rfl rfl rfl) rfl (Nat.le_of_ble_eq_true rfl) ((y_load (v := v1) 1 hF rfl rfl T38 rfl).q) (fun a w hF hW => ?_)
   refine ls_w hF hW (wanted_y hF rfl rfl rfl rfl) rfl (Nat.le_of_ble_eq_true rfl) ((y_fieldAddr u40_ rfl rfl rfl T38 hF rfl 10 rfl).q) (fun a w hF hW => ?_)
   refine ls_w hF hW (wanted_y hF rfl rfl rfl rfl) rfl (Nat.le_of_ble_eq_true rfl) ((y_load (v := v2) 0 hF rfl rfl T38 rfl).q) (fun a w hF hW => ?_)
   refine ls_g (wanted_y hF rfl rfl rfl rfl) ?_
   obtain ⟨x2, h1, H⟩ := bindE H
   refine ls hF hW rfl (y_call (v := Value.bool x2) hF H65 rfl (fun w hW => act_Same_c any w (v1) (v2) p0.2.2 p1.2.2 _ h1 (((rdc_ro h_v1) : Rdc _ _ _ _ _ _) w hW).nx (((rdc_ro h_v2) : Rdc _ _ _ _ _ _) w hW).nx)) (fun a w hF hW => ?_)
   refine ls hF hW rfl ((y_pick_t hF rfl rfl rfl).q) (fun a w hF hW => ?_)
   refine ls hF hW rfl ((y_assign hF rfl).q) (fun a w hF hW => ?_)
   refine ls_nil ?_
   refine c_then ?_
   have hW := hW.frontM (i := 1) rfl rfl
   have hW := hW.frontM (i := 1) rfl rfl
   exact ⟨_, H, hF.re ⟨rfl, trivial⟩, hW⟩
  ·
   have H := iteF (by rw [hb]; decide) H
   rw [hb] at hF
   clear hb
   refine lsn hF rfl rfl rfl rfl rfl rfl rfl (fun a hF => ?_)
   refine lsn hF rfl rfl rfl rfl rfl rfl rfl (fun a hF => ?_)
   refine lsn hF rfl rfl rfl rfl rfl rfl rfl (fun a hF => ?_)
   refine lsn hF rfl rfl rfl rfl rfl rfl rfl (fun a hF => ?_)
   refine lsn hF rfl rfl rfl rfl rfl rfl rfl (fun a hF => ?_)
   refine ls hF hW rfl ((y_pick_f hF rfl rfl rfl).q) (fun a w hF hW => ?_)
   refine ls hF hW rfl ((y_assign hF rfl).q) (fun a w hF hW => ?_)
   refine ls_nil ?_
   refine c_then ?_
   have hW := hW.frontM (i := 1) rfl rfl
   have hW := hW.frontM (i := 1) rfl rfl
   exact ⟨_, H, hF.re ⟨rfl, trivial⟩, hW⟩
 rintro a w ⟨x1, hj, hF, hW⟩
 have hj := Option.some.inj hj
 subst hj
 have H := K1
 clear G1 K1
 refine wp_ret ?_
 have H := Option.some.inj H
 subst H
 refine post1 (.inl rfl) hF hW rfl (rv_tmp hF rfl) ?_
 exact ⟨rfl, hW.done⟩

theorem u4_ : type_of% Try.underlying4 := Try.underlying4
theorem H47 : Has Try.prog 47 := ⟨fun args w => run_callFunc_body Try.func47 rfl (by decide) args w⟩
noncomputable def proto_sameMod (p0 : Int × (Int × (Int × (Int × Int × Int × Int) × (Int × Int × Int × Int)) × (List (Int × Int × Int))) × Bool) (p1 : Int × (Int × (Int × (Int × Int × Int × Int) × (Int × Int × Int × Int)) × (List (Int × Int × Int))) × Bool) : Option Bool := (if p0.1 = p1.1 then (if p0.2.2 = p1.2.2 then (rule_Same p0.2.1 p1.2.1).bind fun x2 => some x2 else some false) else some false).bind fun x1 => some x1
theorem proto_sameMod_c (Y : Nat → Prop) (w0 : World) (v1 : Value) (v2 : Value) (p0 : Int × (Int × (Int × (Int × Int × Int × Int) × (Int × Int × Int × Int)) × (List (Int × Int × Int))) × Bool) (p1 : Int × (Int × (Int × (Int × Int × Int × Int) × (Int × Int × Int × Int)) × (List (Int × Int × Int))) × Bool) (r : Bool) (H : proto_sameMod p0 p1 = some r) (h_v1 : Sl w0 (NX []) R77 v1 p0.2.1.2.2) (h_v2 : Sl w0 (NX []) R77 v2 p1.2.1.2.2) :
    Calls Try.prog 27 #[.agg #[.int .i64 p0.1, .int .i64 p0.2.1.1, .int .i64 p0.2.1.2.1.1, .int .i64 p0.2.1.2.1.2.1.1, .int .i64 p0.2.1.2.1.2.1.2.1, .int .i64 p0.2.1.2.1.2.1.2.2.1, .int .i64 p0.2.1.2.1.2.1.2.2.2, .int .i64 p0.2.1.2.1.2.2.1, .int .i64 p0.2.1.2.1.2.2.2.1, .int .i64 p0.2.1.2.1.2.2.2.2.1, .int .i64 p0.2.1.2.1.2.2.2.2.2, v1, .bool p0.2.2], .agg #[.int .i64 p1.1, .int .i64 p1.2.1.1, .int .i64 p1.2.1.2.1.1, .int .i64 p1.2.1.2.1.2.1.1, .int .i64 p1.2.1.2.1.2.1.2.1, .int .i64 p1.2.1.2.1.2.1.2.2.1, .int .i64 p1.2.1.2.1.2.1.2.2.2, .int .i64 p1.2.1.2.1.2.2.1, .int .i64 p1.2.1.2.1.2.2.2.1, .int .i64 p1.2.1.2.1.2.2.2.2.1, .int .i64 p1.2.1.2.1.2.2.2.2.2, v2, .bool p1.2.2]] w0 fun e w' => e = .returned (.bool r) ∧ Below w0.heap.size w0 w' := by
 refine enter Try.func27 rfl Try.ntmps27 rfl (fun a hF => ?_)
 have hW := Stw.start Y w0
 unfold proto_sameMod at H
 refine c_seq ?_
 refine reg_list ?_
 refine l_box (cs := [.int .i64 p0.1, .int .i64 p0.2.1.1, .int .i64 p0.2.1.2.1.1, .int .i64 p0.2.1.2.1.2.1.1, .int .i64 p0.2.1.2.1.2.1.2.1, .int .i64 p0.2.1.2.1.2.1.2.2.1, .int .i64 p0.2.1.2.1.2.1.2.2.2, .int .i64 p0.2.1.2.1.2.2.1, .int .i64 p0.2.1.2.1.2.2.2.1, .int .i64 p0.2.1.2.1.2.2.2.2.1, .int .i64 p0.2.1.2.1.2.2.2.2.2, v1, .bool p0.2.2]) hF hW rfl rfl rfl (fun b1 a w hF hW => ?_)
 refine l_box (cs := [.int .i64 p1.1, .int .i64 p1.2.1.1, .int .i64 p1.2.1.2.1.1, .int .i64 p1.2.1.2.1.2.1.1, .int .i64 p1.2.1.2.1.2.1.2.1, .int .i64 p1.2.1.2.1.2.1.2.2.1, .int .i64 p1.2.1.2.1.2.1.2.2.2, .int .i64 p1.2.1.2.1.2.2.1, .int .i64 p1.2.1.2.1.2.2.2.1, .int .i64 p1.2.1.2.1.2.2.2.2.1, .int .i64 p1.2.1.2.1.2.2.2.2.2, v2, .bool p1.2.2]) hF hW rfl rfl rfl (fun b2 a w hF hW => ?_)
 refine ls hF hW rfl ((y_assign hF rfl).q) (fun a w hF hW => ?_)
 refine ls_nil ?_
 refine c_then ?_
 obtain ⟨o1, G1, K1⟩ := bindE H
 refine c_seqJ (fun a w => ∃ x1 : Bool, some (x1) = some o1 ∧ Fr 24 [] [(4, .bool x1)] a ∧ Stw ⟨Y, [], w0⟩ [(b2, [.int .i64 p1.1, .int .i64 p1.2.1.1, .int .i64 p1.2.1.2.1.1, .int .i64 p1.2.1.2.1.2.1.1, .int .i64 p1.2.1.2.1.2.1.2.1, .int .i64 p1.2.1.2.1.2.1.2.2.1, .int .i64 p1.2.1.2.1.2.1.2.2.2, .int .i64 p1.2.1.2.1.2.2.1, .int .i64 p1.2.1.2.1.2.2.2.1, .int .i64 p1.2.1.2.1.2.2.2.2.1, .int .i64 p1.2.1.2.1.2.2.2.2.2, v2, .bool p1.2.2]), (b1, [.int .i64 p0.1, .int .i64 p0.2.1.1, .int .i64 p0.2.1.2.1.1, .int .i64 p0.2.1.2.1.2.1.1, .int .i64 p0.2.1.2.1.2.1.2.1, .int .i64 p0.2.1.2.1.2.1.2.2.1, .int .i64 p0.2.1.2.1.2.1.2.2.2, .int .i64 p0.2.1.2.1.2.2.1, .int .i64 p0.2.1.2.1.2.2.2.1, .int .i64 p0.2.1.2.1.2.2.2.2.1, .int .i64 p0.2.1.2.1.2.2.2.2.2, v1, .bool p0.2.2])] [] w) ?_ ?_
 ·
  have H := G1
  clear G1 K1
  refine reg_list ?_
  refine ls hF hW rfl ((y_fieldAddr u42_ rfl rfl rfl T3 hF rfl 0 rfl).q) (fun a w hF hW => ?_)
  refine ls hF hW rfl ((y_load (v := Value.int .i64 p0.1) 1 hF rfl rfl T3 rfl).q) (fun a w hF hW => ?_)
  refine ls hF hW rfl ((y_fieldAddr u42_ rfl rfl rfl T3 hF rfl 0 rfl).q) (fun a w hF hW => ?_)
  refine ls hF hW rfl ((y_load (v := Value.int .i64 p1.1) 0 hF rfl rfl T3 rfl).q) (fun a w hF hW => ?_)
  refine ls hF hW rfl ((y_eql hF rfl rfl).q) (fun a w hF hW => ?_)
  refine ls hF hW rfl ((y_move hF rfl).q) (fun a w hF hW => ?_)
  rcases Bool.eq_false_or_eq_true (decide (p0.1 = p1.1)) with hb | hb
  ·
   have H := iteT (of_decide_eq_true hb) H
   rw [hb] at hF
   clear hb
   refine ls_w hF hW (wanted_y hF rfl rfl rfl rfl) rfl (Nat.le_of_ble_eq_true rfl) ((y_fieldAddr u42_ rfl rfl rfl T4 hF rfl 12 rfl).q) (fun a w hF hW => ?_)
   refine ls_w hF hW (wanted_y hF rfl rfl rfl rfl) rfl (Nat.le_of_ble_eq_true rfl) ((y_load (v := Value.bool p0.2.2) 1 hF rfl rfl T4 rfl).q) (fun a w hF hW => ?_)
   refine ls_w hF hW (wanted_y hF rfl rfl rfl rfl) rfl (Nat.le_of_ble_eq_true rfl) ((y_fieldAddr u42_ rfl rfl rfl T4 hF rfl 12 rfl).q) (fun a w hF hW => ?_)
   refine ls_w hF hW (wanted_y hF rfl rfl rfl rfl) rfl (Nat.le_of_ble_eq_true rfl) ((y_load (v := Value.bool p1.2.2) 0 hF rfl rfl T4 rfl).q) (fun a w hF hW => ?_)
   refine ls_w hF hW (wanted_y hF rfl rfl rfl rfl) rfl (Nat.le_of_ble_eq_true rfl) ((y_eqb u4_ hF rfl rfl).q) (fun a w hF hW => ?_)
   refine ls hF hW rfl ((y_pick_t hF rfl rfl rfl).q) (fun a w hF hW => ?_)
   refine ls hF hW rfl ((y_move hF rfl).q) (fun a w hF hW => ?_)
   rcases Bool.eq_false_or_eq_true (decide (p0.2.2 = p1.2.2)) with hb | hb
   ·
    have H := iteT (of_decide_eq_true hb) H
    rw [hb] at hF
    clear hb
    refine ls_w hF hW (wanted_y hF rfl rfl rfl rfl) rfl (Nat.le_of_ble_eq_true rfl) ((y_fieldAddr u42_ rfl rfl rfl T40 hF rfl 1 rfl).q) (fun a w hF hW => ?_)
    refine ls_w hF hW (wanted_y hF rfl rfl rfl rfl) rfl (Nat.le_of_ble_eq_true rfl) ((y_load (v := Value.agg #[.int .i64 p0.2.1.1, .int .i64 p0.2.1.2.1.1, .int .i64 p0.2.1.2.1.2.1.1, .int .i64 p0.2.1.2.1.2.1.2.1, .int .i64 p0.2.1.2.1.2.1.2.2.1, .int .i64 p0.2.1.2.1.2.1.2.2.2, .int .i64 p0.2.1.2.1.2.2.1, .int .i64 p0.2.1.2.1.2.2.2.1, .int .i64 p0.2.1.2.1.2.2.2.2.1, .int .i64 p0.2.1.2.1.2.2.2.2.2, v1]) 1 hF rfl rfl T40 rfl).q) (fun a w hF hW => ?_)
    refine ls_w hF hW (wanted_y hF rfl rfl rfl rfl) rfl (Nat.le_of_ble_eq_true rfl) ((y_fieldAddr u42_ rfl rfl rfl T40 hF rfl 1 rfl).q) (fun a w hF hW => ?_)
    refine ls_w hF hW (wanted_y hF rfl rfl rfl rfl) rfl (Nat.le_of_ble_eq_true rfl) ((y_load (v := Value.agg #[.int .i64 p1.2.1.1, .int .i64 p1.2.1.2.1.1, .int .i64 p1.2.1.2.1.2.1.1, .int .i64 p1.2.1.2.1.2.1.2.1, .int .i64 p1.2.1.2.1.2.1.2.2.1, .int .i64 p1.2.1.2.1.2.1.2.2.2, .int .i64 p1.2.1.2.1.2.2.1, .int .i64 p1.2.1.2.1.2.2.2.1, .int .i64 p1.2.1.2.1.2.2.2.2.1, .int .i64 p1.2.1.2.1.2.2.2.2.2, v2]) 0 hF rfl rfl T40 rfl).q) (fun a w hF hW => ?_)
    refine ls_g (wanted_y hF rfl rfl rfl rfl) ?_
    obtain ⟨x2, h1, H⟩ := bindE H
    refine ls hF hW rfl (y_call (v := Value.bool x2) hF H47 rfl (fun w hW => rule_Same_c any w (v1) (v2) p0.2.1 p1.2.1 _ h1 (((rdc_ro h_v1) : Rdc _ _ _ _ _ _) w hW).nx (((rdc_ro h_v2) : Rdc _ _ _ _ _ _) w hW).nx)) (fun a w hF hW => ?_)
    refine ls hF hW rfl ((y_pick_t hF rfl rfl rfl).q) (fun a w hF hW => ?_)
    refine ls hF hW rfl ((y_assign hF rfl).q) (fun a w hF hW => ?_)
    refine ls_nil ?_
    refine c_then ?_
    have hW := hW.frontM (i := 1) rfl rfl
    have hW := hW.frontM (i := 1) rfl rfl
    exact ⟨_, H, hF.re ⟨rfl, trivial⟩, hW⟩
   ·
    have H := iteF (of_decide_eq_false hb) H
    rw [hb] at hF
    clear hb
    refine lsn hF rfl rfl rfl rfl rfl rfl rfl (fun a hF => ?_)
    refine lsn hF rfl rfl rfl rfl rfl rfl rfl (fun a hF => ?_)
    refine lsn hF rfl rfl rfl rfl rfl rfl rfl (fun a hF => ?_)
    refine lsn hF rfl rfl rfl rfl rfl rfl rfl (fun a hF => ?_)
    refine lsn hF rfl rfl rfl rfl rfl rfl rfl (fun a hF => ?_)
    refine ls hF hW rfl ((y_pick_f hF rfl rfl rfl).q) (fun a w hF hW => ?_)
    refine ls hF hW rfl ((y_assign hF rfl).q) (fun a w hF hW => ?_)
    refine ls_nil ?_
    refine c_then ?_
    have hW := hW.frontM (i := 1) rfl rfl
    have hW := hW.frontM (i := 1) rfl rfl
    exact ⟨_, H, hF.re ⟨rfl, trivial⟩, hW⟩
  ·
   have H := iteF (of_decide_eq_false hb) H
   rw [hb] at hF
   clear hb
   refine lsn hF rfl rfl rfl rfl rfl rfl rfl (fun a hF => ?_)
   refine lsn hF rfl rfl rfl rfl rfl rfl rfl (fun a hF => ?_)
   refine lsn hF rfl rfl rfl rfl rfl rfl rfl (fun a hF => ?_)
   refine lsn hF rfl rfl rfl rfl rfl rfl rfl (fun a hF => ?_)
   refine lsn hF rfl rfl rfl rfl rfl rfl rfl (fun a hF => ?_)
   refine ls hF hW rfl ((y_pick_f hF rfl rfl rfl).q) (fun a w hF hW => ?_)
   refine ls hF hW rfl ((y_move hF rfl).q) (fun a w hF hW => ?_)
   refine lsn hF rfl rfl rfl rfl rfl rfl rfl (fun a hF => ?_)
   refine lsn hF rfl rfl rfl rfl rfl rfl rfl (fun a hF => ?_)
   refine lsn hF rfl rfl rfl rfl rfl rfl rfl (fun a hF => ?_)
   refine lsn hF rfl rfl rfl rfl rfl rfl rfl (fun a hF => ?_)
   refine lsn hF rfl rfl rfl rfl rfl rfl rfl (fun a hF => ?_)
   refine ls hF hW rfl ((y_pick_f hF rfl rfl rfl).q) (fun a w hF hW => ?_)
   refine ls hF hW rfl ((y_assign hF rfl).q) (fun a w hF hW => ?_)
   refine ls_nil ?_
   refine c_then ?_
   have hW := hW.frontM (i := 1) rfl rfl
   have hW := hW.frontM (i := 1) rfl rfl
   exact ⟨_, H, hF.re ⟨rfl, trivial⟩, hW⟩
 rintro a w ⟨x1, hj, hF, hW⟩
 have hj := Option.some.inj hj
 subst hj
 have H := K1
 clear G1 K1
 refine wp_ret ?_
 have H := Option.some.inj H
 subst H
 refine post1 (.inl rfl) hF hW rfl (rv_tmp hF rfl) ?_
 exact ⟨rfl, hW.done⟩

theorem H27 : Has Try.prog 27 := ⟨fun args w => run_callFunc_body Try.func27 rfl (by decide) args w⟩
noncomputable def slices_EqualFunc_api_Mod_api_Mod_api_Mod_api_Mod_l1 (p0 : List (Int × (Int × (Int × (Int × Int × Int × Int) × (Int × Int × Int × Int)) × (List (Int × Int × Int))) × Bool)) (p1 : List (Int × (Int × (Int × (Int × Int × Int × Int) × (Int × Int × Int × Int)) × (List (Int × Int × Int))) × Bool)) : Int → Option (Int ⊕ (Unit ⊕ Bool))
  | x1 => (if x1 < (p0.length : Int) then (ix p0 x1).bind fun x2 => (ix p1 x1).bind fun x3 => (proto_sameMod x2 x3).bind fun x4 => (if (!x4) = true then some (.inr (.inr false)) else some (.inl (w64 (x1 + 1)))) else some (.inr (.inl ())))
noncomputable def slices_EqualFunc_api_Mod_api_Mod_api_Mod_api_Mod (p0 : List (Int × (Int × (Int × (Int × Int × Int × Int) × (Int × Int × Int × Int)) × (List (Int × Int × Int))) × Bool)) (p1 : List (Int × (Int × (Int × (Int × Int × Int × Int) × (Int × Int × Int × Int)) × (List (Int × Int × Int))) × Bool)) : Option Bool := (if (p0.length : Int) ≠ (p1.length : Int) then some false else orR (loopW (slices_EqualFunc_api_Mod_api_Mod_api_Mod_api_Mod_l1 p0 p1) 0) fun _ => some true)
theorem slices_EqualFunc_api_Mod_api_Mod_api_Mod_api_Mod_c (Y : Nat → Prop) (w0 : World) (v1 : Value) (v2 : Value) (p0 : List (Int × (Int × (Int × (Int × Int × Int × Int) × (Int × Int × Int × Int)) × (List (Int × Int × Int))) × Bool)) (p1 : List (Int × (Int × (Int × (Int × Int × Int × Int) × (Int × Int × Int × Int)) × (List (Int × Int × Int))) × Bool)) (r : Bool) (H : slices_EqualFunc_api_Mod_api_Mod_api_Mod_api_Mod p0 p1 = some r) (h_v1 : Sl w0 (NX []) R42 v1 p0) (h_v2 : Sl w0 (NX []) R42 v2 p1) :
    Calls Try.prog 26 #[v1, v2, .func (.func 27) #[] #[]] w0 fun e w' => e = .returned (.bool r) ∧ Below w0.heap.size w0 w' := by
 refine enter Try.func26 rfl Try.ntmps26 rfl (fun a hF => ?_)
 have hW := Stw.start Y w0
 obtain ⟨v3, h1, h_v1⟩ := h_v1.ex EX42
 obtain ⟨v4, h2, h_v2⟩ := h_v2.ex EX42
 unfold slices_EqualFunc_api_Mod_api_Mod_api_Mod_api_Mod at H
 refine c_seq ?_
 refine reg_list ?_
 refine ls hF hW rfl ((y_assign hF rfl).q) (fun a w hF hW => ?_)
 refine ls_nil ?_
 refine c_then ?_
 refine c_seq ?_
 refine c_seq ?_
 refine reg_list ?_
 refine ls hF hW rfl ((y_move hF rfl).q) (fun a w hF hW => ?_)
 refine ls hF hW rfl ((y_len (r := R42) (l := p0) u22_ rfl hF rfl (rdc_hide EX42 h1 (rdc_ro h_v1))).q) (fun a w hF hW => ?_)
 refine ls hF hW rfl ((y_move hF rfl).q) (fun a w hF hW => ?_)
 refine ls hF hW rfl ((y_len (r := R42) (l := p1) u22_ rfl hF rfl (rdc_hide EX42 h2 (rdc_ro h_v2))).q) (fun a w hF hW => ?_)
 refine ls hF hW rfl ((y_neq hF rfl rfl).q) (fun a w hF hW => ?_)
 refine ls_nil ?_
 refine c_then ?_
 refine c_cond hF rfl (fun hb => ?_) (fun hb => ?_)
 ·
  have H := iteT (of_decide_eq_true hb) H
  rw [hb] at hF
  clear hb
  refine c_seq ?_
  refine reg_list ?_
  refine ls hF hW rfl ((y_assign hF rfl).q) (fun a w hF hW => ?_)
  refine ls_nil ?_
  refine c_then ?_
  refine wp_ret ?_
  refine r_then ?_
  have H := Option.some.inj H
  subst H
  refine post1 (.inl rfl) hF hW rfl (rv_tmp hF rfl) ?_
  exact ⟨rfl, hW.done⟩
 ·
  have H := iteF (of_decide_eq_false hb) H
  rw [hb] at hF
  clear hb
  refine wp_skip ?_
  refine c_then ?_
  obtain ⟨o1, G1, K1, L1⟩ := orE H
  refine c_seqJ (fun a w => some (Sum.inl ()) = some o1 ∧ Fr 32 [] [(6, .bool false)] a ∧ Stw ⟨Y, [], w0⟩ [] [] w) ?_ ?_
  ·
   have H := G1
   clear G1 K1
   refine c_seq ?_
   refine reg_list ?_
   refine ls hF hW rfl ((y_move hF rfl).q) (fun a w hF hW => ?_)
   refine ls hF hW rfl ((y_len (r := R42) (l := p0) u22_ rfl hF rfl (rdc_hide EX42 h1 (rdc_ro h_v1))).q) (fun a w hF hW => ?_)
   refine ls hF hW rfl ((y_move hF rfl).q) (fun a w hF hW => ?_)
   refine ls_nil ?_
   refine c_then ?_
   refine wp_block ?_
   refine c_loopW H (fun s a w => Fr 32 [] [(1, v2), (2, .func (.func 27) #[] #[]), (6, .bool false), (15, v1), (16, .int .i64 (p0.length : Int)), (17, .int .i64 s)] a ∧ Stw ⟨Y, [], w0⟩ [] [] w) ⟨hF.re ⟨rfl, rfl, rfl, rfl, rfl, rfl, trivial⟩, hW⟩ (fun s o a w H L2 hR => ?_)
   obtain ⟨x1, rfl⟩ : ∃ x, x = s := ⟨s, rfl⟩
   obtain ⟨hF, hW⟩ := hR
   have hF : Fr 32 [] [(1, v2), (2, .func (.func 27) #[] #[]), (6, .bool false), (15, v1), (16, .int .i64 (p0.length : Int)), (17, .int .i64 x1)] a := hF
   have hW : Stw ⟨Y, [], w0⟩ [] [] w := hW
   rw [slices_EqualFunc_api_Mod_api_Mod_api_Mod_api_Mod_l1] at H
   refine c_seq ?_
   refine reg_list ?_
   refine ls hF hW rfl ((y_lss hF rfl rfl).q) (fun a w hF hW => ?_)
   refine ls_nil ?_
   refine c_then ?_
   refine c_seq ?_
   refine c_cond hF rfl (fun hb => ?_) (fun hb => ?_)
   ·
    have H := iteT (of_decide_eq_true hb) H
    rw [hb] at hF
    clear hb
    refine wp_skip ?_
    refine c_then ?_
    refine c_seq ?_
    refine wp_block ?_
    refine c_seq ?_
    refine reg_list ?_
    refine ls hF hW rfl ((y_move hF rfl).q) (fun a w hF hW => ?_)
    obtain ⟨x2, h3, H⟩ := bindE H
    obtain ⟨v5, h4, h5⟩ := ix_ex h1 h3
    have h6 : EE42 v5 = [.int .i64 x2.1, .int .i64 x2.2.1.1, .int .i64 x2.2.1.2.1.1, .int .i64 x2.2.1.2.1.2.1.1, .int .i64 x2.2.1.2.1.2.1.2.1, .int .i64 x2.2.1.2.1.2.1.2.2.1, .int .i64 x2.2.1.2.1.2.1.2.2.2, .int .i64 x2.2.1.2.1.2.2.1, .int .i64 x2.2.1.2.1.2.2.2.1, .int .i64 x2.2.1.2.1.2.2.2.2.1, .int .i64 x2.2.1.2.1.2.2.2.2.2, (v5.2.1.2.2.1), .bool x2.2.2] := congrArg (fun q : Int × (Int × (Int × (Int × Int × Int × Int) × (Int × Int × Int × Int)) × (List (Int × Int × Int))) × Bool => ([.int .i64 q.1, .int .i64 q.2.1.1, .int .i64 q.2.1.2.1.1, .int .i64 q.2.1.2.1.2.1.1, .int .i64 q.2.1.2.1.2.1.2.1, .int .i64 q.2.1.2.1.2.1.2.2.1, .int .i64 q.2.1.2.1.2.1.2.2.2, .int .i64 q.2.1.2.1.2.2.1, .int .i64 q.2.1.2.1.2.2.2.1, .int .i64 q.2.1.2.1.2.2.2.2.1, .int .i64 q.2.1.2.1.2.2.2.2.2, (v5.2.1.2.2.1), .bool q.2.2] : List Value)) h5
    refine ls hF hW rfl ((y_index (r := RX42) L22 hF rfl rfl (rdc_ro h_v1) h4).q) (fun a w hF hW => ?_)
    refine ls hF hW rfl ((y_load_el (y := Value.agg #[.int .i64 x2.1, .int .i64 x2.2.1.1, .int .i64 x2.2.1.2.1.1, .int .i64 x2.2.1.2.1.2.1.1, .int .i64 x2.2.1.2.1.2.1.2.1, .int .i64 x2.2.1.2.1.2.1.2.2.1, .int .i64 x2.2.1.2.1.2.1.2.2.2, .int .i64 x2.2.1.2.1.2.2.1, .int .i64 x2.2.1.2.1.2.2.2.1, .int .i64 x2.2.1.2.1.2.2.2.2.1, .int .i64 x2.2.1.2.1.2.2.2.2.2, (v5.2.1.2.2.1), .bool x2.2.2]) (j := 0) (i := x1) (enc := EE42) hF rfl rfl (rdc_ro h_v1) h4 FE42 T42 (by rw [h6]; rfl)).q) (fun a w hF hW => ?_)
    refine l_alloc (cs := [.int .i64 0, .int .i64 0, .int .i64 0, .int .i64 0, .int .i64 0, .int .i64 0, .int .i64 0, .int .i64 0, .int .i64 0, .int .i64 0, .int .i64 0, .slice none 0 0, .bool false]) hF hW rfl Z42 rfl (fun b1 a w hF hW => ?_)
    refine ls hF hW rfl ((y_assign hF rfl).q) (fun a w hF hW => ?_)
    refine l_store (vs := [.int .i64 x2.1, .int .i64 x2.2.1.1, .int .i64 x2.2.1.2.1.1, .int .i64 x2.2.1.2.1.2.1.1, .int .i64 x2.2.1.2.1.2.1.2.1, .int .i64 x2.2.1.2.1.2.1.2.2.1, .int .i64 x2.2.1.2.1.2.1.2.2.2, .int .i64 x2.2.1.2.1.2.2.1, .int .i64 x2.2.1.2.1.2.2.2.1, .int .i64 x2.2.1.2.1.2.2.2.2.1, .int .i64 x2.2.1.2.1.2.2.2.2.2, (v5.2.1.2.2.1), .bool x2.2.2]) (M' := [(b1, [.int .i64 x2.1, .int .i64 x2.2.1.1, .int .i64 x2.2.1.2.1.1, .int .i64 x2.2.1.2.1.2.1.1, .int .i64 x2.2.1.2.1.2.1.2.1, .int .i64 x2.2.1.2.1.2.1.2.2.1, .int .i64 x2.2.1.2.1.2.1.2.2.2, .int .i64 x2.2.1.2.1.2.2.1, .int .i64 x2.2.1.2.1.2.2.2.1, .int .i64 x2.2.1.2.1.2.2.2.2.1, .int .i64 x2.2.1.2.1.2.2.2.2.2, (v5.2.1.2.2.1), .bool x2.2.2])]) 0 hF hW rfl rfl rfl T42 rfl rfl rfl (one_cons rfl (one_cons rfl (one_cons rfl (one_cons rfl (one_cons rfl (one_cons rfl (one_cons rfl (one_cons rfl (one_cons rfl (one_cons rfl (one_cons rfl (one_cons ((rdc_at (rdc_ro h_v1) h4 (Path.snd (Path.fst (Path.snd (Path.snd Path.here)))) (congrArg (fun q : Int × (Int × (Int × (Int × Int × Int × Int) × (Int × Int × Int × Int)) × (List (Int × Int × Int))) × Bool => q.2.1.2.2) h5)) _ hW).one (one_cons rfl one_nil))))))))))))) rfl (fun w hW => ?_)
    refine ls_nil ?_
    refine c_then ?_
    refine c_seq ?_
    refine reg_list ?_
    refine ls hF hW rfl ((y_move hF rfl).q) (fun a w hF hW => ?_)
    refine ls hF hW rfl ((y_move hF rfl).q) (fun a w hF hW => ?_)
    obtain ⟨x3, h7, H⟩ := bindE H
    obtain ⟨v6, h8, h9⟩ := ix_ex h2 h7
    have h10 : EE42 v6 = [.int .i64 x3.1, .int .i64 x3.2.1.1, .int .i64 x3.2.1.2.1.1, .int .i64 x3.2.1.2.1.2.1.1, .int .i64 x3.2.1.2.1.2.1.2.1, .int .i64 x3.2.1.2.1.2.1.2.2.1, .int .i64 x3.2.1.2.1.2.1.2.2.2, .int .i64 x3.2.1.2.1.2.2.1, .int .i64 x3.2.1.2.1.2.2.2.1, .int .i64 x3.2.1.2.1.2.2.2.2.1, .int .i64 x3.2.1.2.1.2.2.2.2.2, (v6.2.1.2.2.1), .bool x3.2.2] := congrArg (fun q : Int × (Int × (Int × (Int × Int × Int × Int) × (Int × Int × Int × Int)) × (List (Int × Int × Int))) × Bool => ([.int .i64 q.1, .int .i64 q.2.1.1, .int .i64 q.2.1.2.1.1, .int .i64 q.2.1.2.1.2.1.1, .int .i64 q.2.1.2.1.2.1.2.1, .int .i64 q.2.1.2.1.2.1.2.2.1, .int .i64 q.2.1.2.1.2.1.2.2.2, .int .i64 q.2.1.2.1.2.2.1, .int .i64 q.2.1.2.1.2.2.2.1, .int .i64 q.2.1.2.1.2.2.2.2.1, .int .i64 q.2.1.2.1.2.2.2.2.2, (v6.2.1.2.2.1), .bool q.2.2] : List Value)) h9
    refine ls hF hW rfl ((y_index (r := RX42) L22 hF rfl rfl (rdc_ro h_v2) h8).q) (fun a w hF hW => ?_)
    refine ls hF hW rfl ((y_load_el (y := Value.agg #[.int .i64 x3.1, .int .i64 x3.2.1.1, .int .i64 x3.2.1.2.1.1, .int .i64 x3.2.1.2.1.2.1.1, .int .i64 x3.2.1.2.1.2.1.2.1, .int .i64 x3.2.1.2.1.2.1.2.2.1, .int .i64 x3.2.1.2.1.2.1.2.2.2, .int .i64 x3.2.1.2.1.2.2.1, .int .i64 x3.2.1.2.1.2.2.2.1, .int .i64 x3.2.1.2.1.2.2.2.2.1, .int .i64 x3.2.1.2.1.2.2.2.2.2, (v6.2.1.2.2.1), .bool x3.2.2]) (j := 0) (i := x1) (enc := EE42) hF rfl rfl (rdc_ro h_v2) h8 FE42 T42 (by rw [h10]; rfl)).q) (fun a w hF hW => ?_)
    refine l_alloc (cs := [.int .i64 0, .int .i64 0, .int .i64 0, .int .i64 0, .int .i64 0, .int .i64 0, .int .i64 0, .int .i64 0, .int .i64 0, .int .i64 0, .int .i64 0, .slice none 0 0, .bool false]) hF hW rfl Z42 rfl (fun b2 a w hF hW => ?_)
    refine l_store (vs := [.int .i64 x3.1, .int .i64 x3.2.1.1, .int .i64 x3.2.1.2.1.1, .int .i64 x3.2.1.2.1.2.1.1, .int .i64 x3.2.1.2.1.2.1.2.1, .int .i64 x3.2.1.2.1.2.1.2.2.1, .int .i64 x3.2.1.2.1.2.1.2.2.2, .int .i64 x3.2.1.2.1.2.2.1, .int .i64 x3.2.1.2.1.2.2.2.1, .int .i64 x3.2.1.2.1.2.2.2.2.1, .int .i64 x3.2.1.2.1.2.2.2.2.2, (v6.2.1.2.2.1), .bool x3.2.2]) (M' := [(b2, [.int .i64 x3.1, .int .i64 x3.2.1.1, .int .i64 x3.2.1.2.1.1, .int .i64 x3.2.1.2.1.2.1.1, .int .i64 x3.2.1.2.1.2.1.2.1, .int .i64 x3.2.1.2.1.2.1.2.2.1, .int .i64 x3.2.1.2.1.2.1.2.2.2, .int .i64 x3.2.1.2.1.2.2.1, .int .i64 x3.2.1.2.1.2.2.2.1, .int .i64 x3.2.1.2.1.2.2.2.2.1, .int .i64 x3.2.1.2.1.2.2.2.2.2, (v6.2.1.2.2.1), .bool x3.2.2]), (b1, [.int .i64 x2.1, .int .i64 x2.2.1.1, .int .i64 x2.2.1.2.1.1, .int .i64 x2.2.1.2.1.2.1.1, .int .i64 x2.2.1.2.1.2.1.2.1, .int .i64 x2.2.1.2.1.2.1.2.2.1, .int .i64 x2.2.1.2.1.2.1.2.2.2, .int .i64 x2.2.1.2.1.2.2.1, .int .i64 x2.2.1.2.1.2.2.2.1, .int .i64 x2.2.1.2.1.2.2.2.2.1, .int .i64 x2.2.1.2.1.2.2.2.2.2, (v5.2.1.2.2.1), .bool x2.2.2])]) 0 hF hW rfl rfl rfl T42 rfl rfl rfl (one_cons rfl (one_cons rfl (one_cons rfl (one_cons rfl (one_cons rfl (one_cons rfl (one_cons rfl (one_cons rfl (one_cons rfl (one_cons rfl (one_cons rfl (one_cons ((rdc_at (rdc_ro h_v2) h8 (Path.snd (Path.fst (Path.snd (Path.snd Path.here)))) (congrArg (fun q : Int × (Int × (Int × (Int × Int × Int × Int) × (Int × Int × Int × Int)) × (List (Int × Int × Int))) × Bool => q.2.1.2.2) h9)) _ hW).one (one_cons rfl one_nil))))))))))))) rfl (fun w hW => ?_)
    refine ls_nil ?_
    refine c_then ?_
    refine c_seq ?_
    refine reg_list ?_
    refine ls hF hW rfl ((y_move hF rfl).q) (fun a w hF hW => ?_)
    refine ls hF hW rfl ((y_load (v := Value.agg #[.int .i64 x2.1, .int .i64 x2.2.1.1, .int .i64 x2.2.1.2.1.1, .int .i64 x2.2.1.2.1.2.1.1, .int .i64 x2.2.1.2.1.2.1.2.1, .int .i64 x2.2.1.2.1.2.1.2.2.1, .int .i64 x2.2.1.2.1.2.1.2.2.2, .int .i64 x2.2.1.2.1.2.2.1, .int .i64 x2.2.1.2.1.2.2.2.1, .int .i64 x2.2.1.2.1.2.2.2.2.1, .int .i64 x2.2.1.2.1.2.2.2.2.2, (v5.2.1.2.2.1), .bool x2.2.2]) 1 hF rfl rfl T42 rfl).q) (fun a w hF hW => ?_)
    refine ls hF hW rfl ((y_load (v := Value.agg #[.int .i64 x3.1, .int .i64 x3.2.1.1, .int .i64 x3.2.1.2.1.1, .int .i64 x3.2.1.2.1.2.1.1, .int .i64 x3.2.1.2.1.2.1.2.1, .int .i64 x3.2.1.2.1.2.1.2.2.1, .int .i64 x3.2.1.2.1.2.1.2.2.2, .int .i64 x3.2.1.2.1.2.2.1, .int .i64 x3.2.1.2.1.2.2.2.1, .int .i64 x3.2.1.2.1.2.2.2.2.1, .int .i64 x3.2.1.2.1.2.2.2.2.2, (v6.2.1.2.2.1), .bool x3.2.2]) 0 hF rfl rfl T42 rfl).q) (fun a w hF hW => ?_)
    obtain ⟨x4, h11, H⟩ := bindE H
    refine ls hF hW rfl (y_callV (ws := [.agg #[.int .i64 x2.1, .int .i64 x2.2.1.1, .int .i64 x2.2.1.2.1.1, .int .i64 x2.2.1.2.1.2.1.1, .int .i64 x2.2.1.2.1.2.1.2.1, .int .i64 x2.2.1.2.1.2.1.2.2.1, .int .i64 x2.2.1.2.1.2.1.2.2.2, .int .i64 x2.2.1.2.1.2.2.1, .int .i64 x2.2.1.2.1.2.2.2.1, .int .i64 x2.2.1.2.1.2.2.2.2.1, .int .i64 x2.2.1.2.1.2.2.2.2.2, (v5.2.1.2.2.1), .bool x2.2.2], .agg #[.int .i64 x3.1, .int .i64 x3.2.1.1, .int .i64 x3.2.1.2.1.1, .int .i64 x3.2.1.2.1.2.1.1, .int .i64 x3.2.1.2.1.2.1.2.1, .int .i64 x3.2.1.2.1.2.1.2.2.1, .int .i64 x3.2.1.2.1.2.1.2.2.2, .int .i64 x3.2.1.2.1.2.2.1, .int .i64 x3.2.1.2.1.2.2.2.1, .int .i64 x3.2.1.2.1.2.2.2.2.1, .int .i64 x3.2.1.2.1.2.2.2.2.2, (v6.2.1.2.2.1), .bool x3.2.2]]) (v := Value.bool x4) hF H27 rfl (fun w hW => proto_sameMod_c any w ((v5.2.1.2.2.1)) ((v6.2.1.2.2.1)) x2 x3 _ h11 (((rdc_at (rdc_ro h_v1) h4 (Path.snd (Path.fst (Path.snd (Path.snd Path.here)))) (congrArg (fun q : Int × (Int × (Int × (Int × Int × Int × Int) × (Int × Int × Int × Int)) × (List (Int × Int × Int))) × Bool => q.2.1.2.2) h5)) : Rdc _ _ _ _ _ _) w hW).nx (((rdc_at (rdc_ro h_v2) h8 (Path.snd (Path.fst (Path.snd (Path.snd Path.here)))) (congrArg (fun q : Int × (Int × (Int × (Int × Int × Int × Int) × (Int × Int × Int × Int)) × (List (Int × Int × Int))) × Bool => q.2.1.2.2) h9)) : Rdc _ _ _ _ _ _) w hW).nx)) (fun a w hF hW => ?_)
    refine ls hF hW rfl ((y_not hF rfl).q) (fun a w hF hW => ?_)
    refine ls_nil ?_
    refine c_then ?_
    refine c_cond hF rfl (fun hb => ?_) (fun hb => ?_)
    ·
     have H := iteT hb H
     rw [hb] at hF
     clear hb
     refine c_seq ?_
     refine reg_list ?_
     refine ls hF hW rfl ((y_assign hF rfl).q) (fun a w hF hW => ?_)
     refine ls_nil ?_
     refine c_then ?_
     refine wp_ret ?_
     refine r_block ?_
     refine r_then ?_
     refine r_then ?_
     refine r_block ?_
     refine r_then ?_
     have H := L2 _ H
     have H := L1 _ H
     have H := Option.some.inj H
     subst H
     refine post1 (.inl rfl) hF hW rfl (rv_tmp hF rfl) ?_
     exact ⟨rfl, hW.done⟩
    ·
     have H := iteF (by rw [hb]; decide) H
     rw [hb] at hF
     clear hb
     refine wp_skip ?_
     refine b_normal ?_
     refine c_then ?_
     refine reg_list ?_
     refine ls hF hW rfl ((y_add hF rfl rfl rfl).q) (fun a w hF hW => ?_)
     refine ls hF hW rfl ((y_move hF rfl).q) (fun a w hF hW => ?_)
     refine ls_nil ?_
     refine c_then ?_
     have hW := hW.sub (M' := []) (Z' := []) (List.nil_sublist _) (List.Sublist.refl _)
     exact ⟨_, H, hF.re ⟨rfl, rfl, rfl, rfl, rfl, rfl, trivial⟩, hW⟩
   ·
    have H := iteF (of_decide_eq_false hb) H
    rw [hb] at hF
    clear hb
    refine wp_exit ?_
    refine e_then ?_
    refine e_then ?_
    refine e_block ?_
    refine c_then ?_
    have H := L2 _ H
    exact ⟨H, hF.re ⟨rfl, trivial⟩, hW⟩
  rintro a w ⟨hj, hF, hW⟩
  have H := K1 _ hj
  clear hj G1 K1 L1
  refine c_seq ?_
  refine reg_list ?_
  refine ls hF hW rfl ((y_assign hF rfl).q) (fun a w hF hW => ?_)
  refine ls_nil ?_
  refine c_then ?_
  refine wp_ret ?_
  have H := Option.some.inj H
  subst H
  refine post1 (.inl rfl) hF hW rfl (rv_tmp hF rfl) ?_
  exact ⟨rfl, hW.done⟩

end Go.Proofs.Ytnlllglfmipllaa
