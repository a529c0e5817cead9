/- The functions of layer 17, lifted. Conditions: none. -/
import Derived.Test.YtnkleniifdkpmaaB0
namespace Go.Proofs.Ytnkleniifdkpmaa
open Go Go.RowKit
set_option linter.unusedVariables false
set_option linter.unusedSimpArgs false
set_option maxRecDepth 20000
theorem H19 : Has Try.prog 19 := ⟨fun args w => run_callFunc_body Try.func19 rfl (by decide) args w⟩
noncomputable def L17_TopoTells_l1 (x12 : (List (Int × Int × Int))) (x13 : (List (Int × Int × Int))) : Int → Option (Int ⊕ (Unit ⊕ Bool))
  | x14 => (if x14 < (x13.length : Int) then ((ix x12 x14).bind fun x16 => (ix x13 x14).bind fun x17 => (if x16.1 ≠ x17.1 then some true else (ix x12 x14).bind fun x18 => (ix x13 x14).bind fun x19 => (if x18.2.1 ≠ x19.2.1 then some true else (ix x12 x14).bind fun x20 => (ix x13 x14).bind fun x21 => some (decide (x20.2.2 ≠ x21.2.2))))).bind fun x15 => (if x15 = true then some (.inr (.inr false)) else some (.inl (w64 (x14 + 1)))) else some (.inr (.inl ())))
noncomputable def L17_TopoTells_l2 (x22 : List Int) : (Bool × Int) → Option ((Bool × Int) ⊕ Bool)
  | (x24, x25) => (if x25 < (x22.length : Int) then (if x24 = true then (ix x22 x25).bind fun x26 => some (.inl (decide (0 ≤ x26), w64 (x25 + 1))) else some (.inl (false, w64 (x25 + 1)))) else some (.inr x24))
noncomputable def L17_TopoTells (p0 : Int × (List (Int × Int × Int × Int × Int × Int)) × (List (Int × Int))) (p1 : Int) (p2 : Int) : Option Bool := (if (!(L17_small p0)) = true then (L17_awake).bind fun x1 => some x1 else (r17_Right p0).bind fun x2 => (topo_Right p0).bind fun x3 => (if x3 ≠ x2 then some false else (if (!x2) = true then (L17_awake).bind fun x4 => some x4 else (topo_Peer p0 p1 p2).bind fun x5 => (r17_Peer p0 p1 p2).bind fun x6 => (if x5.1 ≠ x6.1 then some true else (if x5.2.1 ≠ x6.2.1 then some true else (if x5.2.2.1 ≠ x6.2.2.1 then some true else (if x5.2.2.2 ≠ x6.2.2.2 then some true else (topo_HostAt p0 p1 p2).bind fun x8 => (r17_HostAt p0 p1 p2).bind fun x9 => (if x8 ≠ x9 then some true else (topo_Slowest p0).bind fun x10 => (r17_Slowest p0).bind fun x11 => some (decide (x10 ≠ x11))))))).bind fun x7 => (if x7 = true then some false else (topo_Near p0 p1).bind fun x12 => (r17_Near p0 p1).bind fun x13 => (if (x12.length : Int) ≠ (x13.length : Int) then some false else orR (loopW (L17_TopoTells_l1 x12 x13) 0) fun _ => (r17_Hops p0 0).bind fun x22 => (loopW (L17_TopoTells_l2 x22) (true, 0)).bind fun x23 => ((topo_Hops p0 p1).bind fun x28 => (r17_Hops p0 p1).bind fun x29 => (r13_Same x28 x29).bind fun x30 => (if x30 = true then (topo_Whole p0).bind fun x31 => (if x31 = x23 then (L17_awake).bind fun x32 => some x32 else some false) else some false)).bind fun x27 => some x27)))))
theorem L17_TopoTells_c (Y : Nat → Prop) (w0 : World) (v1 : Value) (v2 : Value) (p0 : Int × (List (Int × Int × Int × Int × Int × Int)) × (List (Int × Int))) (p1 : Int) (p2 : Int) (r : Bool) (H : L17_TopoTells p0 p1 p2 = some r) (h_v1 : Sl w0 (NX []) R44 v1 p0.2.1) (h_v2 : Sl w0 (NX []) R47 v2 p0.2.2) :
    Calls Try.prog 3 #[.agg #[.int .i64 p0.1, v1, v2], .int .i64 p1, .int .i64 p2] w0 fun e w' => e = .returned (.bool r) ∧ Below w0.heap.size w0 w' := by
 refine enter Try.func3 rfl Try.ntmps3 rfl (fun a hF => ?_)
 have hW := Stw.start Y w0
 unfold L17_TopoTells at H
 refine c_seq ?_
 refine reg_list ?_
 refine l_box (cs := [.int .i64 p0.1, v1, v2]) hF hW rfl rfl rfl (fun b1 a w hF hW => ?_)
 refine ls hF hW rfl ((y_assign hF rfl).q) (fun a w hF hW => ?_)
 refine ls_nil ?_
 refine c_then ?_
 refine c_seq ?_
 refine c_seq ?_
 refine reg_list ?_
 refine ls hF hW rfl ((y_load (v := Value.agg #[.int .i64 p0.1, v1, v2]) 0 hF rfl rfl T25 rfl).q) (fun a w hF hW => ?_)
 refine ls hF hW rfl (y_call (v := Value.bool (L17_small p0)) hF H6 rfl (fun w hW => L17_small_c any w (v1) (v2) p0 _ rfl (((rdc_ro h_v1) : Rdc _ _ _ _ _ _) w hW).nx (((rdc_ro h_v2) : Rdc _ _ _ _ _ _) w hW).nx)) (fun a w hF hW => ?_)
 refine ls hF hW rfl ((y_not hF rfl).q) (fun a w hF hW => ?_)
 refine ls_nil ?_
 refine c_then ?_
 refine c_cond hF rfl (fun hb => ?_) (fun hb => ?_)
 ·
  have H := iteT hb H
  rw [hb] at hF
  clear hb
  refine c_seq ?_
  refine reg_list ?_
  obtain ⟨x1, h1, H⟩ := bindE H
  refine ls hF hW rfl (y_call (v := Value.bool x1) hF H7 rfl (fun w hW => L17_awake_c any w _ h1)) (fun a w hF hW => ?_)
  refine ls hF hW rfl ((y_assign hF rfl).q) (fun a w hF hW => ?_)
  refine ls_nil ?_
  refine c_then ?_
  refine wp_ret ?_
  refine r_then ?_
  have H := Option.some.inj H
  subst H
  refine post1 (.inl rfl) hF hW rfl (rv_tmp hF rfl) ?_
  exact ⟨rfl, hW.done⟩
 ·
  have H := iteF (by rw [hb]; decide) H
  rw [hb] at hF
  clear hb
  refine wp_skip ?_
  refine c_then ?_
  refine c_seq ?_
  refine reg_list ?_
  refine ls hF hW rfl ((y_load (v := Value.agg #[.int .i64 p0.1, v1, v2]) 0 hF rfl rfl T25 rfl).q) (fun a w hF hW => ?_)
  obtain ⟨x2, h2, H⟩ := bindE H
  refine ls hF hW rfl (y_call (v := Value.bool x2) hF H8 rfl (fun w hW => r17_Right_c any w (v1) (v2) p0 _ h2 (((rdc_ro h_v1) : Rdc _ _ _ _ _ _) w hW).nx (((rdc_ro h_v2) : Rdc _ _ _ _ _ _) w hW).nx)) (fun a w hF hW => ?_)
  refine ls hF hW rfl ((y_assign hF rfl).q) (fun a w hF hW => ?_)
  refine ls_nil ?_
  refine c_then ?_
  refine c_seq ?_
  refine c_seq ?_
  refine reg_list ?_
  refine ls hF hW rfl ((y_load (v := Value.agg #[.int .i64 p0.1, v1, v2]) 0 hF rfl rfl T25 rfl).q) (fun a w hF hW => ?_)
  obtain ⟨x3, h3, H⟩ := bindE H
  refine ls hF hW rfl (y_call (v := Value.bool x3) hF H9 rfl (fun w hW => topo_Right_c any w (v1) (v2) p0 _ h3 (((rdc_ro h_v1) : Rdc _ _ _ _ _ _) w hW).nx (((rdc_ro h_v2) : Rdc _ _ _ _ _ _) w hW).nx)) (fun a w hF hW => ?_)
  refine ls hF hW rfl ((y_move hF rfl).q) (fun a w hF hW => ?_)
  refine ls hF hW rfl ((y_neb u4_ hF rfl rfl).q) (fun a w hF hW => ?_)
  refine ls_nil ?_
  refine c_then ?_
  refine c_cond hF rfl (fun hb => ?_) (fun hb => ?_)
  ·
   have H := iteT (of_decide_eq_true hb) H
   rw [hb] at hF
   clear hb
   refine c_seq ?_
   refine reg_list ?_
   refine ls hF hW rfl ((y_assign hF rfl).q) (fun a w hF hW => ?_)
   refine ls_nil ?_
   refine c_then ?_
   refine wp_ret ?_
   refine r_then ?_
   have H := Option.some.inj H
   subst H
   refine post1 (.inl rfl) hF hW rfl (rv_tmp hF rfl) ?_
   exact ⟨rfl, hW.done⟩
  ·
   have H := iteF (of_decide_eq_false hb) H
   rw [hb] at hF
   clear hb
   refine wp_skip ?_
   refine c_then ?_
   refine c_seq ?_
   refine c_seq ?_
   refine reg_list ?_
   refine ls hF hW rfl ((y_move hF rfl).q) (fun a w hF hW => ?_)
   refine ls hF hW rfl ((y_not hF rfl).q) (fun a w hF hW => ?_)
   refine ls_nil ?_
   refine c_then ?_
   refine c_cond hF rfl (fun hb => ?_) (fun hb => ?_)
   ·
    have H := iteT hb H
    rw [hb] at hF
    clear hb
    refine c_seq ?_
    refine reg_list ?_
    obtain ⟨x4, h4, H⟩ := bindE H
    refine ls hF hW rfl (y_call (v := Value.bool x4) hF H7 rfl (fun w hW => L17_awake_c any w _ h4)) (fun a w hF hW => ?_)
    refine ls hF hW rfl ((y_assign hF rfl).q) (fun a w hF hW => ?_)
    refine ls_nil ?_
    refine c_then ?_
    refine wp_ret ?_
    refine r_then ?_
    have H := Option.some.inj H
    subst H
    refine post1 (.inl rfl) hF hW rfl (rv_tmp hF rfl) ?_
    exact ⟨rfl, hW.done⟩
   ·
    have H := iteF (by rw [hb]; decide) H
    rw [hb] at hF
    clear hb
    refine wp_skip ?_
    refine c_then ?_
    refine c_seq ?_
    refine reg_list ?_
    refine ls hF hW rfl ((y_load (v := Value.agg #[.int .i64 p0.1, v1, v2]) 0 hF rfl rfl T25 rfl).q) (fun a w hF hW => ?_)
    refine ls hF hW rfl ((y_move hF rfl).q) (fun a w hF hW => ?_)
    refine ls hF hW rfl ((y_move hF rfl).q) (fun a w hF hW => ?_)
    obtain ⟨x5, h5, H⟩ := bindE H
    refine ls hF hW rfl (y_call (v := Value.tuple #[.int .i64 x5.1, .int .i64 x5.2.1, .int .i64 x5.2.2.1, .bool x5.2.2.2]) hF H10 rfl (fun w hW => topo_Peer_c any w (v1) (v2) p0 p1 p2 _ h5 (((rdc_ro h_v1) : Rdc _ _ _ _ _ _) w hW).nx (((rdc_ro h_v2) : Rdc _ _ _ _ _ _) w hW).nx)) (fun a w hF hW => ?_)
    refine ls hF hW rfl ((y_move hF rfl).q) (fun a w hF hW => ?_)
    refine ls hF hW rfl ((y_extract (v := Value.int .i64 x5.1) hF rfl rfl).q) (fun a w hF hW => ?_)
    refine ls hF hW rfl ((y_extract (v := Value.int .i64 x5.2.1) hF rfl rfl).q) (fun a w hF hW => ?_)
    refine ls hF hW rfl ((y_extract (v := Value.int .i64 x5.2.2.1) hF rfl rfl).q) (fun a w hF hW => ?_)
    refine ls hF hW rfl ((y_extract (v := Value.bool x5.2.2.2) hF rfl rfl).q) (fun a w hF hW => ?_)
    refine ls hF hW rfl ((y_assign hF rfl).q) (fun a w hF hW => ?_)
    refine ls hF hW rfl ((y_assign hF rfl).q) (fun a w hF hW => ?_)
    refine ls hF hW rfl ((y_assign hF rfl).q) (fun a w hF hW => ?_)
    refine ls hF hW rfl ((y_assign hF rfl).q) (fun a w hF hW => ?_)
    refine ls_nil ?_
    refine c_then ?_
    refine c_seq ?_
    refine reg_list ?_
    refine ls hF hW rfl ((y_load (v := Value.agg #[.int .i64 p0.1, v1, v2]) 0 hF rfl rfl T25 rfl).q) (fun a w hF hW => ?_)
    refine ls hF hW rfl ((y_move hF rfl).q) (fun a w hF hW => ?_)
    refine ls hF hW rfl ((y_move hF rfl).q) (fun a w hF hW => ?_)
    obtain ⟨x6, h6, H⟩ := bindE H
    refine ls hF hW rfl (y_call (v := Value.tuple #[.int .i64 x6.1, .int .i64 x6.2.1, .int .i64 x6.2.2.1, .bool x6.2.2.2]) hF H11 rfl (fun w hW => r17_Peer_c any w (v1) (v2) p0 p1 p2 _ h6 (((rdc_ro h_v1) : Rdc _ _ _ _ _ _) w hW).nx (((rdc_ro h_v2) : Rdc _ _ _ _ _ _) w hW).nx)) (fun a w hF hW => ?_)
    refine ls hF hW rfl ((y_move hF rfl).q) (fun a w hF hW => ?_)
    refine ls hF hW rfl ((y_extract (v := Value.int .i64 x6.1) hF rfl rfl).q) (fun a w hF hW => ?_)
    refine ls hF hW rfl ((y_extract (v := Value.int .i64 x6.2.1) hF rfl rfl).q) (fun a w hF hW => ?_)
    refine ls hF hW rfl ((y_extract (v := Value.int .i64 x6.2.2.1) hF rfl rfl).q) (fun a w hF hW => ?_)
    refine ls hF hW rfl ((y_extract (v := Value.bool x6.2.2.2) hF rfl rfl).q) (fun a w hF hW => ?_)
    refine ls hF hW rfl ((y_assign hF rfl).q) (fun a w hF hW => ?_)
    refine ls hF hW rfl ((y_assign hF rfl).q) (fun a w hF hW => ?_)
    refine ls hF hW rfl ((y_assign hF rfl).q) (fun a w hF hW => ?_)
    refine ls hF hW rfl ((y_assign hF rfl).q) (fun a w hF hW => ?_)
    refine ls_nil ?_
    refine c_then ?_
    refine c_seq ?_
    obtain ⟨o1, G1, K1⟩ := bindE H
    refine c_seqJ (fun a w => ∃ x7 : Bool, some (x7) = some o1 ∧ Fr 175 [] [(1, .int .i64 p1), (3, .pointer (some ⟨b1, 0, none⟩)), (6, .bool false), (88, .bool x7)] a ∧ Stw ⟨Y, [], w0⟩ [(b1, [.int .i64 p0.1, v1, v2])] [] w) ?_ ?_
    ·
     have H := G1
     clear G1 K1
     refine reg_quiet hW MO (by kernel_rfl) ?_
     refine qs hF rfl ((y_move hF rfl).q) (fun a hF => ?_)
     refine qs hF rfl ((y_move hF rfl).q) (fun a hF => ?_)
     refine qs hF rfl ((y_neq hF rfl rfl).q) (fun a hF => ?_)
     refine qs hF rfl ((y_move hF rfl).q) (fun a hF => ?_)
     rcases Bool.eq_false_or_eq_true (decide (x5.1 ≠ x6.1)) with hb | hb
     ·
      have H := iteT (of_decide_eq_true hb) H
      rw [hb] at hF
      clear hb
      refine qs_skip hF (wanted_n hF rfl rfl rfl rfl rfl) rfl rfl (fun a hF => ?_)
      refine qs_skip hF (wanted_n hF rfl rfl rfl rfl rfl) rfl rfl (fun a hF => ?_)
      refine qs_skip hF (wanted_n hF rfl rfl rfl rfl rfl) rfl rfl (fun a hF => ?_)
      refine qs hF rfl ((y_pick_t hF rfl rfl rfl).q) (fun a hF => ?_)
      refine qs hF rfl ((y_move hF rfl).q) (fun a hF => ?_)
      refine qs_skip hF (wanted_n hF rfl rfl rfl rfl rfl) rfl rfl (fun a hF => ?_)
      refine qs_skip hF (wanted_n hF rfl rfl rfl rfl rfl) rfl rfl (fun a hF => ?_)
      refine qs_skip hF (wanted_n hF rfl rfl rfl rfl rfl) rfl rfl (fun a hF => ?_)
      refine qs hF rfl ((y_pick_t hF rfl rfl rfl).q) (fun a hF => ?_)
      refine qs hF rfl ((y_move hF rfl).q) (fun a hF => ?_)
      refine qs_skip hF (wanted_n hF rfl rfl rfl rfl rfl) rfl rfl (fun a hF => ?_)
      refine qs_skip hF (wanted_n hF rfl rfl rfl rfl rfl) rfl rfl (fun a hF => ?_)
      refine qs_skip hF (wanted_n hF rfl rfl rfl rfl rfl) rfl rfl (fun a hF => ?_)
      refine qs hF rfl ((y_pick_t hF rfl rfl rfl).q) (fun a hF => ?_)
      refine qs hF rfl ((y_move hF rfl).q) (fun a hF => ?_)
      refine qs_skip hF (wanted_n hF rfl rfl rfl rfl rfl) rfl rfl (fun a hF => ?_)
      refine qs_skip hF (wanted_n hF rfl rfl rfl rfl rfl) rfl rfl (fun a hF => ?_)
      refine qs_skip hF (wanted_n hF rfl rfl rfl rfl rfl) rfl rfl (fun a hF => ?_)
      refine qs_skip hF (wanted_n hF rfl rfl rfl rfl rfl) rfl rfl (fun a hF => ?_)
      refine qs_skip hF (wanted_n hF rfl rfl rfl rfl rfl) rfl rfl (fun a hF => ?_)
      refine qs_skip hF (wanted_n hF rfl rfl rfl rfl rfl) rfl rfl (fun a hF => ?_)
      refine qs_skip hF (wanted_n hF rfl rfl rfl rfl rfl) rfl rfl (fun a hF => ?_)
      refine qs_skip hF (wanted_n hF rfl rfl rfl rfl rfl) rfl rfl (fun a hF => ?_)
      refine qs_skip hF (wanted_n hF rfl rfl rfl rfl rfl) rfl rfl (fun a hF => ?_)
      refine qs hF rfl ((y_pick_t hF rfl rfl rfl).q) (fun a hF => ?_)
      refine qs hF rfl ((y_move hF rfl).q) (fun a hF => ?_)
      refine qs_skip hF (wanted_n hF rfl rfl rfl rfl rfl) rfl rfl (fun a hF => ?_)
      refine qs_skip hF (wanted_n hF rfl rfl rfl rfl rfl) rfl rfl (fun a hF => ?_)
      refine qs_skip hF (wanted_n hF rfl rfl rfl rfl rfl) rfl rfl (fun a hF => ?_)
      refine qs_skip hF (wanted_n hF rfl rfl rfl rfl rfl) rfl rfl (fun a hF => ?_)
      refine qs_skip hF (wanted_n hF rfl rfl rfl rfl rfl) rfl rfl (fun a hF => ?_)
      refine qs hF rfl ((y_pick_t hF rfl rfl rfl).q) (fun a hF => ?_)
      refine quiet_end (fun w hW => ?_)
      refine c_then ?_
      exact ⟨_, H, hF.re ⟨rfl, rfl, rfl, rfl, trivial⟩, hW⟩
     ·
      have H := iteF (of_decide_eq_false hb) H
      rw [hb] at hF
      clear hb
      refine qs_w hF (wanted_y hF rfl rfl rfl rfl) rfl (Nat.le_of_ble_eq_true rfl) ((y_move hF rfl).q) (fun a hF => ?_)
      refine qs_w hF (wanted_y hF rfl rfl rfl rfl) rfl (Nat.le_of_ble_eq_true rfl) ((y_move hF rfl).q) (fun a hF => ?_)
      refine qs_w hF (wanted_y hF rfl rfl rfl rfl) rfl (Nat.le_of_ble_eq_true rfl) ((y_neq hF rfl rfl).q) (fun a hF => ?_)
      refine qs hF rfl ((y_pick_f hF rfl rfl rfl).q) (fun a hF => ?_)
      refine qs hF rfl ((y_move hF rfl).q) (fun a hF => ?_)
      rcases Bool.eq_false_or_eq_true (decide (x5.2.1 ≠ x6.2.1)) with hb | hb
      ·
       have H := iteT (of_decide_eq_true hb) H
       rw [hb] at hF
       clear hb
       refine qs_skip hF (wanted_n hF rfl rfl rfl rfl rfl) rfl rfl (fun a hF => ?_)
       refine qs_skip hF (wanted_n hF rfl rfl rfl rfl rfl) rfl rfl (fun a hF => ?_)
       refine qs_skip hF (wanted_n hF rfl rfl rfl rfl rfl) rfl rfl (fun a hF => ?_)
       refine qs hF rfl ((y_pick_t hF rfl rfl rfl).q) (fun a hF => ?_)
       refine qs hF rfl ((y_move hF rfl).q) (fun a hF => ?_)
       refine qs_skip hF (wanted_n hF rfl rfl rfl rfl rfl) rfl rfl (fun a hF => ?_)
       refine qs_skip hF (wanted_n hF rfl rfl rfl rfl rfl) rfl rfl (fun a hF => ?_)
       refine qs_skip hF (wanted_n hF rfl rfl rfl rfl rfl) rfl rfl (fun a hF => ?_)
       refine qs hF rfl ((y_pick_t hF rfl rfl rfl).q) (fun a hF => ?_)
       refine qs hF rfl ((y_move hF rfl).q) (fun a hF => ?_)
       refine qs_skip hF (wanted_n hF rfl rfl rfl rfl rfl) rfl rfl (fun a hF => ?_)
       refine qs_skip hF (wanted_n hF rfl rfl rfl rfl rfl) rfl rfl (fun a hF => ?_)
       refine qs_skip hF (wanted_n hF rfl rfl rfl rfl rfl) rfl rfl (fun a hF => ?_)
       refine qs_skip hF (wanted_n hF rfl rfl rfl rfl rfl) rfl rfl (fun a hF => ?_)
       refine qs_skip hF (wanted_n hF rfl rfl rfl rfl rfl) rfl rfl (fun a hF => ?_)
       refine qs_skip hF (wanted_n hF rfl rfl rfl rfl rfl) rfl rfl (fun a hF => ?_)
       refine qs_skip hF (wanted_n hF rfl rfl rfl rfl rfl) rfl rfl (fun a hF => ?_)
       refine qs_skip hF (wanted_n hF rfl rfl rfl rfl rfl) rfl rfl (fun a hF => ?_)
       refine qs_skip hF (wanted_n hF rfl rfl rfl rfl rfl) rfl rfl (fun a hF => ?_)
       refine qs hF rfl ((y_pick_t hF rfl rfl rfl).q) (fun a hF => ?_)
       refine qs hF rfl ((y_move hF rfl).q) (fun a hF => ?_)
       refine qs_skip hF (wanted_n hF rfl rfl rfl rfl rfl) rfl rfl (fun a hF => ?_)
       refine qs_skip hF (wanted_n hF rfl rfl rfl rfl rfl) rfl rfl (fun a hF => ?_)
       refine qs_skip hF (wanted_n hF rfl rfl rfl rfl rfl) rfl rfl (fun a hF => ?_)
       refine qs_skip hF (wanted_n hF rfl rfl rfl rfl rfl) rfl rfl (fun a hF => ?_)
       refine qs_skip hF (wanted_n hF rfl rfl rfl rfl rfl) rfl rfl (fun a hF => ?_)
       refine qs hF rfl ((y_pick_t hF rfl rfl rfl).q) (fun a hF => ?_)
       refine quiet_end (fun w hW => ?_)
       refine c_then ?_
       exact ⟨_, H, hF.re ⟨rfl, rfl, rfl, rfl, trivial⟩, hW⟩
      ·
       have H := iteF (of_decide_eq_false hb) H
       rw [hb] at hF
       clear hb
       refine qs_w hF (wanted_y hF rfl rfl rfl rfl) rfl (Nat.le_of_ble_eq_true rfl) ((y_move hF rfl).q) (fun a hF => ?_)
       refine qs_w hF (wanted_y hF rfl rfl rfl rfl) rfl (Nat.le_of_ble_eq_true rfl) ((y_move hF rfl).q) (fun a hF => ?_)
       refine qs_w hF (wanted_y hF rfl rfl rfl rfl) rfl (Nat.le_of_ble_eq_true rfl) ((y_neq hF rfl rfl).q) (fun a hF => ?_)
       refine qs hF rfl ((y_pick_f hF rfl rfl rfl).q) (fun a hF => ?_)
       refine qs hF rfl ((y_move hF rfl).q) (fun a hF => ?_)
       rcases Bool.eq_false_or_eq_true (decide (x5.2.2.1 ≠ x6.2.2.1)) with hb | hb
       ·
        have H := iteT (of_decide_eq_true hb) H
        rw [hb] at hF
        clear hb
        refine qs_skip hF (wanted_n hF rfl rfl rfl rfl rfl) rfl rfl (fun a hF => ?_)
        refine qs_skip hF (wanted_n hF rfl rfl rfl rfl rfl) rfl rfl (fun a hF => ?_)
        refine qs_skip hF (wanted_n hF rfl rfl rfl rfl rfl) rfl rfl (fun a hF => ?_)
        refine qs hF rfl ((y_pick_t hF rfl rfl rfl).q) (fun a hF => ?_)
        refine qs hF rfl ((y_move hF rfl).q) (fun a hF => ?_)
        refine qs_skip hF (wanted_n hF rfl rfl rfl rfl rfl) rfl rfl (fun a hF => ?_)
        refine qs_skip hF (wanted_n hF rfl rfl rfl rfl rfl) rfl rfl (fun a hF => ?_)
        refine qs_skip hF (wanted_n hF rfl rfl rfl rfl rfl) rfl rfl (fun a hF => ?_)
        refine qs_skip hF (wanted_n hF rfl rfl rfl rfl rfl) rfl rfl (fun a hF => ?_)
        refine qs_skip hF (wanted_n hF rfl rfl rfl rfl rfl) rfl rfl (fun a hF => ?_)
        refine qs_skip hF (wanted_n hF rfl rfl rfl rfl rfl) rfl rfl (fun a hF => ?_)
        refine qs_skip hF (wanted_n hF rfl rfl rfl rfl rfl) rfl rfl (fun a hF => ?_)
        refine qs_skip hF (wanted_n hF rfl rfl rfl rfl rfl) rfl rfl (fun a hF => ?_)
        refine qs_skip hF (wanted_n hF rfl rfl rfl rfl rfl) rfl rfl (fun a hF => ?_)
        refine qs hF rfl ((y_pick_t hF rfl rfl rfl).q) (fun a hF => ?_)
        refine qs hF rfl ((y_move hF rfl).q) (fun a hF => ?_)
        refine qs_skip hF (wanted_n hF rfl rfl rfl rfl rfl) rfl rfl (fun a hF => ?_)
        refine qs_skip hF (wanted_n hF rfl rfl rfl rfl rfl) rfl rfl (fun a hF => ?_)
        refine qs_skip hF (wanted_n hF rfl rfl rfl rfl rfl) rfl rfl (fun a hF => ?_)
        refine qs_skip hF (wanted_n hF rfl rfl rfl rfl rfl) rfl rfl (fun a hF => ?_)
        refine qs_skip hF (wanted_n hF rfl rfl rfl rfl rfl) rfl rfl (fun a hF => ?_)
        refine qs hF rfl ((y_pick_t hF rfl rfl rfl).q) (fun a hF => ?_)
        refine quiet_end (fun w hW => ?_)
        refine c_then ?_
        exact ⟨_, H, hF.re ⟨rfl, rfl, rfl, rfl, trivial⟩, hW⟩
       ·
        have H := iteF (of_decide_eq_false hb) H
        rw [hb] at hF
        clear hb
        refine qs_w hF (wanted_y hF rfl rfl rfl rfl) rfl (Nat.le_of_ble_eq_true rfl) ((y_move hF rfl).q) (fun a hF => ?_)
        refine qs_w hF (wanted_y hF rfl rfl rfl rfl) rfl (Nat.le_of_ble_eq_true rfl) ((y_move hF rfl).q) (fun a hF => ?_)
        refine qs_w hF (wanted_y hF rfl rfl rfl rfl) rfl (Nat.le_of_ble_eq_true rfl) ((y_neb u4_ hF rfl rfl).q) (fun a hF => ?_)
        refine qs hF rfl ((y_pick_f hF rfl rfl rfl).q) (fun a hF => ?_)
        refine qs hF rfl ((y_move hF rfl).q) (fun a hF => ?_)
        rcases Bool.eq_false_or_eq_true (decide (x5.2.2.2 ≠ x6.2.2.2)) with hb | hb
        ·
         have H := iteT (of_decide_eq_true hb) H
         rw [hb] at hF
         clear hb
         refine qs_skip hF (wanted_n hF rfl rfl rfl rfl rfl) rfl rfl (fun a hF => ?_)
         refine qs_skip hF (wanted_n hF rfl rfl rfl rfl rfl) rfl rfl (fun a hF => ?_)
         refine qs_skip hF (wanted_n hF rfl rfl rfl rfl rfl) rfl rfl (fun a hF => ?_)
         refine qs_skip hF (wanted_n hF rfl rfl rfl rfl rfl) rfl rfl (fun a hF => ?_)
         refine qs_skip hF (wanted_n hF rfl rfl rfl rfl rfl) rfl rfl (fun a hF => ?_)
         refine qs_skip hF (wanted_n hF rfl rfl rfl rfl rfl) rfl rfl (fun a hF => ?_)
         refine qs_skip hF (wanted_n hF rfl rfl rfl rfl rfl) rfl rfl (fun a hF => ?_)
         refine qs_skip hF (wanted_n hF rfl rfl rfl rfl rfl) rfl rfl (fun a hF => ?_)
         refine qs_skip hF (wanted_n hF rfl rfl rfl rfl rfl) rfl rfl (fun a hF => ?_)
         refine qs hF rfl ((y_pick_t hF rfl rfl rfl).q) (fun a hF => ?_)
         refine qs hF rfl ((y_move hF rfl).q) (fun a hF => ?_)
         refine qs_skip hF (wanted_n hF rfl rfl rfl rfl rfl) rfl rfl (fun a hF => ?_)
         refine qs_skip hF (wanted_n hF rfl rfl rfl rfl rfl) rfl rfl (fun a hF => ?_)
         refine qs_skip hF (wanted_n hF rfl rfl rfl rfl rfl) rfl rfl (fun a hF => ?_)
         refine qs_skip hF (wanted_n hF rfl rfl rfl rfl rfl) rfl rfl (fun a hF => ?_)
         refine qs_skip hF (wanted_n hF rfl rfl rfl rfl rfl) rfl rfl (fun a hF => ?_)
         refine qs hF rfl ((y_pick_t hF rfl rfl rfl).q) (fun a hF => ?_)
         refine quiet_end (fun w hW => ?_)
         refine c_then ?_
         exact ⟨_, H, hF.re ⟨rfl, rfl, rfl, rfl, trivial⟩, hW⟩
        ·
         have H := iteF (of_decide_eq_false hb) H
         rw [hb] at hF
         clear hb
         refine qs_w hF (wanted_y hF rfl rfl rfl rfl) rfl (Nat.le_of_ble_eq_true rfl) ((y_load (v := Value.agg #[.int .i64 p0.1, v1, v2]) 0 hF rfl rfl T25 rfl).q) (fun a hF => ?_)
         refine qs_w hF (wanted_y hF rfl rfl rfl rfl) rfl (Nat.le_of_ble_eq_true rfl) ((y_move hF rfl).q) (fun a hF => ?_)
         refine qs_w hF (wanted_y hF rfl rfl rfl rfl) rfl (Nat.le_of_ble_eq_true rfl) ((y_move hF rfl).q) (fun a hF => ?_)
         obtain ⟨x8, h7, H⟩ := bindE H
         refine qs_w hF (wanted_y hF rfl rfl rfl rfl) rfl (Nat.le_of_ble_eq_true rfl) (y_call (v := Value.int .i64 x8) hF H12 rfl (fun w hW => topo_HostAt_c any w (v1) (v2) p0 p1 p2 _ h7 (((rdc_ro h_v1) : Rdc _ _ _ _ _ _) w hW).nx (((rdc_ro h_v2) : Rdc _ _ _ _ _ _) w hW).nx)) (fun a hF => ?_)
         refine qs_w hF (wanted_y hF rfl rfl rfl rfl) rfl (Nat.le_of_ble_eq_true rfl) ((y_load (v := Value.agg #[.int .i64 p0.1, v1, v2]) 0 hF rfl rfl T25 rfl).q) (fun a hF => ?_)
         refine qs_w hF (wanted_y hF rfl rfl rfl rfl) rfl (Nat.le_of_ble_eq_true rfl) ((y_move hF rfl).q) (fun a hF => ?_)
         refine qs_w hF (wanted_y hF rfl rfl rfl rfl) rfl (Nat.le_of_ble_eq_true rfl) ((y_move hF rfl).q) (fun a hF => ?_)
         obtain ⟨x9, h8, H⟩ := bindE H
         refine qs_w hF (wanted_y hF rfl rfl rfl rfl) rfl (Nat.le_of_ble_eq_true rfl) (y_call (v := Value.int .i64 x9) hF H13 rfl (fun w hW => r17_HostAt_c any w (v1) (v2) p0 p1 p2 _ h8 (((rdc_ro h_v1) : Rdc _ _ _ _ _ _) w hW).nx (((rdc_ro h_v2) : Rdc _ _ _ _ _ _) w hW).nx)) (fun a hF => ?_)
         refine qs_w hF (wanted_y hF rfl rfl rfl rfl) rfl (Nat.le_of_ble_eq_true rfl) ((y_neq hF rfl rfl).q) (fun a hF => ?_)
         refine qs hF rfl ((y_pick_f hF rfl rfl rfl).q) (fun a hF => ?_)
         refine qs hF rfl ((y_move hF rfl).q) (fun a hF => ?_)
         rcases Bool.eq_false_or_eq_true (decide (x8 ≠ x9)) with hb | hb
         ·
          have H := iteT (of_decide_eq_true hb) H
          rw [hb] at hF
          clear hb
          refine qs_skip hF (wanted_n hF rfl rfl rfl rfl rfl) rfl rfl (fun a hF => ?_)
          refine qs_skip hF (wanted_n hF rfl rfl rfl rfl rfl) rfl rfl (fun a hF => ?_)
          refine qs_skip hF (wanted_n hF rfl rfl rfl rfl rfl) rfl rfl (fun a hF => ?_)
          refine qs_skip hF (wanted_n hF rfl rfl rfl rfl rfl) rfl rfl (fun a hF => ?_)
          refine qs_skip hF (wanted_n hF rfl rfl rfl rfl rfl) rfl rfl (fun a hF => ?_)
          refine qs hF rfl ((y_pick_t hF rfl rfl rfl).q) (fun a hF => ?_)
          refine quiet_end (fun w hW => ?_)
          refine c_then ?_
          exact ⟨_, H, hF.re ⟨rfl, rfl, rfl, rfl, trivial⟩, hW⟩
         ·
          have H := iteF (of_decide_eq_false hb) H
          rw [hb] at hF
          clear hb
          refine qs_w hF (wanted_y hF rfl rfl rfl rfl) rfl (Nat.le_of_ble_eq_true rfl) ((y_load (v := Value.agg #[.int .i64 p0.1, v1, v2]) 0 hF rfl rfl T25 rfl).q) (fun a hF => ?_)
          obtain ⟨x10, h9, H⟩ := bindE H
          refine qs_w hF (wanted_y hF rfl rfl rfl rfl) rfl (Nat.le_of_ble_eq_true rfl) (y_call (v := Value.int .i64 x10) hF H14 rfl (fun w hW => topo_Slowest_c any w (v1) (v2) p0 _ h9 (((rdc_ro h_v1) : Rdc _ _ _ _ _ _) w hW).nx (((rdc_ro h_v2) : Rdc _ _ _ _ _ _) w hW).nx)) (fun a hF => ?_)
          refine qs_w hF (wanted_y hF rfl rfl rfl rfl) rfl (Nat.le_of_ble_eq_true rfl) ((y_load (v := Value.agg #[.int .i64 p0.1, v1, v2]) 0 hF rfl rfl T25 rfl).q) (fun a hF => ?_)
          obtain ⟨x11, h10, H⟩ := bindE H
          refine qs_w hF (wanted_y hF rfl rfl rfl rfl) rfl (Nat.le_of_ble_eq_true rfl) (y_call (v := Value.int .i64 x11) hF H15 rfl (fun w hW => r17_Slowest_c any w (v1) (v2) p0 _ h10 (((rdc_ro h_v1) : Rdc _ _ _ _ _ _) w hW).nx (((rdc_ro h_v2) : Rdc _ _ _ _ _ _) w hW).nx)) (fun a hF => ?_)
          refine qs_w hF (wanted_y hF rfl rfl rfl rfl) rfl (Nat.le_of_ble_eq_true rfl) ((y_neq hF rfl rfl).q) (fun a hF => ?_)
          refine qs hF rfl ((y_pick_f hF rfl rfl rfl).q) (fun a hF => ?_)
          refine quiet_end (fun w hW => ?_)
          refine c_then ?_
          exact ⟨_, H, hF.re ⟨rfl, rfl, rfl, rfl, trivial⟩, hW⟩
    rintro a w ⟨x7, hj, hF, hW⟩
    have hj := Option.some.inj hj
    subst hj
    have H := K1
    clear G1 K1
    refine c_cond hF rfl (fun hb => ?_) (fun hb => ?_)
    ·
     have H := iteT hb H
     rw [hb] at hF
     clear hb
     refine c_seq ?_
     refine reg_list ?_
     refine ls hF hW rfl ((y_assign hF rfl).q) (fun a w hF hW => ?_)
     refine ls_nil ?_
     refine c_then ?_
     refine wp_ret ?_
     refine r_then ?_
     have H := Option.some.inj H
     subst H
     refine post1 (.inl rfl) hF hW rfl (rv_tmp hF rfl) ?_
     exact ⟨rfl, hW.done⟩
    ·
     have H := iteF (by rw [hb]; decide) H
     rw [hb] at hF
     clear hb
     refine wp_skip ?_
     refine c_then ?_
     refine c_seq ?_
     refine reg_plan [(true, 0), (true, 1), (true, 3), (true, 4), (false, 2), (false, 5), (false, 6), (false, 7)] (CN ⟨Y, [], w0⟩ [(some 2, b1, [.int .i64 p0.1, v1, v2]), (some 5, b1, [.int .i64 p0.1, v1, v2])] []) (fun ch a d v w h => by cases d <;> exact h) MO (by kernel_rfl) hW (fun w hW => ⟨_, _, hW, (all_cons (fun _ => (.head _)) (all_cons (fun _ => (.head _)) all_nil)), all_nil⟩) (fun w hW => ?_)
     refine pl_t (R := [2]) hF rfl rfl (yC fun M Z hN hZ => y_load_m (cs := [.int .i64 p0.1, v1, v2]) (v := Value.agg #[.int .i64 p0.1, v1, v2]) hF rfl (hN ((some 2), b1, [.int .i64 p0.1, v1, v2]) (.head _) rfl) T25 rfl) (by kernel_rfl) rfl (fun a hF => ?_)
     refine pl_t (R := []) hF rfl rfl (yC fun M Z hN hZ => y_move hF rfl) rfl rfl (fun a hF => ?_)
     refine pl_t (R := [5]) hF rfl rfl (yC fun M Z hN hZ => y_load_m (cs := [.int .i64 p0.1, v1, v2]) (v := Value.agg #[.int .i64 p0.1, v1, v2]) hF rfl (hN ((some 5), b1, [.int .i64 p0.1, v1, v2]) (.tail _ (.head _)) rfl) T25 rfl) (by kernel_rfl) rfl (fun a hF => ?_)
     refine pl_t (R := []) hF rfl rfl (yC fun M Z hN hZ => y_move hF rfl) rfl rfl (fun a hF => ?_)
     refine pl_f rfl ?_
     obtain ⟨x12, h11, H⟩ := bindE H
     refine l_callG (Ml := []) (Zl := []) (M := [(b1, [.int .i64 p0.1, v1, v2])]) (Z := []) (β := Value) (rv := fun x => x) (MM := fun x => []) (ZZ := fun x => [row x 37 R37 x12]) hF hW H16 rfl rfl (fun hL => topo_Near_c _ w (v1) (v2) p0 p1 _ h11 ((rdc_ro h_v1) w hW).nx ((rdc_ro h_v2) w hW).nx) (fun x a w hF hW => ?_)
     obtain ⟨v3, rfl⟩ : ∃ y, y = x := ⟨x, rfl⟩
     have hW : Stw ⟨Y, [], w0⟩ [(b1, [.int .i64 p0.1, v1, v2])] [row v3 37 R37 x12] w := hW
     refine pl_next (N2 := []) (NZ2 := []) (N3 := [(some 2, b1, [.int .i64 p0.1, v1, v2]), (some 5, b1, [.int .i64 p0.1, v1, v2])]) (NZ3 := []) hW rfl rfl (all_cons (fun h => rel_dead (by kernel_rfl) h) (all_cons (fun _ => (.head _)) all_nil)) all_nil ?_
     refine pl_f rfl ?_
     obtain ⟨x13, h12, H⟩ := bindE H
     refine l_callG (Ml := []) (Zl := []) (M := [(b1, [.int .i64 p0.1, v1, v2])]) (Z := [row v3 37 R37 x12]) (β := Value) (rv := fun x => x) (MM := fun x => []) (ZZ := fun x => [row x 38 R38 x13]) hF hW H17 rfl rfl (fun hL => r17_Near_c _ w (v1) (v2) p0 p1 _ h12 ((rdc_ro h_v1) w hW).nx ((rdc_ro h_v2) w hW).nx) (fun x a w hF hW => ?_)
     obtain ⟨v4, rfl⟩ : ∃ y, y = x := ⟨x, rfl⟩
     have hW : Stw ⟨Y, [], w0⟩ [(b1, [.int .i64 p0.1, v1, v2])] [row v4 38 R38 x13, row v3 37 R37 x12] w := hW
     refine pl_next (N2 := []) (NZ2 := []) (N3 := [(some 2, b1, [.int .i64 p0.1, v1, v2]), (some 5, b1, [.int .i64 p0.1, v1, v2])]) (NZ3 := []) hW rfl rfl (all_cons (fun h => rel_dead (by kernel_rfl) h) (all_cons (fun h => rel_dead (by kernel_rfl) h) all_nil)) all_nil ?_
     refine pl_f rfl ?_
     refine ls hF hW rfl ((y_assign hF rfl).q) (fun a w hF hW => ?_)
     refine pl_next (N2 := []) (NZ2 := []) (N3 := [(some 2, b1, [.int .i64 p0.1, v1, v2]), (some 5, b1, [.int .i64 p0.1, v1, v2])]) (NZ3 := []) hW rfl rfl (all_cons (fun h => rel_dead (by kernel_rfl) h) (all_cons (fun h => rel_dead (by kernel_rfl) h) all_nil)) all_nil ?_
     refine pl_f rfl ?_
     refine ls hF hW rfl ((y_assign hF rfl).q) (fun a w hF hW => ?_)
     refine pl_next (N2 := []) (NZ2 := []) (N3 := [(some 2, b1, [.int .i64 p0.1, v1, v2]), (some 5, b1, [.int .i64 p0.1, v1, v2])]) (NZ3 := []) hW rfl rfl (all_cons (fun h => rel_dead (by kernel_rfl) h) (all_cons (fun h => rel_dead (by kernel_rfl) h) all_nil)) all_nil ?_
     refine pl_end ?_
     refine c_then ?_
     refine c_seq ?_
     refine c_seq ?_
     refine reg_list ?_
     refine ls hF hW rfl ((y_move hF rfl).q) (fun a w hF hW => ?_)
     refine ls hF hW rfl ((y_len (r := R37) (l := x12) u32_ rfl hF rfl (rdc_row 1 rfl)).q) (fun a w hF hW => ?_)
     refine ls hF hW rfl ((y_move hF rfl).q) (fun a w hF hW => ?_)
     refine ls hF hW rfl ((y_len (r := R38) (l := x13) u34_ rfl hF rfl (rdc_row 0 rfl)).q) (fun a w hF hW => ?_)
     refine ls hF hW rfl ((y_neq hF rfl rfl).q) (fun a w hF hW => ?_)
     refine ls_nil ?_
     refine c_then ?_
     refine c_cond hF rfl (fun hb => ?_) (fun hb => ?_)
     ·
      have H := iteT (of_decide_eq_true hb) H
      rw [hb] at hF
      clear hb
      refine c_seq ?_
      refine reg_list ?_
      refine ls hF hW rfl ((y_assign hF rfl).q) (fun a w hF hW => ?_)
      refine ls_nil ?_
      refine c_then ?_
      refine wp_ret ?_
      refine r_then ?_
      have H := Option.some.inj H
      subst H
      refine post1 (.inl rfl) hF hW rfl (rv_tmp hF rfl) ?_
      exact ⟨rfl, hW.done⟩
     ·
      have H := iteF (of_decide_eq_false hb) H
      rw [hb] at hF
      clear hb
      refine wp_skip ?_
      refine c_then ?_
      obtain ⟨o2, G2, K2, L2⟩ := orE H
      refine c_seqJ (fun a w => some (Sum.inl ()) = some o2 ∧ Fr 175 [] [(1, .int .i64 p1), (3, .pointer (some ⟨b1, 0, none⟩)), (6, .bool false)] a ∧ Stw ⟨Y, [], w0⟩ [(b1, [.int .i64 p0.1, v1, v2])] [] w) ?_ ?_
      ·
       have H := G2
       clear G2 K2
       refine c_seq ?_
       refine reg_list ?_
       refine ls hF hW rfl ((y_assign hF rfl).q) (fun a w hF hW => ?_)
       refine ls_nil ?_
       refine c_then ?_
       refine wp_block ?_
       have hW := hW.frontZ (i := 1) rfl rfl
       refine c_loopW H (fun s a w => Fr 175 [] [(1, .int .i64 p1), (3, .pointer (some ⟨b1, 0, none⟩)), (6, .bool false), (16, v3), (17, v4), (18, .int .i64 s)] a ∧ Stw ⟨Y, [], w0⟩ [(b1, [.int .i64 p0.1, v1, v2])] [row v3 37 R37 x12, row v4 38 R38 x13] w) ⟨hF.re ⟨rfl, rfl, rfl, rfl, rfl, rfl, trivial⟩, hW⟩ (fun s o a w H L3 hR => ?_)
       obtain ⟨x14, rfl⟩ : ∃ x, x = s := ⟨s, rfl⟩
       obtain ⟨hF, hW⟩ := hR
       have hF : Fr 175 [] [(1, .int .i64 p1), (3, .pointer (some ⟨b1, 0, none⟩)), (6, .bool false), (16, v3), (17, v4), (18, .int .i64 x14)] a := hF
       have hW : Stw ⟨Y, [], w0⟩ [(b1, [.int .i64 p0.1, v1, v2])] [row v3 37 R37 x12, row v4 38 R38 x13] w := hW
       rw [L17_TopoTells_l1] at H
       refine c_seq ?_
       refine c_seq ?_
       refine reg_list ?_
       refine ls hF hW rfl ((y_move hF rfl).q) (fun a w hF hW => ?_)
       refine ls hF hW rfl ((y_move hF rfl).q) (fun a w hF hW => ?_)
       refine ls hF hW rfl ((y_len (r := R38) (l := x13) u34_ rfl hF rfl (rdc_row 1 rfl)).q) (fun a w hF hW => ?_)
       refine ls hF hW rfl ((y_lss hF rfl rfl).q) (fun a w hF hW => ?_)
       refine ls_nil ?_
       refine c_then ?_
       refine c_cond hF rfl (fun hb => ?_) (fun hb => ?_)
       ·
        have H := iteT (of_decide_eq_true hb) H
        rw [hb] at hF
        clear hb
        refine wp_skip ?_
        refine c_then ?_
        refine c_seq ?_
        refine wp_block ?_
        obtain ⟨o4, G4, K4⟩ := bindE H
        refine c_seqJ (fun a w => ∃ x15 : Bool, some (x15) = some o4 ∧ Fr 175 [] [(1, .int .i64 p1), (3, .pointer (some ⟨b1, 0, none⟩)), (6, .bool false), (16, v3), (17, v4), (18, .int .i64 x14), (142, .bool x15)] a ∧ Stw ⟨Y, [], w0⟩ [(b1, [.int .i64 p0.1, v1, v2])] [row v3 37 R37 x12, row v4 38 R38 x13] w) ?_ ?_
        ·
         have H := G4
         clear G4 K4
         refine reg_quiet hW MO (by kernel_rfl) ?_
         refine qs hF rfl ((y_move hF rfl).q) (fun a hF => ?_)
         refine qs hF rfl ((y_move hF rfl).q) (fun a hF => ?_)
         obtain ⟨x16, h13, H⟩ := bindE H
         refine qs hF rfl ((y_index (r := R37) L32 hF rfl rfl (rdc_row 0 rfl) h13).q) (fun a hF => ?_)
         refine qs hF rfl ((y_fieldAddr u37_ rfl rfl rfl T3 hF rfl (voff v3 + (x14).toNat * 3) rfl).q) (fun a hF => ?_)
         refine qs hF rfl ((y_load_el (y := Value.int .i64 x16.1) (j := 0) (i := x14) hF rfl rfl (rdc_row 0 rfl) h13 F37.to T3 rfl).q) (fun a hF => ?_)
         refine qs hF rfl ((y_move hF rfl).q) (fun a hF => ?_)
         refine qs hF rfl ((y_move hF rfl).q) (fun a hF => ?_)
         obtain ⟨x17, h14, H⟩ := bindE H
         refine qs hF rfl ((y_index (r := R38) L34 hF rfl rfl (rdc_row 1 rfl) h14).q) (fun a hF => ?_)
         refine qs hF rfl ((y_fieldAddr u38_ rfl rfl rfl T3 hF rfl (voff v4 + (x14).toNat * 3) rfl).q) (fun a hF => ?_)
         refine qs hF rfl ((y_load_el (y := Value.int .i64 x17.1) (j := 0) (i := x14) hF rfl rfl (rdc_row 1 rfl) h14 F38.to T3 rfl).q) (fun a hF => ?_)
         refine qs hF rfl ((y_neq hF rfl rfl).q) (fun a hF => ?_)
         refine qs hF rfl ((y_move hF rfl).q) (fun a hF => ?_)
         rcases Bool.eq_false_or_eq_true (decide (x16.1 ≠ x17.1)) with hb | hb
         ·
          have H := iteT (of_decide_eq_true hb) H
          rw [hb] at hF
          clear hb
          refine qs_skip hF (wanted_n hF rfl rfl rfl rfl rfl) rfl rfl (fun a hF => ?_)
          refine qs_skip hF (wanted_n hF rfl rfl rfl rfl rfl) rfl rfl (fun a hF => ?_)
          refine qs_skip hF (wanted_n hF rfl rfl rfl rfl rfl) rfl rfl (fun a hF => ?_)
          refine qs_skip hF (wanted_n hF rfl rfl rfl rfl rfl) rfl rfl (fun a hF => ?_)
          refine qs_skip hF (wanted_n hF rfl rfl rfl rfl rfl) rfl rfl (fun a hF => ?_)
          refine qs_skip hF (wanted_n hF rfl rfl rfl rfl rfl) rfl rfl (fun a hF => ?_)
          refine qs_skip hF (wanted_n hF rfl rfl rfl rfl rfl) rfl rfl (fun a hF => ?_)
          refine qs_skip hF (wanted_n hF rfl rfl rfl rfl rfl) rfl rfl (fun a hF => ?_)
          refine qs_skip hF (wanted_n hF rfl rfl rfl rfl rfl) rfl rfl (fun a hF => ?_)
          refine qs_skip hF (wanted_n hF rfl rfl rfl rfl rfl) rfl rfl (fun a hF => ?_)
          refine qs_skip hF (wanted_n hF rfl rfl rfl rfl rfl) rfl rfl (fun a hF => ?_)
          refine qs hF rfl ((y_pick_t hF rfl rfl rfl).q) (fun a hF => ?_)
          refine qs hF rfl ((y_move hF rfl).q) (fun a hF => ?_)
          refine qs_skip hF (wanted_n hF rfl rfl rfl rfl rfl) rfl rfl (fun a hF => ?_)
          refine qs_skip hF (wanted_n hF rfl rfl rfl rfl rfl) rfl rfl (fun a hF => ?_)
          refine qs_skip hF (wanted_n hF rfl rfl rfl rfl rfl) rfl rfl (fun a hF => ?_)
          refine qs_skip hF (wanted_n hF rfl rfl rfl rfl rfl) rfl rfl (fun a hF => ?_)
          refine qs_skip hF (wanted_n hF rfl rfl rfl rfl rfl) rfl rfl (fun a hF => ?_)
          refine qs_skip hF (wanted_n hF rfl rfl rfl rfl rfl) rfl rfl (fun a hF => ?_)
          refine qs_skip hF (wanted_n hF rfl rfl rfl rfl rfl) rfl rfl (fun a hF => ?_)
          refine qs_skip hF (wanted_n hF rfl rfl rfl rfl rfl) rfl rfl (fun a hF => ?_)
          refine qs_skip hF (wanted_n hF rfl rfl rfl rfl rfl) rfl rfl (fun a hF => ?_)
          refine qs_skip hF (wanted_n hF rfl rfl rfl rfl rfl) rfl rfl (fun a hF => ?_)
          refine qs_skip hF (wanted_n hF rfl rfl rfl rfl rfl) rfl rfl (fun a hF => ?_)
          refine qs hF rfl ((y_pick_t hF rfl rfl rfl).q) (fun a hF => ?_)
          refine quiet_end (fun w hW => ?_)
          refine c_then ?_
          have hW := hW.frontZ (i := 1) rfl rfl
          have hW := hW.frontZ (i := 1) rfl rfl
          exact ⟨_, H, hF.re ⟨rfl, rfl, rfl, rfl, rfl, rfl, rfl, trivial⟩, hW⟩
         ·
          have H := iteF (of_decide_eq_false hb) H
          rw [hb] at hF
          clear hb
          refine qs_w hF (wanted_y hF rfl rfl rfl rfl) rfl (Nat.le_of_ble_eq_true rfl) ((y_move hF rfl).q) (fun a hF => ?_)
          refine qs_w hF (wanted_y hF rfl rfl rfl rfl) rfl (Nat.le_of_ble_eq_true rfl) ((y_move hF rfl).q) (fun a hF => ?_)
          obtain ⟨x18, h15, H⟩ := bindE H
          refine qs_w hF (wanted_y hF rfl rfl rfl rfl) rfl (Nat.le_of_ble_eq_true rfl) ((y_index (r := R37) L32 hF rfl rfl (rdc_row 0 rfl) h15).q) (fun a hF => ?_)
          refine qs_w hF (wanted_y hF rfl rfl rfl rfl) rfl (Nat.le_of_ble_eq_true rfl) ((y_fieldAddr u37_ rfl rfl rfl T3 hF rfl (voff v3 + (x14).toNat * 3 + 1) rfl).q) (fun a hF => ?_)
          refine qs_w hF (wanted_y hF rfl rfl rfl rfl) rfl (Nat.le_of_ble_eq_true rfl) ((y_load_el (y := Value.int .i64 x18.2.1) (j := 1) (i := x14) hF rfl rfl (rdc_row 0 rfl) h15 F37.to T3 rfl).q) (fun a hF => ?_)
          refine qs_w hF (wanted_y hF rfl rfl rfl rfl) rfl (Nat.le_of_ble_eq_true rfl) ((y_move hF rfl).q) (fun a hF => ?_)
          refine qs_w hF (wanted_y hF rfl rfl rfl rfl) rfl (Nat.le_of_ble_eq_true rfl) ((y_move hF rfl).q) (fun a hF => ?_)
          obtain ⟨x19, h16, H⟩ := bindE H
          refine qs_w hF (wanted_y hF rfl rfl rfl rfl) rfl (Nat.le_of_ble_eq_true rfl) ((y_index (r := R38) L34 hF rfl rfl (rdc_row 1 rfl) h16).q) (fun a hF => ?_)
          refine qs_w hF (wanted_y hF rfl rfl rfl rfl) rfl (Nat.le_of_ble_eq_true rfl) ((y_fieldAddr u38_ rfl rfl rfl T3 hF rfl (voff v4 + (x14).toNat * 3 + 1) rfl).q) (fun a hF => ?_)
          refine qs_w hF (wanted_y hF rfl rfl rfl rfl) rfl (Nat.le_of_ble_eq_true rfl) ((y_load_el (y := Value.int .i64 x19.2.1) (j := 1) (i := x14) hF rfl rfl (rdc_row 1 rfl) h16 F38.to T3 rfl).q) (fun a hF => ?_)
          refine qs_w hF (wanted_y hF rfl rfl rfl rfl) rfl (Nat.le_of_ble_eq_true rfl) ((y_neq hF rfl rfl).q) (fun a hF => ?_)
          refine qs hF rfl ((y_pick_f hF rfl rfl rfl).q) (fun a hF => ?_)
          refine qs hF rfl ((y_move hF rfl).q) (fun a hF => ?_)
          rcases Bool.eq_false_or_eq_true (decide (x18.2.1 ≠ x19.2.1)) with hb | hb
          ·
           have H := iteT (of_decide_eq_true hb) H
           rw [hb] at hF
           clear hb
           refine qs_skip hF (wanted_n hF rfl rfl rfl rfl rfl) rfl rfl (fun a hF => ?_)
           refine qs_skip hF (wanted_n hF rfl rfl rfl rfl rfl) rfl rfl (fun a hF => ?_)
           refine qs_skip hF (wanted_n hF rfl rfl rfl rfl rfl) rfl rfl (fun a hF => ?_)
           refine qs_skip hF (wanted_n hF rfl rfl rfl rfl rfl) rfl rfl (fun a hF => ?_)
           refine qs_skip hF (wanted_n hF rfl rfl rfl rfl rfl) rfl rfl (fun a hF => ?_)
           refine qs_skip hF (wanted_n hF rfl rfl rfl rfl rfl) rfl rfl (fun a hF => ?_)
           refine qs_skip hF (wanted_n hF rfl rfl rfl rfl rfl) rfl rfl (fun a hF => ?_)
           refine qs_skip hF (wanted_n hF rfl rfl rfl rfl rfl) rfl rfl (fun a hF => ?_)
           refine qs_skip hF (wanted_n hF rfl rfl rfl rfl rfl) rfl rfl (fun a hF => ?_)
           refine qs_skip hF (wanted_n hF rfl rfl rfl rfl rfl) rfl rfl (fun a hF => ?_)
           refine qs_skip hF (wanted_n hF rfl rfl rfl rfl rfl) rfl rfl (fun a hF => ?_)
           refine qs hF rfl ((y_pick_t hF rfl rfl rfl).q) (fun a hF => ?_)
           refine quiet_end (fun w hW => ?_)
           refine c_then ?_
           have hW := hW.frontZ (i := 1) rfl rfl
           have hW := hW.frontZ (i := 1) rfl rfl
           exact ⟨_, H, hF.re ⟨rfl, rfl, rfl, rfl, rfl, rfl, rfl, trivial⟩, hW⟩
          ·
           have H := iteF (of_decide_eq_false hb) H
           rw [hb] at hF
           clear hb
           refine qs_w hF (wanted_y hF rfl rfl rfl rfl) rfl (Nat.le_of_ble_eq_true rfl) ((y_move hF rfl).q) (fun a hF => ?_)
           refine qs_w hF (wanted_y hF rfl rfl rfl rfl) rfl (Nat.le_of_ble_eq_true rfl) ((y_move hF rfl).q) (fun a hF => ?_)
           obtain ⟨x20, h17, H⟩ := bindE H
           refine qs_w hF (wanted_y hF rfl rfl rfl rfl) rfl (Nat.le_of_ble_eq_true rfl) ((y_index (r := R37) L32 hF rfl rfl (rdc_row 0 rfl) h17).q) (fun a hF => ?_)
           refine qs_w hF (wanted_y hF rfl rfl rfl rfl) rfl (Nat.le_of_ble_eq_true rfl) ((y_fieldAddr u37_ rfl rfl rfl T3 hF rfl (voff v3 + (x14).toNat * 3 + 2) rfl).q) (fun a hF => ?_)
           refine qs_w hF (wanted_y hF rfl rfl rfl rfl) rfl (Nat.le_of_ble_eq_true rfl) ((y_load_el (y := Value.int .i64 x20.2.2) (j := 2) (i := x14) hF rfl rfl (rdc_row 0 rfl) h17 F37.to T3 rfl).q) (fun a hF => ?_)
           refine qs_w hF (wanted_y hF rfl rfl rfl rfl) rfl (Nat.le_of_ble_eq_true rfl) ((y_move hF rfl).q) (fun a hF => ?_)
           refine qs_w hF (wanted_y hF rfl rfl rfl rfl) rfl (Nat.le_of_ble_eq_true rfl) ((y_move hF rfl).q) (fun a hF => ?_)
           obtain ⟨x21, h18, H⟩ := bindE H
           refine qs_w hF (wanted_y hF rfl rfl rfl rfl) rfl (Nat.le_of_ble_eq_true rfl) ((y_index (r := R38) L34 hF rfl rfl (rdc_row 1 rfl) h18).q) (fun a hF => ?_)
           refine qs_w hF (wanted_y hF rfl rfl rfl rfl) rfl (Nat.le_of_ble_eq_true rfl) ((y_fieldAddr u38_ rfl rfl rfl T3 hF rfl (voff v4 + (x14).toNat * 3 + 2) rfl).q) (fun a hF => ?_)
           refine qs_w hF (wanted_y hF rfl rfl rfl rfl) rfl (Nat.le_of_ble_eq_true rfl) ((y_load_el (y := Value.int .i64 x21.2.2) (j := 2) (i := x14) hF rfl rfl (rdc_row 1 rfl) h18 F38.to T3 rfl).q) (fun a hF => ?_)
           refine qs_w hF (wanted_y hF rfl rfl rfl rfl) rfl (Nat.le_of_ble_eq_true rfl) ((y_neq hF rfl rfl).q) (fun a hF => ?_)
           refine qs hF rfl ((y_pick_f hF rfl rfl rfl).q) (fun a hF => ?_)
           refine quiet_end (fun w hW => ?_)
           refine c_then ?_
           have hW := hW.frontZ (i := 1) rfl rfl
           have hW := hW.frontZ (i := 1) rfl rfl
           exact ⟨_, H, hF.re ⟨rfl, rfl, rfl, rfl, rfl, rfl, rfl, trivial⟩, hW⟩
        rintro a w ⟨x15, hj, hF, hW⟩
        have hj := Option.some.inj hj
        subst hj
        have H := K4
        clear G4 K4
        refine c_cond hF rfl (fun hb => ?_) (fun hb => ?_)
        ·
         have H := iteT hb H
         rw [hb] at hF
         clear hb
         refine c_seq ?_
         refine reg_list ?_
         refine ls hF hW rfl ((y_assign hF rfl).q) (fun a w hF hW => ?_)
         refine ls_nil ?_
         refine c_then ?_
         refine wp_ret ?_
         refine r_block ?_
         refine r_then ?_
         refine r_then ?_
         refine r_block ?_
         refine r_then ?_
         have H := L3 _ H
         have H := L2 _ H
         have H := Option.some.inj H
         subst H
         refine post1 (.inl rfl) hF hW rfl (rv_tmp hF rfl) ?_
         exact ⟨rfl, hW.done⟩
        ·
         have H := iteF (by rw [hb]; decide) H
         rw [hb] at hF
         clear hb
         refine wp_skip ?_
         refine b_normal ?_
         refine c_then ?_
         refine reg_list ?_
         refine ls hF hW rfl ((y_move hF rfl).q) (fun a w hF hW => ?_)
         refine ls hF hW rfl ((y_add hF rfl rfl rfl).q) (fun a w hF hW => ?_)
         refine ls hF hW rfl ((y_assign hF rfl).q) (fun a w hF hW => ?_)
         refine ls_nil ?_
         refine c_then ?_
         have hW := hW.frontZ (i := 1) rfl rfl
         have hW := hW.frontZ (i := 1) rfl rfl
         exact ⟨_, H, hF.re ⟨rfl, rfl, rfl, rfl, rfl, rfl, trivial⟩, hW⟩
       ·
        have H := iteF (of_decide_eq_false hb) H
        rw [hb] at hF
        clear hb
        refine wp_exit ?_
        refine e_then ?_
        refine e_then ?_
        refine e_block ?_
        refine c_then ?_
        have hW := hW.sub (M' := [(b1, [.int .i64 p0.1, v1, v2])]) (Z' := []) (List.Sublist.refl _) (List.nil_sublist _)
        have H := L3 _ H
        exact ⟨H, hF.re ⟨rfl, rfl, rfl, trivial⟩, hW⟩
      rintro a w ⟨hj, hF, hW⟩
      have H := K2 _ hj
      clear hj G2 K2 L2
      refine c_seq ?_
      refine reg_list ?_
      refine ls hF hW rfl ((y_assign hF rfl).q) (fun a w hF hW => ?_)
      refine ls_nil ?_
      refine c_then ?_
      refine c_seq ?_
      refine reg_list ?_
      refine ls hF hW rfl ((y_load (v := Value.agg #[.int .i64 p0.1, v1, v2]) 0 hF rfl rfl T25 rfl).q) (fun a w hF hW => ?_)
      obtain ⟨x22, h19, H⟩ := bindE H
      refine l_callG (Ml := []) (Zl := []) (M := [(b1, [.int .i64 p0.1, v1, v2])]) (Z := []) (β := Value) (rv := fun x => x) (MM := fun x => []) (ZZ := fun x => [row x 3 (Rp.int .i64) x22]) hF hW H18 rfl rfl (fun hL => r17_Hops_c _ w (v1) (v2) p0 0 _ h19 ((rdc_ro h_v1) w hW).nx ((rdc_ro h_v2) w hW).nx) (fun x a w hF hW => ?_)
      obtain ⟨v5, rfl⟩ : ∃ y, y = x := ⟨x, rfl⟩
      have hW : Stw ⟨Y, [], w0⟩ [(b1, [.int .i64 p0.1, v1, v2])] [row v5 3 (Rp.int .i64) x22] w := hW
      refine ls hF hW rfl ((y_assign hF rfl).q) (fun a w hF hW => ?_)
      refine ls_nil ?_
      refine c_then ?_
      obtain ⟨o5, G5, K5⟩ := bindE H
      refine c_seqJ (fun a w => ∃ x23 : Bool, some (x23) = some o5 ∧ Fr 175 [] [(1, .int .i64 p1), (3, .pointer (some ⟨b1, 0, none⟩)), (6, .bool false), (19, .bool x23)] a ∧ Stw ⟨Y, [], w0⟩ [(b1, [.int .i64 p0.1, v1, v2])] [] w) ?_ ?_
      ·
       have H := G5
       clear G5 K5
       refine c_seq ?_
       refine reg_list ?_
       refine ls hF hW rfl ((y_assign hF rfl).q) (fun a w hF hW => ?_)
       refine ls_nil ?_
       refine c_then ?_
       refine wp_block ?_
       refine c_loopW H (fun s a w => Fr 175 [] [(1, .int .i64 p1), (3, .pointer (some ⟨b1, 0, none⟩)), (6, .bool false), (19, .bool s.1), (20, v5), (21, .int .i64 s.2)] a ∧ Stw ⟨Y, [], w0⟩ [(b1, [.int .i64 p0.1, v1, v2])] [row v5 3 (Rp.int .i64) x22] w) ⟨hF.re ⟨rfl, rfl, rfl, rfl, rfl, rfl, trivial⟩, hW⟩ (fun s o a w H L6 hR => ?_)
       obtain ⟨x24, x25⟩ := s
       obtain ⟨hF, hW⟩ := hR
       have hF : Fr 175 [] [(1, .int .i64 p1), (3, .pointer (some ⟨b1, 0, none⟩)), (6, .bool false), (19, .bool x24), (20, v5), (21, .int .i64 x25)] a := hF
       have hW : Stw ⟨Y, [], w0⟩ [(b1, [.int .i64 p0.1, v1, v2])] [row v5 3 (Rp.int .i64) x22] w := hW
       rw [L17_TopoTells_l2] at H
       refine c_seq ?_
       refine c_seq ?_
       refine reg_list ?_
       refine ls hF hW rfl ((y_move hF rfl).q) (fun a w hF hW => ?_)
       refine ls hF hW rfl ((y_move hF rfl).q) (fun a w hF hW => ?_)
       refine ls hF hW rfl ((y_len (r := (Rp.int .i64)) (l := x22) u39_ rfl hF rfl (rdc_row 0 rfl)).q) (fun a w hF hW => ?_)
       refine ls hF hW rfl ((y_lss hF rfl rfl).q) (fun a w hF hW => ?_)
       refine ls_nil ?_
       refine c_then ?_
       refine c_cond hF rfl (fun hb => ?_) (fun hb => ?_)
       ·
        have H := iteT (of_decide_eq_true hb) H
        rw [hb] at hF
        clear hb
        refine wp_skip ?_
        refine c_then ?_
        refine c_seq ?_
        refine wp_block ?_
        refine reg_list ?_
        refine ls hF hW rfl ((y_move hF rfl).q) (fun a w hF hW => ?_)
        refine ls hF hW rfl ((y_move hF rfl).q) (fun a w hF hW => ?_)
        rcases Bool.eq_false_or_eq_true x24 with hb | hb
        ·
         have H := iteT hb H
         rw [hb] at hF
         clear hb
         refine ls_w hF hW (wanted_y hF rfl rfl rfl rfl) rfl (Nat.le_of_ble_eq_true rfl) ((y_move hF rfl).q) (fun a w hF hW => ?_)
         refine ls_w hF hW (wanted_y hF rfl rfl rfl rfl) rfl (Nat.le_of_ble_eq_true rfl) ((y_move hF rfl).q) (fun a w hF hW => ?_)
         obtain ⟨x26, h20, H⟩ := bindE H
         refine ls_w hF hW (wanted_y hF rfl rfl rfl rfl) rfl (Nat.le_of_ble_eq_true rfl) ((y_index (r := (Rp.int .i64)) L39 hF rfl rfl (rdc_row 0 rfl) h20).q) (fun a w hF hW => ?_)
         refine ls_w hF hW (wanted_y hF rfl rfl rfl rfl) rfl (Nat.le_of_ble_eq_true rfl) ((y_load_el (y := Value.int .i64 x26) (j := 0) (i := x25) hF rfl rfl (rdc_row 0 rfl) h20 Fl.int.to T3 rfl).q) (fun a w hF hW => ?_)
         refine ls_w hF hW (wanted_y hF rfl rfl rfl rfl) rfl (Nat.le_of_ble_eq_true rfl) ((y_geq hF rfl rfl).q) (fun a w hF hW => ?_)
         refine ls hF hW rfl ((y_pick_t hF rfl rfl rfl).q) (fun a w hF hW => ?_)
         refine ls hF hW rfl ((y_assign hF rfl).q) (fun a w hF hW => ?_)
         refine ls_nil ?_
         refine b_normal ?_
         refine c_then ?_
         refine reg_list ?_
         refine ls hF hW rfl ((y_move hF rfl).q) (fun a w hF hW => ?_)
         refine ls hF hW rfl ((y_add hF rfl rfl rfl).q) (fun a w hF hW => ?_)
         refine ls hF hW rfl ((y_assign hF rfl).q) (fun a w hF hW => ?_)
         refine ls_nil ?_
         refine c_then ?_
         exact ⟨_, H, hF.re ⟨rfl, rfl, rfl, rfl, rfl, rfl, trivial⟩, hW⟩
        ·
         have H := iteF (by rw [hb]; decide) H
         rw [hb] at hF
         clear hb
         refine lsn hF rfl rfl rfl rfl rfl rfl rfl (fun a hF => ?_)
         refine lsn hF rfl rfl rfl rfl rfl rfl rfl (fun a hF => ?_)
         refine lsn hF rfl rfl rfl rfl rfl rfl rfl (fun a hF => ?_)
         refine lsn hF rfl rfl rfl rfl rfl rfl rfl (fun a hF => ?_)
         refine lsn hF rfl rfl rfl rfl rfl rfl rfl (fun a hF => ?_)
         refine ls hF hW rfl ((y_pick_f hF rfl rfl rfl).q) (fun a w hF hW => ?_)
         refine ls hF hW rfl ((y_assign hF rfl).q) (fun a w hF hW => ?_)
         refine ls_nil ?_
         refine b_normal ?_
         refine c_then ?_
         refine reg_list ?_
         refine ls hF hW rfl ((y_move hF rfl).q) (fun a w hF hW => ?_)
         refine ls hF hW rfl ((y_add hF rfl rfl rfl).q) (fun a w hF hW => ?_)
         refine ls hF hW rfl ((y_assign hF rfl).q) (fun a w hF hW => ?_)
         refine ls_nil ?_
         refine c_then ?_
         exact ⟨_, H, hF.re ⟨rfl, rfl, rfl, rfl, rfl, rfl, trivial⟩, hW⟩
       ·
        have H := iteF (of_decide_eq_false hb) H
        rw [hb] at hF
        clear hb
        refine wp_exit ?_
        refine e_then ?_
        refine e_then ?_
        refine e_block ?_
        refine c_then ?_
        have hW := hW.sub (M' := [(b1, [.int .i64 p0.1, v1, v2])]) (Z' := []) (List.Sublist.refl _) (List.nil_sublist _)
        have H := L6 _ H
        exact ⟨_, H, hF.re ⟨rfl, rfl, rfl, rfl, trivial⟩, hW⟩
      rintro a w ⟨x23, hj, hF, hW⟩
      have hj := Option.some.inj hj
      subst hj
      have H := K5
      clear G5 K5
      obtain ⟨o7, G7, K7⟩ := bindE H
      refine c_seqJ (fun a w => ∃ x27 : Bool, some (x27) = some o7 ∧ Fr 175 [] [(6, .bool x27)] a ∧ Stw ⟨Y, [], w0⟩ [(b1, [.int .i64 p0.1, v1, v2])] [] w) ?_ ?_
      ·
       have H := G7
       clear G7 K7
       refine reg_plan [(true, 0), (true, 1), (true, 3), (true, 4), (false, 2), (false, 5), (false, 6), (true, 7), (true, 8), (true, 10), (false, 9), (true, 11), (true, 12), (true, 13), (false, 14), (true, 15), (false, 16)] (CN ⟨Y, [], w0⟩ [(some 2, b1, [.int .i64 p0.1, v1, v2]), (some 5, b1, [.int .i64 p0.1, v1, v2])] []) (fun ch a d v w h => by cases d <;> exact h) MO (by kernel_rfl) hW (fun w hW => ⟨_, _, hW, (all_cons (fun _ => (.head _)) (all_cons (fun _ => (.head _)) all_nil)), all_nil⟩) (fun w hW => ?_)
       refine pl_t (R := [2]) hF rfl rfl (yC fun M Z hN hZ => y_load_m (cs := [.int .i64 p0.1, v1, v2]) (v := Value.agg #[.int .i64 p0.1, v1, v2]) hF rfl (hN ((some 2), b1, [.int .i64 p0.1, v1, v2]) (.head _) rfl) T25 rfl) (by kernel_rfl) rfl (fun a hF => ?_)
       refine pl_t (R := []) hF rfl rfl (yC fun M Z hN hZ => y_move hF rfl) rfl rfl (fun a hF => ?_)
       refine pl_t (R := [5]) hF rfl rfl (yC fun M Z hN hZ => y_load_m (cs := [.int .i64 p0.1, v1, v2]) (v := Value.agg #[.int .i64 p0.1, v1, v2]) hF rfl (hN ((some 5), b1, [.int .i64 p0.1, v1, v2]) (.tail _ (.head _)) rfl) T25 rfl) (by kernel_rfl) rfl (fun a hF => ?_)
       refine pl_t (R := []) hF rfl rfl (yC fun M Z hN hZ => y_move hF rfl) rfl rfl (fun a hF => ?_)
       refine pl_f rfl ?_
       obtain ⟨x28, h21, H⟩ := bindE H
       refine l_callG (Ml := []) (Zl := []) (M := [(b1, [.int .i64 p0.1, v1, v2])]) (Z := []) (β := Value) (rv := fun x => x) (MM := fun x => []) (ZZ := fun x => [row x 3 (Rp.int .i64) x28]) hF hW H20 rfl rfl (fun hL => topo_Hops_c _ w (v1) (v2) p0 p1 _ h21 ((rdc_ro h_v1) w hW).nx ((rdc_ro h_v2) w hW).nx) (fun x a w hF hW => ?_)
       obtain ⟨v6, rfl⟩ : ∃ y, y = x := ⟨x, rfl⟩
       have hW : Stw ⟨Y, [], w0⟩ [(b1, [.int .i64 p0.1, v1, v2])] [row v6 3 (Rp.int .i64) x28] w := hW
       refine pl_next (N2 := []) (NZ2 := []) (N3 := [(some 2, b1, [.int .i64 p0.1, v1, v2]), (some 5, b1, [.int .i64 p0.1, v1, v2])]) (NZ3 := []) hW rfl rfl (all_cons (fun h => rel_dead (by kernel_rfl) h) (all_cons (fun _ => (.head _)) all_nil)) all_nil ?_
       refine pl_f rfl ?_
       obtain ⟨x29, h22, H⟩ := bindE H
       refine l_callG (Ml := []) (Zl := []) (M := [(b1, [.int .i64 p0.1, v1, v2])]) (Z := [row v6 3 (Rp.int .i64) x28]) (β := Value) (rv := fun x => x) (MM := fun x => []) (ZZ := fun x => [row x 3 (Rp.int .i64) x29]) hF hW H18 rfl rfl (fun hL => r17_Hops_c _ w (v1) (v2) p0 p1 _ h22 ((rdc_ro h_v1) w hW).nx ((rdc_ro h_v2) w hW).nx) (fun x a w hF hW => ?_)
       obtain ⟨v7, rfl⟩ : ∃ y, y = x := ⟨x, rfl⟩
       have hW : Stw ⟨Y, [], w0⟩ [(b1, [.int .i64 p0.1, v1, v2])] [row v7 3 (Rp.int .i64) x29, row v6 3 (Rp.int .i64) x28] w := hW
       refine pl_next (N2 := []) (NZ2 := []) (N3 := [(some 2, b1, [.int .i64 p0.1, v1, v2]), (some 5, b1, [.int .i64 p0.1, v1, v2])]) (NZ3 := []) hW rfl rfl (all_cons (fun h => rel_dead (by kernel_rfl) h) (all_cons (fun h => rel_dead (by kernel_rfl) h) all_nil)) all_nil ?_
       refine pl_f rfl ?_
       obtain ⟨x30, h23, H⟩ := bindE H
       refine ls hF hW rfl (y_call (v := Value.bool x30) hF H19 rfl (fun w hW => r13_Same_c any w (v6) (v7) x28 x29 _ h23 (((rdc_row 1 rfl) : Rdc _ _ _ _ _ _) w hW).nx (((rdc_row 0 rfl) : Rdc _ _ _ _ _ _) w hW).nx)) (fun a w hF hW => ?_)
       refine pl_next (N2 := [(some 9, b1, [.int .i64 p0.1, v1, v2])]) (NZ2 := []) (N3 := [(some 2, b1, [.int .i64 p0.1, v1, v2]), (some 5, b1, [.int .i64 p0.1, v1, v2]), (some 9, b1, [.int .i64 p0.1, v1, v2])]) (NZ3 := []) hW rfl rfl (all_cons (fun h => rel_dead (by kernel_rfl) h) (all_cons (fun h => rel_dead (by kernel_rfl) h) (all_cons (fun _ => (.head _)) all_nil))) all_nil ?_
       refine pl_t (R := []) hF rfl rfl (yC fun M Z hN hZ => y_move hF rfl) rfl rfl (fun a hF => ?_)
       rcases Bool.eq_false_or_eq_true x30 with hb | hb
       ·
        have H := iteT hb H
        rw [hb] at hF
        clear hb
        refine pl_w (R := [9]) hF rfl (wanted_y hF rfl rfl rfl rfl) rfl rfl (yC fun M Z hN hZ => y_load_m (cs := [.int .i64 p0.1, v1, v2]) (v := Value.agg #[.int .i64 p0.1, v1, v2]) hF rfl (hN ((some 9), b1, [.int .i64 p0.1, v1, v2]) (.tail _ (.tail _ (.head _))) rfl) T25 rfl) (by kernel_rfl) rfl (fun a hF => ?_)
        refine pl_w (R := []) hF rfl (wanted_y hF rfl rfl rfl rfl) rfl rfl (yC fun M Z hN hZ => y_move hF rfl) rfl rfl (fun a hF => ?_)
        refine pl_f rfl ?_
        refine ls_g (wanted_y hF rfl rfl rfl rfl) ?_
        obtain ⟨x31, h24, H⟩ := bindE H
        refine ls hF hW rfl (y_call (v := Value.bool x31) hF H21 rfl (fun w hW => topo_Whole_c any w (v1) (v2) p0 _ h24 (((rdc_ro h_v1) : Rdc _ _ _ _ _ _) w hW).nx (((rdc_ro h_v2) : Rdc _ _ _ _ _ _) w hW).nx)) (fun a w hF hW => ?_)
        refine pl_next (N2 := []) (NZ2 := []) (N3 := [(some 2, b1, [.int .i64 p0.1, v1, v2]), (some 5, b1, [.int .i64 p0.1, v1, v2]), (some 9, b1, [.int .i64 p0.1, v1, v2])]) (NZ3 := []) hW rfl rfl (all_cons (fun h => rel_dead (by kernel_rfl) h) (all_cons (fun h => rel_dead (by kernel_rfl) h) (all_cons (fun h => rel_dead (by kernel_rfl) h) all_nil))) all_nil ?_
        refine pl_w (R := []) hF rfl (wanted_y hF rfl rfl rfl rfl) rfl rfl (yC fun M Z hN hZ => y_eqb u4_ hF rfl rfl) rfl rfl (fun a hF => ?_)
        refine pl_t (R := []) hF rfl rfl (yC fun M Z hN hZ => y_pick_t hF rfl rfl rfl) rfl rfl (fun a hF => ?_)
        refine pl_t (R := []) hF rfl rfl (yC fun M Z hN hZ => y_move hF rfl) rfl rfl (fun a hF => ?_)
        rcases Bool.eq_false_or_eq_true (decide (x31 = x23)) with hb | hb
        ·
         have H := iteT (of_decide_eq_true hb) H
         rw [hb] at hF
         clear hb
         refine pl_f rfl ?_
         refine ls_g (wanted_y hF rfl rfl rfl rfl) ?_
         obtain ⟨x32, h25, H⟩ := bindE H
         refine ls hF hW rfl (y_call (v := Value.bool x32) hF H7 rfl (fun w hW => L17_awake_c any w _ h25)) (fun a w hF hW => ?_)
         refine pl_next (N2 := []) (NZ2 := []) (N3 := [(some 2, b1, [.int .i64 p0.1, v1, v2]), (some 5, b1, [.int .i64 p0.1, v1, v2]), (some 9, b1, [.int .i64 p0.1, v1, v2])]) (NZ3 := []) hW rfl rfl (all_cons (fun h => rel_dead (by kernel_rfl) h) (all_cons (fun h => rel_dead (by kernel_rfl) h) (all_cons (fun h => rel_dead (by kernel_rfl) h) all_nil))) all_nil ?_
         refine pl_t (R := []) hF rfl rfl (yC fun M Z hN hZ => y_pick_t hF rfl rfl rfl) rfl rfl (fun a hF => ?_)
         refine pl_f rfl ?_
         refine ls hF hW rfl ((y_assign hF rfl).q) (fun a w hF hW => ?_)
         refine pl_next (N2 := []) (NZ2 := []) (N3 := [(some 2, b1, [.int .i64 p0.1, v1, v2]), (some 5, b1, [.int .i64 p0.1, v1, v2]), (some 9, b1, [.int .i64 p0.1, v1, v2])]) (NZ3 := []) hW rfl rfl (all_cons (fun h => rel_dead (by kernel_rfl) h) (all_cons (fun h => rel_dead (by kernel_rfl) h) (all_cons (fun h => rel_dead (by kernel_rfl) h) all_nil))) all_nil ?_
         refine pl_end ?_
         refine c_then ?_
         have hW := hW.sub (M' := [(b1, [.int .i64 p0.1, v1, v2])]) (Z' := []) (List.Sublist.refl _) (List.nil_sublist _)
         exact ⟨_, H, hF.re ⟨rfl, trivial⟩, hW⟩
        ·
         have H := iteF (of_decide_eq_false hb) H
         rw [hb] at hF
         clear hb
         refine pl_f rfl ?_
         refine lsn hF rfl rfl rfl rfl rfl rfl rfl (fun a hF => ?_)
         refine pl_next (N2 := []) (NZ2 := []) (N3 := [(some 2, b1, [.int .i64 p0.1, v1, v2]), (some 5, b1, [.int .i64 p0.1, v1, v2]), (some 9, b1, [.int .i64 p0.1, v1, v2])]) (NZ3 := []) hW rfl rfl (all_cons (fun h => rel_dead (by kernel_rfl) h) (all_cons (fun h => rel_dead (by kernel_rfl) h) (all_cons (fun h => rel_dead (by kernel_rfl) h) all_nil))) all_nil ?_
         refine pl_t (R := []) hF rfl rfl (yC fun M Z hN hZ => y_pick_f hF rfl rfl rfl) rfl rfl (fun a hF => ?_)
         refine pl_f rfl ?_
         refine ls hF hW rfl ((y_assign hF rfl).q) (fun a w hF hW => ?_)
         refine pl_next (N2 := []) (NZ2 := []) (N3 := [(some 2, b1, [.int .i64 p0.1, v1, v2]), (some 5, b1, [.int .i64 p0.1, v1, v2]), (some 9, b1, [.int .i64 p0.1, v1, v2])]) (NZ3 := []) hW rfl rfl (all_cons (fun h => rel_dead (by kernel_rfl) h) (all_cons (fun h => rel_dead (by kernel_rfl) h) (all_cons (fun h => rel_dead (by kernel_rfl) h) all_nil))) all_nil ?_
         refine pl_end ?_
         refine c_then ?_
         have hW := hW.sub (M' := [(b1, [.int .i64 p0.1, v1, v2])]) (Z' := []) (List.Sublist.refl _) (List.nil_sublist _)
         exact ⟨_, H, hF.re ⟨rfl, trivial⟩, hW⟩
       ·
        have H := iteF (by rw [hb]; decide) H
        rw [hb] at hF
        clear hb
        refine pl_skip hF rfl (wanted_n hF rfl rfl rfl rfl rfl) rfl rfl rfl (fun a hF => ?_)
        refine pl_skip hF rfl (wanted_n hF rfl rfl rfl rfl rfl) rfl rfl rfl (fun a hF => ?_)
        refine pl_f rfl ?_
        refine lsn hF rfl rfl rfl rfl rfl rfl rfl (fun a hF => ?_)
        refine pl_next (N2 := []) (NZ2 := []) (N3 := [(some 2, b1, [.int .i64 p0.1, v1, v2]), (some 5, b1, [.int .i64 p0.1, v1, v2]), (some 9, b1, [.int .i64 p0.1, v1, v2])]) (NZ3 := []) hW rfl rfl (all_cons (fun h => rel_dead (by kernel_rfl) h) (all_cons (fun h => rel_dead (by kernel_rfl) h) (all_cons (fun h => rel_dead (by kernel_rfl) h) all_nil))) all_nil ?_
        refine pl_skip hF rfl (wanted_n hF rfl rfl rfl rfl rfl) rfl rfl rfl (fun a hF => ?_)
        refine pl_t (R := []) hF rfl rfl (yC fun M Z hN hZ => y_pick_f hF rfl rfl rfl) rfl rfl (fun a hF => ?_)
        refine pl_t (R := []) hF rfl rfl (yC fun M Z hN hZ => y_move hF rfl) rfl rfl (fun a hF => ?_)
        refine pl_f rfl ?_
        refine lsn hF rfl rfl rfl rfl rfl rfl rfl (fun a hF => ?_)
        refine pl_next (N2 := []) (NZ2 := []) (N3 := [(some 2, b1, [.int .i64 p0.1, v1, v2]), (some 5, b1, [.int .i64 p0.1, v1, v2]), (some 9, b1, [.int .i64 p0.1, v1, v2])]) (NZ3 := []) hW rfl rfl (all_cons (fun h => rel_dead (by kernel_rfl) h) (all_cons (fun h => rel_dead (by kernel_rfl) h) (all_cons (fun h => rel_dead (by kernel_rfl) h) all_nil))) all_nil ?_
        refine pl_t (R := []) hF rfl rfl (yC fun M Z hN hZ => y_pick_f hF rfl rfl rfl) rfl rfl (fun a hF => ?_)
        refine pl_f rfl ?_
        refine ls hF hW rfl ((y_assign hF rfl).q) (fun a w hF hW => ?_)
        refine pl_next (N2 := []) (NZ2 := []) (N3 := [(some 2, b1, [.int .i64 p0.1, v1, v2]), (some 5, b1, [.int .i64 p0.1, v1, v2]), (some 9, b1, [.int .i64 p0.1, v1, v2])]) (NZ3 := []) hW rfl rfl (all_cons (fun h => rel_dead (by kernel_rfl) h) (all_cons (fun h => rel_dead (by kernel_rfl) h) (all_cons (fun h => rel_dead (by kernel_rfl) h) all_nil))) all_nil ?_
        refine pl_end ?_
        refine c_then ?_
        have hW := hW.sub (M' := [(b1, [.int .i64 p0.1, v1, v2])]) (Z' := []) (List.Sublist.refl _) (List.nil_sublist _)
        exact ⟨_, H, hF.re ⟨rfl, trivial⟩, hW⟩
      rintro a w ⟨x27, hj, hF, hW⟩
      have hj := Option.some.inj hj
      subst hj
      have H := K7
      clear G7 K7
      refine wp_ret ?_
      have H := Option.some.inj H
      subst H
      refine post1 (.inl rfl) hF hW rfl (rv_tmp hF rfl) ?_
      exact ⟨rfl, hW.done⟩

end Go.Proofs.Ytnkleniifdkpmaa
