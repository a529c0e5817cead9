/- The functions of layer 9, lifted. Conditions: none. -/
import Derived.Test.YtefiglmpdajonaaDoorA2
namespace Go.Proofs.YtefiglmpdajonaaDoor
open Go Go.RowKit
set_option linter.unusedVariables false
set_option linter.unusedSimpArgs false
set_option maxRecDepth 20000
theorem H23 : Has Tryd.prog 23 := ⟨fun args w => run_callFunc_body Tryd.func23 rfl (by decide) args w⟩
noncomputable def L09_ActFolds (p0 : List (Int × Int × Int)) (p1 : Int) (p2 : Int × Int × Int × Int) : Option Bool := (r09_Right p0 p1).bind fun x1 => (if (!x1) = true then (L09_awake).bind fun x2 => some x2 else (act_Fold p0).bind fun x3 => ((act_Run x3 p2).bind fun x5 => (act_Run p0 p2).bind fun x6 => (r09_Sent x5 x6).bind fun x7 => (if x7 = true then (act_Fold x3).bind fun x8 => (act_Same x8 x3).bind fun x9 => (if x9 = true then (if (x3.length : Int) ≤ (p0.length : Int) then (act_Right x3 p1).bind fun x10 => (if x10 = true then (L09_awake).bind fun x11 => some x11 else some false) else some false) else some false) else some false)).bind fun x4 => some x4)
theorem L09_ActFolds_c (Y : Nat → Prop) (w0 : World) (v1 : Value) (p0 : List (Int × Int × Int)) (p1 : Int) (p2 : Int × Int × Int × Int) (r : Bool) (H : L09_ActFolds p0 p1 p2 = some r) (h_v1 : Sl w0 (NX []) R27 v1 p0) (hG : Gk [] w0) :
    Calls Tryd.prog 4 #[v1, .int .i64 p1, .agg #[.int .i64 p2.1, .int .i64 p2.2.1, .int .i64 p2.2.2.1, .int .i64 p2.2.2.2]] w0 fun e w' => e = .returned (.bool r) ∧ Below w0.heap.size w0 w' := by
 refine enter Tryd.func4 rfl Tryd.ntmps4 rfl (fun a hF => ?_)
 have hW := Stw.start Y w0
 unfold L09_ActFolds at H
 refine c_seq (reg_list ?_)
 refine l_box (cs := [.int .i64 p2.1, .int .i64 p2.2.1, .int .i64 p2.2.2.1, .int .i64 p2.2.2.2]) hF hW rfl rfl rfl (fun b1 a w hF hW => ?_)
 refine ls hF hW rfl ((y_assign hF rfl).q) (fun a w hF hW => ?_)
 refine ls_nil (c_then ?_)
 refine c_seq ?_
 refine c_seq (reg_list ?_)
 iterate 2 refine ls hF hW rfl ((y_move hF rfl).q) (fun a w hF hW => ?_)
 obtain ⟨x1, h1, H⟩ := bindE H
 refine ls hF hW rfl (y_call (v := Value.bool x1) hF H9 rfl (fun w hW => r09_Right_c any w (v1) p0 p1 _ h1 (((rdc_ro h_v1) : Rdc _ _ _ _ _ _) w hW).nx)) (fun a w hF hW => ?_)
 refine ls hF hW rfl ((y_not hF rfl).q) (fun a w hF hW => ?_)
 refine ls_nil (c_then ?_)
 refine c_cond hF rfl (fun hb => ?_) (fun hb => ?_)
 ·
  have H := iteT hb H
  rw [hb] at hF
  clear hb
  refine c_seq (reg_list ?_)
  obtain ⟨x2, h2, H⟩ := bindE H
  refine ls hF hW rfl (y_call (v := Value.bool x2) hF H7 rfl (fun w hW => L09_awake_c any w _ h2 (hG.go0 hW))) (fun a w hF hW => ?_)
  refine ls hF hW rfl ((y_assign hF rfl).q) (fun a w hF hW => ?_)
  refine ls_nil (c_then ?_)
  refine wr_ret ?_
  refine r_then ?_
  have H := Option.some.inj H
  subst H
  refine post1 (.inl rfl) hF hW rfl (rv_tmp hF rfl) ?_
  exact ⟨rfl, hW.done⟩
 ·
  have H := iteF (by rw [hb]; decide) H
  rw [hb] at hF
  clear hb
  refine wr_skip ?_
  refine c_then ?_
  refine c_seq (reg_list ?_)
  refine ls hF hW rfl ((y_move hF rfl).q) (fun a w hF hW => ?_)
  obtain ⟨x3, h3, H⟩ := bindE H
  refine l_callG (Ml := []) (Zl := []) (M := [(b1, [.int .i64 p2.1, .int .i64 p2.2.1, .int .i64 p2.2.2.1, .int .i64 p2.2.2.2])]) (Z := []) (β := Value) (rv := fun x => x) (MM := fun x => []) (ZZ := fun x => [row x 27 R27 x3]) hF hW H17 rfl rfl (fun hL => act_Fold_c _ w (v1) p0 _ h3 ((rdc_ro h_v1) w hW).nx) (fun x a w hF hW => ?_)
  obtain ⟨v2, rfl⟩ : ∃ y, y = x := ⟨x, rfl⟩
  have hW : Stw ⟨Y, [], w0⟩ [(b1, [.int .i64 p2.1, .int .i64 p2.2.1, .int .i64 p2.2.2.1, .int .i64 p2.2.2.2])] [row v2 27 R27 x3] w := hW
  refine ls hF hW rfl ((y_assign hF rfl).q) (fun a w hF hW => ?_)
  refine ls_nil (c_then ?_)
  obtain ⟨o1, G1, K1⟩ := bindE H
  refine c_seqJ (fun a w => ∃ x4 : Bool, some (x4) = some o1 ∧ Fr 43 [] [(6, .bool x4)] a ∧ Stw ⟨Y, [], w0⟩ [(b1, [.int .i64 p2.1, .int .i64 p2.2.1, .int .i64 p2.2.2.1, .int .i64 p2.2.2.2])] [] w) ?_ ?_
  ·
   have H := G1
   clear G1 K1
   refine reg_plan [(true, 0), (true, 1), (true, 3), (true, 4), (false, 2), (false, 5), (false, 6), (true, 7), (true, 8), (true, 10), (false, 9), (false, 11), (true, 12), (true, 13), (true, 14), (true, 15), (true, 16), (true, 17), (true, 18), (true, 19), (true, 20), (true, 21), (true, 22), (false, 23), (true, 24), (true, 25), (false, 26), (true, 27), (false, 28)] (CN ⟨Y, [], w0⟩ [(some 2, b1, [.int .i64 p2.1, .int .i64 p2.2.1, .int .i64 p2.2.2.1, .int .i64 p2.2.2.2]), (some 5, b1, [.int .i64 p2.1, .int .i64 p2.2.1, .int .i64 p2.2.2.1, .int .i64 p2.2.2.2])] []) (fun ch a d v w h => by cases d <;> exact h) MO (by kernel_rfl) hW (fun w hW => ⟨_, _, hW, (all_cons (fun _ => (.head _)) (all_cons (fun _ => (.head _)) all_nil)), all_nil⟩) (fun w hW => ?_)
   refine pl_t (R := []) hF rfl rfl (yC fun M Z hN hZ => y_move hF rfl) rfl rfl (fun a hF => ?_)
   refine pl_t (R := [2]) hF rfl rfl (yC fun M Z hN hZ => y_load_m (cs := [.int .i64 p2.1, .int .i64 p2.2.1, .int .i64 p2.2.2.1, .int .i64 p2.2.2.2]) (v := Value.agg #[.int .i64 p2.1, .int .i64 p2.2.1, .int .i64 p2.2.2.1, .int .i64 p2.2.2.2]) hF rfl (hN ((some 2), b1, [.int .i64 p2.1, .int .i64 p2.2.1, .int .i64 p2.2.2.1, .int .i64 p2.2.2.2]) (.head _) rfl) T24 rfl) (by kernel_rfl) rfl (fun a hF => ?_)
   refine pl_t (R := []) hF rfl rfl (yC fun M Z hN hZ => y_move hF rfl) rfl rfl (fun a hF => ?_)
   refine pl_t (R := [5]) hF rfl rfl (yC fun M Z hN hZ => y_load_m (cs := [.int .i64 p2.1, .int .i64 p2.2.1, .int .i64 p2.2.2.1, .int .i64 p2.2.2.2]) (v := Value.agg #[.int .i64 p2.1, .int .i64 p2.2.1, .int .i64 p2.2.2.1, .int .i64 p2.2.2.2]) hF rfl (hN ((some 5), b1, [.int .i64 p2.1, .int .i64 p2.2.1, .int .i64 p2.2.2.1, .int .i64 p2.2.2.2]) (.tail _ (.head _)) rfl) T24 rfl) (by kernel_rfl) rfl (fun a hF => ?_)
   refine pl_f rfl ?_
   obtain ⟨x5, h4, H⟩ := bindE H
   refine l_callG (Ml := []) (Zl := []) (M := [(b1, [.int .i64 p2.1, .int .i64 p2.2.1, .int .i64 p2.2.2.1, .int .i64 p2.2.2.2])]) (Z := [row v2 27 R27 x3]) (β := Value) (rv := fun x => x) (MM := fun x => []) (ZZ := fun x => [row x 41 R41 x5]) hF hW H11 rfl rfl (fun hL => act_Run_c _ w (v2) x3 p2 _ h4 ((rdc_row 0 rfl) w hW).nx) (fun x a w hF hW => ?_)
   obtain ⟨v3, rfl⟩ : ∃ y, y = x := ⟨x, rfl⟩
   have hW : Stw ⟨Y, [], w0⟩ [(b1, [.int .i64 p2.1, .int .i64 p2.2.1, .int .i64 p2.2.2.1, .int .i64 p2.2.2.2])] [row v3 41 R41 x5, row v2 27 R27 x3] w := hW
   refine pl_next (N2 := []) (NZ2 := []) (N3 := [(some 2, b1, [.int .i64 p2.1, .int .i64 p2.2.1, .int .i64 p2.2.2.1, .int .i64 p2.2.2.2]), (some 5, b1, [.int .i64 p2.1, .int .i64 p2.2.1, .int .i64 p2.2.2.1, .int .i64 p2.2.2.2])]) (NZ3 := []) hW rfl rfl (all_cons (fun h => rel_dead (by kernel_rfl) h) (all_cons (fun _ => (.head _)) all_nil)) all_nil ?_
   refine pl_f rfl ?_
   obtain ⟨x6, h5, H⟩ := bindE H
   refine l_callG (Ml := []) (Zl := []) (M := [(b1, [.int .i64 p2.1, .int .i64 p2.2.1, .int .i64 p2.2.2.1, .int .i64 p2.2.2.2])]) (Z := [row v3 41 R41 x5, row v2 27 R27 x3]) (β := Value) (rv := fun x => x) (MM := fun x => []) (ZZ := fun x => [row x 41 R41 x6]) hF hW H11 rfl rfl (fun hL => act_Run_c _ w (v1) p0 p2 _ h5 ((rdc_ro h_v1) w hW).nx) (fun x a w hF hW => ?_)
   obtain ⟨v4, rfl⟩ : ∃ y, y = x := ⟨x, rfl⟩
   have hW : Stw ⟨Y, [], w0⟩ [(b1, [.int .i64 p2.1, .int .i64 p2.2.1, .int .i64 p2.2.2.1, .int .i64 p2.2.2.2])] [row v4 41 R41 x6, row v3 41 R41 x5, row v2 27 R27 x3] w := hW
   refine pl_next (N2 := []) (NZ2 := []) (N3 := [(some 2, b1, [.int .i64 p2.1, .int .i64 p2.2.1, .int .i64 p2.2.2.1, .int .i64 p2.2.2.2]), (some 5, b1, [.int .i64 p2.1, .int .i64 p2.2.1, .int .i64 p2.2.2.1, .int .i64 p2.2.2.2])]) (NZ3 := []) hW rfl rfl (all_cons (fun h => rel_dead (by kernel_rfl) h) (all_cons (fun h => rel_dead (by kernel_rfl) h) all_nil)) all_nil ?_
   refine pl_f rfl ?_
   obtain ⟨x7, h6, H⟩ := bindE H
   refine ls hF hW rfl (y_call (v := Value.bool x7) hF H10 rfl (fun w hW => r09_Sent_c any w (v3) (v4) x5 x6 _ h6 (((rdc_row 1 rfl) : Rdc _ _ _ _ _ _) w hW).nx (((rdc_row 0 rfl) : Rdc _ _ _ _ _ _) w hW).nx)) (fun a w hF hW => ?_)
   refine pl_next (N2 := []) (NZ2 := []) (N3 := [(some 2, b1, [.int .i64 p2.1, .int .i64 p2.2.1, .int .i64 p2.2.2.1, .int .i64 p2.2.2.2]), (some 5, b1, [.int .i64 p2.1, .int .i64 p2.2.1, .int .i64 p2.2.2.1, .int .i64 p2.2.2.2])]) (NZ3 := []) hW rfl rfl (all_cons (fun h => rel_dead (by kernel_rfl) h) (all_cons (fun h => rel_dead (by kernel_rfl) h) all_nil)) all_nil ?_
   refine pl_t (R := []) hF rfl rfl (yC fun M Z hN hZ => y_move hF rfl) rfl rfl (fun a hF => ?_)
   rcases Bool.eq_false_or_eq_true x7 with hb | hb
   ·
    have H := iteT hb H
    rw [hb] at hF
    clear hb
    iterate 2 refine pl_w (R := []) hF rfl (wanted_y hF rfl rfl rfl rfl) rfl rfl (yC fun M Z hN hZ => y_move hF rfl) rfl rfl (fun a hF => ?_)
    refine pl_f rfl ?_
    refine ls_g (wanted_y hF rfl rfl rfl rfl) ?_
    obtain ⟨x8, h7, H⟩ := bindE H
    refine l_callG (Ml := []) (Zl := []) (M := [(b1, [.int .i64 p2.1, .int .i64 p2.2.1, .int .i64 p2.2.2.1, .int .i64 p2.2.2.2])]) (Z := [row v4 41 R41 x6, row v3 41 R41 x5, row v2 27 R27 x3]) (β := Value) (rv := fun x => x) (MM := fun x => []) (ZZ := fun x => [row x 27 R27 x8]) hF hW H17 rfl rfl (fun hL => act_Fold_c _ w (v2) x3 _ h7 ((rdc_row 2 rfl) w hW).nx) (fun x a w hF hW => ?_)
    obtain ⟨v5, rfl⟩ : ∃ y, y = x := ⟨x, rfl⟩
    have hW : Stw ⟨Y, [], w0⟩ [(b1, [.int .i64 p2.1, .int .i64 p2.2.1, .int .i64 p2.2.2.1, .int .i64 p2.2.2.2])] [row v5 27 R27 x8, row v4 41 R41 x6, row v3 41 R41 x5, row v2 27 R27 x3] w := hW
    refine pl_next (N2 := []) (NZ2 := []) (N3 := [(some 2, b1, [.int .i64 p2.1, .int .i64 p2.2.1, .int .i64 p2.2.2.1, .int .i64 p2.2.2.2]), (some 5, b1, [.int .i64 p2.1, .int .i64 p2.2.1, .int .i64 p2.2.2.1, .int .i64 p2.2.2.2])]) (NZ3 := []) hW rfl rfl (all_cons (fun h => rel_dead (by kernel_rfl) h) (all_cons (fun h => rel_dead (by kernel_rfl) h) all_nil)) all_nil ?_
    refine pl_f rfl ?_
    refine ls_g (wanted_y hF rfl rfl rfl rfl) ?_
    obtain ⟨x9, h8, H⟩ := bindE H
    refine ls hF hW rfl (y_call (v := Value.bool x9) hF H23 rfl (fun w hW => act_Same_c any w (v5) (v2) x8 x3 _ h8 (((rdc_row 0 rfl) : Rdc _ _ _ _ _ _) w hW).nx (((rdc_row 3 rfl) : Rdc _ _ _ _ _ _) w hW).nx)) (fun a w hF hW => ?_)
    refine pl_next (N2 := []) (NZ2 := [(some 28, row v2 27 R27 x3)]) (N3 := [(some 2, b1, [.int .i64 p2.1, .int .i64 p2.2.1, .int .i64 p2.2.2.1, .int .i64 p2.2.2.2]), (some 5, b1, [.int .i64 p2.1, .int .i64 p2.2.1, .int .i64 p2.2.2.1, .int .i64 p2.2.2.2])]) (NZ3 := [(some 28, row v2 27 R27 x3)]) hW rfl rfl (all_cons (fun h => rel_dead (by kernel_rfl) h) (all_cons (fun h => rel_dead (by kernel_rfl) h) all_nil)) (all_cons (fun _ => (.tail _ (.tail _ (.tail _ (.head _))))) all_nil) ?_
    refine pl_t (R := []) hF rfl rfl (yC fun M Z hN hZ => y_pick_t hF rfl rfl rfl) rfl rfl (fun a hF => ?_)
    refine pl_t (R := []) hF rfl rfl (yC fun M Z hN hZ => y_move hF rfl) rfl rfl (fun a hF => ?_)
    rcases Bool.eq_false_or_eq_true x9 with hb | hb
    ·
     have H := iteT hb H
     rw [hb] at hF
     clear hb
     refine pl_w (R := []) hF rfl (wanted_y hF rfl rfl rfl rfl) rfl rfl (yC fun M Z hN hZ => y_move hF rfl) rfl rfl (fun a hF => ?_)
     refine pl_w (R := [28]) hF rfl (wanted_y hF rfl rfl rfl rfl) rfl rfl (yC fun M Z hN hZ => y_len (r := R27) (l := x3) u22_ rfl hF rfl (rdc_mrow (hZ ((some 28), row v2 27 R27 x3) (.head _) rfl))) (by kernel_rfl) rfl (fun a hF => ?_)
     refine pl_w (R := []) hF rfl (wanted_y hF rfl rfl rfl rfl) rfl rfl (yC fun M Z hN hZ => y_move hF rfl) rfl rfl (fun a hF => ?_)
     refine pl_w (R := []) hF rfl (wanted_y hF rfl rfl rfl rfl) rfl rfl (yC fun M Z hN hZ => y_len (r := R27) (l := p0) u22_ rfl hF rfl (rdc_ro h_v1)) rfl rfl (fun a hF => ?_)
     refine pl_w (R := []) hF rfl (wanted_y hF rfl rfl rfl rfl) rfl rfl (yC fun M Z hN hZ => y_leq hF rfl rfl) rfl rfl (fun a hF => ?_)
     refine pl_t (R := []) hF rfl rfl (yC fun M Z hN hZ => y_pick_t hF rfl rfl rfl) rfl rfl (fun a hF => ?_)
     refine pl_t (R := []) hF rfl rfl (yC fun M Z hN hZ => y_move hF rfl) rfl rfl (fun a hF => ?_)
     rcases Bool.eq_false_or_eq_true (decide ((x3.length : Int) ≤ (p0.length : Int))) with hb | hb
     ·
      have H := iteT (of_decide_eq_true hb) H
      rw [hb] at hF
      clear hb
      iterate 2 refine pl_w (R := []) hF rfl (wanted_y hF rfl rfl rfl rfl) rfl rfl (yC fun M Z hN hZ => y_move hF rfl) rfl rfl (fun a hF => ?_)
      refine pl_f rfl ?_
      refine ls_g (wanted_y hF rfl rfl rfl rfl) ?_
      obtain ⟨x10, h9, H⟩ := bindE H
      refine ls hF hW rfl (y_call (v := Value.bool x10) hF H8 rfl (fun w hW => act_Right_c any w (v2) x3 p1 _ h9 (((rdc_row 3 rfl) : Rdc _ _ _ _ _ _) w hW).nx)) (fun a w hF hW => ?_)
      refine pl_next (N2 := []) (NZ2 := []) (N3 := [(some 2, b1, [.int .i64 p2.1, .int .i64 p2.2.1, .int .i64 p2.2.2.1, .int .i64 p2.2.2.2]), (some 5, b1, [.int .i64 p2.1, .int .i64 p2.2.1, .int .i64 p2.2.2.1, .int .i64 p2.2.2.2])]) (NZ3 := [(some 28, row v2 27 R27 x3)]) hW rfl rfl (all_cons (fun h => rel_dead (by kernel_rfl) h) (all_cons (fun h => rel_dead (by kernel_rfl) h) all_nil)) (all_cons (fun _ => (.tail _ (.tail _ (.tail _ (.head _))))) all_nil) ?_
      refine pl_t (R := []) hF rfl rfl (yC fun M Z hN hZ => y_pick_t hF rfl rfl rfl) rfl rfl (fun a hF => ?_)
      refine pl_t (R := []) hF rfl rfl (yC fun M Z hN hZ => y_move hF rfl) rfl rfl (fun a hF => ?_)
      rcases Bool.eq_false_or_eq_true x10 with hb | hb
      ·
       have H := iteT hb H
       rw [hb] at hF
       clear hb
       refine pl_f rfl ?_
       refine ls_g (wanted_y hF rfl rfl rfl rfl) ?_
       obtain ⟨x11, h10, H⟩ := bindE H
       refine ls hF hW rfl (y_call (v := Value.bool x11) hF H7 rfl (fun w hW => L09_awake_c any w _ h10 (hG.go0 hW))) (fun a w hF hW => ?_)
       refine pl_next (N2 := []) (NZ2 := []) (N3 := [(some 2, b1, [.int .i64 p2.1, .int .i64 p2.2.1, .int .i64 p2.2.2.1, .int .i64 p2.2.2.2]), (some 5, b1, [.int .i64 p2.1, .int .i64 p2.2.1, .int .i64 p2.2.2.1, .int .i64 p2.2.2.2])]) (NZ3 := [(some 28, row v2 27 R27 x3)]) hW rfl rfl (all_cons (fun h => rel_dead (by kernel_rfl) h) (all_cons (fun h => rel_dead (by kernel_rfl) h) all_nil)) (all_cons (fun _ => (.tail _ (.tail _ (.tail _ (.head _))))) all_nil) ?_
       refine pl_t (R := []) hF rfl rfl (yC fun M Z hN hZ => y_pick_t hF rfl rfl rfl) rfl rfl (fun a hF => ?_)
       refine pl_f rfl ?_
       refine ls hF hW rfl ((y_assign hF rfl).q) (fun a w hF hW => ?_)
       refine pl_next (N2 := []) (NZ2 := []) (N3 := [(some 2, b1, [.int .i64 p2.1, .int .i64 p2.2.1, .int .i64 p2.2.2.1, .int .i64 p2.2.2.2]), (some 5, b1, [.int .i64 p2.1, .int .i64 p2.2.1, .int .i64 p2.2.2.1, .int .i64 p2.2.2.2])]) (NZ3 := [(some 28, row v2 27 R27 x3)]) hW rfl rfl (all_cons (fun h => rel_dead (by kernel_rfl) h) (all_cons (fun h => rel_dead (by kernel_rfl) h) all_nil)) (all_cons (fun h => rel_dead (by kernel_rfl) h) all_nil) ?_
       refine pl_end ?_
       refine c_then ?_
       have hW := hW.sub (M' := [(b1, [.int .i64 p2.1, .int .i64 p2.2.1, .int .i64 p2.2.2.1, .int .i64 p2.2.2.2])]) (Z' := []) (List.Sublist.refl _) (List.nil_sublist _)
       exact ⟨_, H, hF.re ⟨rfl, trivial⟩, hW⟩
      ·
       have H := iteF (by rw [hb]; decide) H
       rw [hb] at hF
       clear hb
       refine pl_f rfl ?_
       refine lsn hF rfl rfl rfl rfl rfl rfl rfl (fun a hF => ?_)
       refine pl_next (N2 := []) (NZ2 := []) (N3 := [(some 2, b1, [.int .i64 p2.1, .int .i64 p2.2.1, .int .i64 p2.2.2.1, .int .i64 p2.2.2.2]), (some 5, b1, [.int .i64 p2.1, .int .i64 p2.2.1, .int .i64 p2.2.2.1, .int .i64 p2.2.2.2])]) (NZ3 := [(some 28, row v2 27 R27 x3)]) hW rfl rfl (all_cons (fun h => rel_dead (by kernel_rfl) h) (all_cons (fun h => rel_dead (by kernel_rfl) h) all_nil)) (all_cons (fun _ => (.tail _ (.tail _ (.tail _ (.head _))))) all_nil) ?_
       refine pl_t (R := []) hF rfl rfl (yC fun M Z hN hZ => y_pick_f hF rfl rfl rfl) rfl rfl (fun a hF => ?_)
       refine pl_f rfl ?_
       refine ls hF hW rfl ((y_assign hF rfl).q) (fun a w hF hW => ?_)
       refine pl_next (N2 := []) (NZ2 := []) (N3 := [(some 2, b1, [.int .i64 p2.1, .int .i64 p2.2.1, .int .i64 p2.2.2.1, .int .i64 p2.2.2.2]), (some 5, b1, [.int .i64 p2.1, .int .i64 p2.2.1, .int .i64 p2.2.2.1, .int .i64 p2.2.2.2])]) (NZ3 := [(some 28, row v2 27 R27 x3)]) hW rfl rfl (all_cons (fun h => rel_dead (by kernel_rfl) h) (all_cons (fun h => rel_dead (by kernel_rfl) h) all_nil)) (all_cons (fun h => rel_dead (by kernel_rfl) h) all_nil) ?_
       refine pl_end ?_
       refine c_then ?_
       have hW := hW.sub (M' := [(b1, [.int .i64 p2.1, .int .i64 p2.2.1, .int .i64 p2.2.2.1, .int .i64 p2.2.2.2])]) (Z' := []) (List.Sublist.refl _) (List.nil_sublist _)
       exact ⟨_, H, hF.re ⟨rfl, trivial⟩, hW⟩
     ·
      have H := iteF (of_decide_eq_false hb) H
      rw [hb] at hF
      clear hb
      iterate 2 refine pl_skip hF rfl (wanted_n hF rfl rfl rfl rfl rfl) rfl rfl rfl (fun a hF => ?_)
      refine pl_f rfl ?_
      refine lsn hF rfl rfl rfl rfl rfl rfl rfl (fun a hF => ?_)
      refine pl_next (N2 := []) (NZ2 := []) (N3 := [(some 2, b1, [.int .i64 p2.1, .int .i64 p2.2.1, .int .i64 p2.2.2.1, .int .i64 p2.2.2.2]), (some 5, b1, [.int .i64 p2.1, .int .i64 p2.2.1, .int .i64 p2.2.2.1, .int .i64 p2.2.2.2])]) (NZ3 := [(some 28, row v2 27 R27 x3)]) hW rfl rfl (all_cons (fun h => rel_dead (by kernel_rfl) h) (all_cons (fun h => rel_dead (by kernel_rfl) h) all_nil)) (all_cons (fun _ => (.tail _ (.tail _ (.tail _ (.head _))))) all_nil) ?_
      refine pl_t (R := []) hF rfl rfl (yC fun M Z hN hZ => y_pick_f hF rfl rfl rfl) rfl rfl (fun a hF => ?_)
      refine pl_t (R := []) hF rfl rfl (yC fun M Z hN hZ => y_move hF rfl) rfl rfl (fun a hF => ?_)
      refine pl_f rfl ?_
      refine lsn hF rfl rfl rfl rfl rfl rfl rfl (fun a hF => ?_)
      refine pl_next (N2 := []) (NZ2 := []) (N3 := [(some 2, b1, [.int .i64 p2.1, .int .i64 p2.2.1, .int .i64 p2.2.2.1, .int .i64 p2.2.2.2]), (some 5, b1, [.int .i64 p2.1, .int .i64 p2.2.1, .int .i64 p2.2.2.1, .int .i64 p2.2.2.2])]) (NZ3 := [(some 28, row v2 27 R27 x3)]) hW rfl rfl (all_cons (fun h => rel_dead (by kernel_rfl) h) (all_cons (fun h => rel_dead (by kernel_rfl) h) all_nil)) (all_cons (fun _ => (.tail _ (.tail _ (.tail _ (.head _))))) all_nil) ?_
      refine pl_t (R := []) hF rfl rfl (yC fun M Z hN hZ => y_pick_f hF rfl rfl rfl) rfl rfl (fun a hF => ?_)
      refine pl_f rfl ?_
      refine ls hF hW rfl ((y_assign hF rfl).q) (fun a w hF hW => ?_)
      refine pl_next (N2 := []) (NZ2 := []) (N3 := [(some 2, b1, [.int .i64 p2.1, .int .i64 p2.2.1, .int .i64 p2.2.2.1, .int .i64 p2.2.2.2]), (some 5, b1, [.int .i64 p2.1, .int .i64 p2.2.1, .int .i64 p2.2.2.1, .int .i64 p2.2.2.2])]) (NZ3 := [(some 28, row v2 27 R27 x3)]) hW rfl rfl (all_cons (fun h => rel_dead (by kernel_rfl) h) (all_cons (fun h => rel_dead (by kernel_rfl) h) all_nil)) (all_cons (fun h => rel_dead (by kernel_rfl) h) all_nil) ?_
      refine pl_end ?_
      refine c_then ?_
      have hW := hW.sub (M' := [(b1, [.int .i64 p2.1, .int .i64 p2.2.1, .int .i64 p2.2.2.1, .int .i64 p2.2.2.2])]) (Z' := []) (List.Sublist.refl _) (List.nil_sublist _)
      exact ⟨_, H, hF.re ⟨rfl, trivial⟩, hW⟩
    ·
     have H := iteF (by rw [hb]; decide) H
     rw [hb] at hF
     clear hb
     iterate 5 refine pl_skip hF rfl (wanted_n hF rfl rfl rfl rfl rfl) rfl rfl rfl (fun a hF => ?_)
     refine pl_t (R := []) hF rfl rfl (yC fun M Z hN hZ => y_pick_f hF rfl rfl rfl) rfl rfl (fun a hF => ?_)
     refine pl_t (R := []) hF rfl rfl (yC fun M Z hN hZ => y_move hF rfl) rfl rfl (fun a hF => ?_)
     iterate 2 refine pl_skip hF rfl (wanted_n hF rfl rfl rfl rfl rfl) rfl rfl rfl (fun a hF => ?_)
     refine pl_f rfl ?_
     refine lsn hF rfl rfl rfl rfl rfl rfl rfl (fun a hF => ?_)
     refine pl_next (N2 := []) (NZ2 := []) (N3 := [(some 2, b1, [.int .i64 p2.1, .int .i64 p2.2.1, .int .i64 p2.2.2.1, .int .i64 p2.2.2.2]), (some 5, b1, [.int .i64 p2.1, .int .i64 p2.2.1, .int .i64 p2.2.2.1, .int .i64 p2.2.2.2])]) (NZ3 := [(some 28, row v2 27 R27 x3)]) hW rfl rfl (all_cons (fun h => rel_dead (by kernel_rfl) h) (all_cons (fun h => rel_dead (by kernel_rfl) h) all_nil)) (all_cons (fun _ => (.tail _ (.tail _ (.tail _ (.head _))))) all_nil) ?_
     refine pl_t (R := []) hF rfl rfl (yC fun M Z hN hZ => y_pick_f hF rfl rfl rfl) rfl rfl (fun a hF => ?_)
     refine pl_t (R := []) hF rfl rfl (yC fun M Z hN hZ => y_move hF rfl) rfl rfl (fun a hF => ?_)
     refine pl_f rfl ?_
     refine lsn hF rfl rfl rfl rfl rfl rfl rfl (fun a hF => ?_)
     refine pl_next (N2 := []) (NZ2 := []) (N3 := [(some 2, b1, [.int .i64 p2.1, .int .i64 p2.2.1, .int .i64 p2.2.2.1, .int .i64 p2.2.2.2]), (some 5, b1, [.int .i64 p2.1, .int .i64 p2.2.1, .int .i64 p2.2.2.1, .int .i64 p2.2.2.2])]) (NZ3 := [(some 28, row v2 27 R27 x3)]) hW rfl rfl (all_cons (fun h => rel_dead (by kernel_rfl) h) (all_cons (fun h => rel_dead (by kernel_rfl) h) all_nil)) (all_cons (fun _ => (.tail _ (.tail _ (.tail _ (.head _))))) all_nil) ?_
     refine pl_t (R := []) hF rfl rfl (yC fun M Z hN hZ => y_pick_f hF rfl rfl rfl) rfl rfl (fun a hF => ?_)
     refine pl_f rfl ?_
     refine ls hF hW rfl ((y_assign hF rfl).q) (fun a w hF hW => ?_)
     refine pl_next (N2 := []) (NZ2 := []) (N3 := [(some 2, b1, [.int .i64 p2.1, .int .i64 p2.2.1, .int .i64 p2.2.2.1, .int .i64 p2.2.2.2]), (some 5, b1, [.int .i64 p2.1, .int .i64 p2.2.1, .int .i64 p2.2.2.1, .int .i64 p2.2.2.2])]) (NZ3 := [(some 28, row v2 27 R27 x3)]) hW rfl rfl (all_cons (fun h => rel_dead (by kernel_rfl) h) (all_cons (fun h => rel_dead (by kernel_rfl) h) all_nil)) (all_cons (fun h => rel_dead (by kernel_rfl) h) all_nil) ?_
     refine pl_end ?_
     refine c_then ?_
     have hW := hW.sub (M' := [(b1, [.int .i64 p2.1, .int .i64 p2.2.1, .int .i64 p2.2.2.1, .int .i64 p2.2.2.2])]) (Z' := []) (List.Sublist.refl _) (List.nil_sublist _)
     exact ⟨_, H, hF.re ⟨rfl, trivial⟩, hW⟩
   ·
    have H := iteF (by rw [hb]; decide) H
    rw [hb] at hF
    clear hb
    iterate 2 refine pl_skip hF rfl (wanted_n hF rfl rfl rfl rfl rfl) rfl rfl rfl (fun a hF => ?_)
    refine pl_f rfl ?_
    refine lsn hF rfl rfl rfl rfl rfl rfl rfl (fun a hF => ?_)
    refine pl_next (N2 := []) (NZ2 := []) (N3 := [(some 2, b1, [.int .i64 p2.1, .int .i64 p2.2.1, .int .i64 p2.2.2.1, .int .i64 p2.2.2.2]), (some 5, b1, [.int .i64 p2.1, .int .i64 p2.2.1, .int .i64 p2.2.2.1, .int .i64 p2.2.2.2])]) (NZ3 := []) hW rfl rfl (all_cons (fun h => rel_dead (by kernel_rfl) h) (all_cons (fun h => rel_dead (by kernel_rfl) h) all_nil)) all_nil ?_
    refine pl_f rfl ?_
    refine lsn hF rfl rfl rfl rfl rfl rfl rfl (fun a hF => ?_)
    refine pl_next (N2 := []) (NZ2 := []) (N3 := [(some 2, b1, [.int .i64 p2.1, .int .i64 p2.2.1, .int .i64 p2.2.2.1, .int .i64 p2.2.2.2]), (some 5, b1, [.int .i64 p2.1, .int .i64 p2.2.1, .int .i64 p2.2.2.1, .int .i64 p2.2.2.2])]) (NZ3 := []) hW rfl rfl (all_cons (fun h => rel_dead (by kernel_rfl) h) (all_cons (fun h => rel_dead (by kernel_rfl) h) all_nil)) all_nil ?_
    refine pl_t (R := []) hF rfl rfl (yC fun M Z hN hZ => y_pick_f hF rfl rfl rfl) rfl rfl (fun a hF => ?_)
    refine pl_t (R := []) hF rfl rfl (yC fun M Z hN hZ => y_move hF rfl) rfl rfl (fun a hF => ?_)
    iterate 5 refine pl_skip hF rfl (wanted_n hF rfl rfl rfl rfl rfl) rfl rfl rfl (fun a hF => ?_)
    refine pl_t (R := []) hF rfl rfl (yC fun M Z hN hZ => y_pick_f hF rfl rfl rfl) rfl rfl (fun a hF => ?_)
    refine pl_t (R := []) hF rfl rfl (yC fun M Z hN hZ => y_move hF rfl) rfl rfl (fun a hF => ?_)
    iterate 2 refine pl_skip hF rfl (wanted_n hF rfl rfl rfl rfl rfl) rfl rfl rfl (fun a hF => ?_)
    refine pl_f rfl ?_
    refine lsn hF rfl rfl rfl rfl rfl rfl rfl (fun a hF => ?_)
    refine pl_next (N2 := []) (NZ2 := []) (N3 := [(some 2, b1, [.int .i64 p2.1, .int .i64 p2.2.1, .int .i64 p2.2.2.1, .int .i64 p2.2.2.2]), (some 5, b1, [.int .i64 p2.1, .int .i64 p2.2.1, .int .i64 p2.2.2.1, .int .i64 p2.2.2.2])]) (NZ3 := []) hW rfl rfl (all_cons (fun h => rel_dead (by kernel_rfl) h) (all_cons (fun h => rel_dead (by kernel_rfl) h) all_nil)) all_nil ?_
    refine pl_t (R := []) hF rfl rfl (yC fun M Z hN hZ => y_pick_f hF rfl rfl rfl) rfl rfl (fun a hF => ?_)
    refine pl_t (R := []) hF rfl rfl (yC fun M Z hN hZ => y_move hF rfl) rfl rfl (fun a hF => ?_)
    refine pl_f rfl ?_
    refine lsn hF rfl rfl rfl rfl rfl rfl rfl (fun a hF => ?_)
    refine pl_next (N2 := []) (NZ2 := []) (N3 := [(some 2, b1, [.int .i64 p2.1, .int .i64 p2.2.1, .int .i64 p2.2.2.1, .int .i64 p2.2.2.2]), (some 5, b1, [.int .i64 p2.1, .int .i64 p2.2.1, .int .i64 p2.2.2.1, .int .i64 p2.2.2.2])]) (NZ3 := []) hW rfl rfl (all_cons (fun h => rel_dead (by kernel_rfl) h) (all_cons (fun h => rel_dead (by kernel_rfl) h) all_nil)) all_nil ?_
    refine pl_t (R := []) hF rfl rfl (yC fun M Z hN hZ => y_pick_f hF rfl rfl rfl) rfl rfl (fun a hF => ?_)
    refine pl_f rfl ?_
    refine ls hF hW rfl ((y_assign hF rfl).q) (fun a w hF hW => ?_)
    refine pl_next (N2 := []) (NZ2 := []) (N3 := [(some 2, b1, [.int .i64 p2.1, .int .i64 p2.2.1, .int .i64 p2.2.2.1, .int .i64 p2.2.2.2]), (some 5, b1, [.int .i64 p2.1, .int .i64 p2.2.1, .int .i64 p2.2.2.1, .int .i64 p2.2.2.2])]) (NZ3 := []) hW rfl rfl (all_cons (fun h => rel_dead (by kernel_rfl) h) (all_cons (fun h => rel_dead (by kernel_rfl) h) all_nil)) all_nil ?_
    refine pl_end ?_
    refine c_then ?_
    have hW := hW.sub (M' := [(b1, [.int .i64 p2.1, .int .i64 p2.2.1, .int .i64 p2.2.2.1, .int .i64 p2.2.2.2])]) (Z' := []) (List.Sublist.refl _) (List.nil_sublist _)
    exact ⟨_, H, hF.re ⟨rfl, trivial⟩, hW⟩
  rintro a w ⟨x4, hj, hF, hW⟩
  have hj := Option.some.inj hj
  subst hj
  have H := K1
  clear G1 K1
  refine wr_ret ?_
  have H := Option.some.inj H
  subst H
  refine post1 (.inl rfl) hF hW rfl (rv_tmp hF rfl) ?_
  exact ⟨rfl, hW.done⟩

noncomputable def L09_ActJoins_l1 (p1 : List (Int × Int × Int)) : Int → Option (Int ⊕ (Unit ⊕ Bool))
  | x2 => (if x2 < (p1.length : Int) then (ix p1 x2).bind fun x3 => (if x3.1 = 3 then (L09_awake).bind fun x4 => some (.inr (.inr x4)) else some (.inl (w64 (x2 + 1)))) else some (.inr (.inl ())))
noncomputable def L09_ActJoins (p0 : List (Int × Int × Int)) (p1 : List (Int × Int × Int)) (p2 : Int × Int × Int × Int) : Option Bool := (if (decide (20 < (p0.length : Int)) || decide (20 < (p1.length : Int))) = true then (L09_awake).bind fun x1 => some x1 else orR (loopW (L09_ActJoins_l1 p1) 0) fun _ => (app ([] : List (Int × Int × Int)) p0).bind fun x5 => (app x5 p1).bind fun x6 => (app ([] : List (Int × Int × Int)) p0).bind fun x7 => (app x7 ([(2, 0, 7)] : List (Int × Int × Int))).bind fun x8 => (act_Run x8 p2).bind fun x9 => (if (x9.length : Int) = 0 then some false else (subl x9 0 (w64 ((x9.length : Int) - 1))).bind fun x10 => (app ([] : List (Int × (Int × Int × Int × Int))) x10).bind fun x11 => (ix x9 (w64 ((x9.length : Int) - 1))).bind fun x12 => (act_Run p1 x12.2).bind fun x13 => (app x11 x13).bind fun x14 => ((act_Run p0 p2).bind fun x16 => (r09_Sent x16 x10).bind fun x17 => (if x17 = true then (act_Run x6 p2).bind fun x18 => (r09_Sent x18 x14).bind fun x19 => (if x19 = true then (L09_awake).bind fun x20 => some x20 else some false) else some false)).bind fun x15 => some x15))
theorem L09_ActJoins_c (Y : Nat → Prop) (w0 : World) (v1 : Value) (v2 : Value) (p0 : List (Int × Int × Int)) (p1 : List (Int × Int × Int)) (p2 : Int × Int × Int × Int) (r : Bool) (H : L09_ActJoins p0 p1 p2 = some r) (s_v1 : Sl w0 Y R27 v1 p0) (s_v2 : Sl w0 Y R27 v2 p1) (hG : Gk [] w0) :
    Calls Tryd.prog 5 #[v1, v2, .agg #[.int .i64 p2.1, .int .i64 p2.2.1, .int .i64 p2.2.2.1, .int .i64 p2.2.2.2]] w0 fun e w' => e = .returned (.bool r) ∧ Below w0.heap.size w0 w' := by
 refine enter Tryd.func5 rfl Tryd.ntmps5 rfl (fun a hF => ?_)
 have hW := Stw.start Y w0
 have h_v1 := hW.nx s_v1
 have h_v2 := hW.nx s_v2
 unfold L09_ActJoins at H
 refine c_seq (reg_list ?_)
 refine l_box (cs := [.int .i64 p2.1, .int .i64 p2.2.1, .int .i64 p2.2.2.1, .int .i64 p2.2.2.2]) hF hW rfl rfl rfl (fun b1 a w hF hW => ?_)
 refine ls hF hW rfl ((y_assign hF rfl).q) (fun a w hF hW => ?_)
 refine ls_nil (c_then ?_)
 refine c_seq ?_
 refine c_seqJ (fun a w => Fr 88 [] [(0, v1), (1, v2), (5, .pointer (some ⟨b1, 0, none⟩)), (6, .bool false), (20, .bool (decide (20 < (p0.length : Int)) || decide (20 < (p1.length : Int))))] a ∧ Stw ⟨Y, [], w0⟩ [(b1, [.int .i64 p2.1, .int .i64 p2.2.1, .int .i64 p2.2.2.1, .int .i64 p2.2.2.2])] [] w) ?_ ?_
 ·
  refine reg_list ?_
  refine ls hF hW rfl ((y_move hF rfl).q) (fun a w hF hW => ?_)
  refine ls hF hW rfl ((y_len (r := R27) (l := p0) u22_ rfl hF rfl (rdc_ro h_v1)).q) (fun a w hF hW => ?_)
  refine ls hF hW rfl ((y_gtr hF rfl rfl).q) (fun a w hF hW => ?_)
  refine ls hF hW rfl ((y_move hF rfl).q) (fun a w hF hW => ?_)
  rcases Bool.eq_false_or_eq_true (decide (20 < (p0.length : Int))) with hb0 | hb0
  ·
   rw [hb0] at hF
   iterate 3 refine lsn hF rfl rfl rfl rfl rfl rfl rfl (fun a hF => ?_)
   refine ls hF hW rfl ((y_pick_t hF rfl rfl rfl).q) (fun a w hF hW => ?_)
   refine ls_nil (c_then ?_)
   exact ⟨hF.re ⟨rfl, rfl, rfl, rfl, (by show some (Value.bool true) = some (Value.bool (decide (20 < (p0.length : Int)) || decide (20 < (p1.length : Int)))); try rw [hb0]; all_goals simp only [Bool.not_true, Bool.not_false, Bool.true_and, Bool.false_and, Bool.true_or, Bool.false_or, Bool.and_true, Bool.or_false, cond_true, cond_false]), trivial⟩, hW⟩
  ·
   rw [hb0] at hF
   refine ls_w hF hW (wanted_y hF rfl rfl rfl rfl) rfl (Nat.le_of_ble_eq_true rfl) ((y_move hF rfl).q) (fun a w hF hW => ?_)
   refine ls_w hF hW (wanted_y hF rfl rfl rfl rfl) rfl (Nat.le_of_ble_eq_true rfl) ((y_len (r := R27) (l := p1) u22_ rfl hF rfl (rdc_ro h_v2)).q) (fun a w hF hW => ?_)
   refine ls_w hF hW (wanted_y hF rfl rfl rfl rfl) rfl (Nat.le_of_ble_eq_true rfl) ((y_gtr hF rfl rfl).q) (fun a w hF hW => ?_)
   refine ls hF hW rfl ((y_pick_f hF rfl rfl rfl).q) (fun a w hF hW => ?_)
   refine ls_nil (c_then ?_)
   exact ⟨hF.re ⟨rfl, rfl, rfl, rfl, (by show some (Value.bool (decide (20 < (p1.length : Int)))) = some (Value.bool (decide (20 < (p0.length : Int)) || decide (20 < (p1.length : Int)))); try rw [hb0]; all_goals simp only [Bool.not_true, Bool.not_false, Bool.true_and, Bool.false_and, Bool.true_or, Bool.false_or, Bool.and_true, Bool.or_false, cond_true, cond_false]), trivial⟩, hW⟩
 rintro a w ⟨hF, hW⟩
 refine c_cond hF rfl (fun hb => ?_) (fun hb => ?_)
 ·
  have H := iteT hb H
  rw [hb] at hF
  clear hb
  refine c_seq (reg_list ?_)
  obtain ⟨x1, h1, H⟩ := bindE H
  refine ls hF hW rfl (y_call (v := Value.bool x1) hF H7 rfl (fun w hW => L09_awake_c any w _ h1 (hG.go0 hW))) (fun a w hF hW => ?_)
  refine ls hF hW rfl ((y_assign hF rfl).q) (fun a w hF hW => ?_)
  refine ls_nil (c_then ?_)
  refine wr_ret ?_
  refine r_then ?_
  have H := Option.some.inj H
  subst H
  refine post1 (.inl rfl) hF hW rfl (rv_tmp hF rfl) ?_
  exact ⟨rfl, hW.done⟩
 ·
  have H := iteF (by rw [hb]; decide) H
  rw [hb] at hF
  clear hb
  refine wr_skip ?_
  refine c_then ?_
  obtain ⟨o1, G1, K1, L1⟩ := orE H
  refine c_seqJ (fun a w => some (Sum.inl ()) = some o1 ∧ Fr 88 [] [(0, v1), (1, v2), (5, .pointer (some ⟨b1, 0, none⟩)), (6, .bool false)] a ∧ Stw ⟨Y, [], w0⟩ [(b1, [.int .i64 p2.1, .int .i64 p2.2.1, .int .i64 p2.2.2.1, .int .i64 p2.2.2.2])] [] w) ?_ ?_
  ·
   have H := G1
   clear G1 K1
   refine c_seq (reg_list ?_)
   refine ls hF hW rfl ((y_assign hF rfl).q) (fun a w hF hW => ?_)
   refine ls_nil (c_then ?_)
   refine wr_block ?_
   refine c_loopW H (fun s a w => Fr 88 [] [(0, v1), (1, v2), (5, .pointer (some ⟨b1, 0, none⟩)), (6, .bool false), (7, .int .i64 s)] a ∧ Stw ⟨Y, [], w0⟩ [(b1, [.int .i64 p2.1, .int .i64 p2.2.1, .int .i64 p2.2.2.1, .int .i64 p2.2.2.2])] [] w) ⟨hF.re ⟨rfl, rfl, rfl, rfl, rfl, trivial⟩, hW⟩ (fun s o a w H L2 hR => ?_)
   obtain ⟨x2, rfl⟩ : ∃ x, x = s := ⟨s, rfl⟩
   obtain ⟨hF, hW⟩ := hR
   have hF : Fr 88 [] [(0, v1), (1, v2), (5, .pointer (some ⟨b1, 0, none⟩)), (6, .bool false), (7, .int .i64 x2)] a := hF
   have hW : Stw ⟨Y, [], w0⟩ [(b1, [.int .i64 p2.1, .int .i64 p2.2.1, .int .i64 p2.2.2.1, .int .i64 p2.2.2.2])] [] w := hW
   rw [L09_ActJoins_l1] at H
   refine c_seq ?_
   refine c_seq (reg_list ?_)
   iterate 2 refine ls hF hW rfl ((y_move hF rfl).q) (fun a w hF hW => ?_)
   refine ls hF hW rfl ((y_len (r := R27) (l := p1) u22_ rfl hF rfl (rdc_ro h_v2)).q) (fun a w hF hW => ?_)
   refine ls hF hW rfl ((y_lss hF rfl rfl).q) (fun a w hF hW => ?_)
   refine ls_nil (c_then ?_)
   refine c_cond hF rfl (fun hb => ?_) (fun hb => ?_)
   ·
    have H := iteT (of_decide_eq_true hb) H
    rw [hb] at hF
    clear hb
    refine wr_skip ?_
    refine c_then ?_
    refine c_seq ?_
    refine wr_block ?_
    refine c_seq (reg_list ?_)
    iterate 2 refine ls hF hW rfl ((y_move hF rfl).q) (fun a w hF hW => ?_)
    obtain ⟨x3, h2, H⟩ := bindE H
    refine ls hF hW rfl ((y_index (r := R27) L22 hF rfl rfl (rdc_ro h_v2) h2).q) (fun a w hF hW => ?_)
    refine ls hF hW rfl ((y_fieldAddr u27_ rfl rfl rfl T3 hF rfl (voff v2 + (x2).toNat * 3) rfl).q) (fun a w hF hW => ?_)
    refine ls hF hW rfl ((y_load_el (y := Value.int .i64 x3.1) (j := 0) (i := x2) hF rfl rfl (rdc_ro h_v2) h2 F27.to T3 rfl).q) (fun a w hF hW => ?_)
    refine ls hF hW rfl ((y_eql hF rfl rfl).q) (fun a w hF hW => ?_)
    refine ls_nil (c_then ?_)
    refine c_cond hF rfl (fun hb => ?_) (fun hb => ?_)
    ·
     have H := iteT (of_decide_eq_true hb) H
     rw [hb] at hF
     clear hb
     refine c_seq (reg_list ?_)
     obtain ⟨x4, h3, H⟩ := bindE H
     refine ls hF hW rfl (y_call (v := Value.bool x4) hF H7 rfl (fun w hW => L09_awake_c any w _ h3 (hG.go0 hW))) (fun a w hF hW => ?_)
     refine ls hF hW rfl ((y_assign hF rfl).q) (fun a w hF hW => ?_)
     refine ls_nil (c_then ?_)
     refine wr_ret ?_
     refine r_block ?_
     iterate 2 refine r_then ?_
     refine r_block ?_
     refine r_then ?_
     have H := L2 _ H
     have H := L1 _ H
     have H := Option.some.inj H
     subst H
     refine post1 (.inl rfl) hF hW rfl (rv_tmp hF rfl) ?_
     exact ⟨rfl, hW.done⟩
    ·
     have H := iteF (of_decide_eq_false hb) H
     rw [hb] at hF
     clear hb
     refine wr_skip ?_
     refine b_normal ?_
     refine c_then ?_
     refine reg_list ?_
     refine ls hF hW rfl ((y_move hF rfl).q) (fun a w hF hW => ?_)
     refine ls hF hW rfl ((y_add hF rfl rfl rfl).q) (fun a w hF hW => ?_)
     refine ls hF hW rfl ((y_assign hF rfl).q) (fun a w hF hW => ?_)
     refine ls_nil (c_then ?_)
     exact ⟨_, H, hF.re ⟨rfl, rfl, rfl, rfl, rfl, trivial⟩, hW⟩
   ·
    have H := iteF (of_decide_eq_false hb) H
    rw [hb] at hF
    clear hb
    refine wr_exit ?_
    iterate 2 refine e_then ?_
    refine e_block ?_
    refine c_then ?_
    have H := L2 _ H
    exact ⟨H, hF.re ⟨rfl, rfl, rfl, rfl, trivial⟩, hW⟩
  rintro a w ⟨hj, hF, hW⟩
  have H := K1 _ hj
  clear hj G1 K1 L1
  refine c_seq (reg_list ?_)
  iterate 2 refine ls hF hW rfl ((y_assign hF rfl).q) (fun a w hF hW => ?_)
  refine ls_nil (c_then ?_)
  refine c_seq (reg_list ?_)
  iterate 2 refine ls hF hW rfl ((y_move hF rfl).q) (fun a w hF hW => ?_)
  have hW := hW.nilRow 27 R27
  obtain ⟨x5, h4, H⟩ := bindE H
  refine l_append (r := R27) (i := 0) hF hW rfl L22 rfl rfl rfl rfl (src_old hW s_v1) h4 rfl (fun v3 a w hF hW => ?_)
  have hW : Stw ⟨Y, [], w0⟩ [(b1, [.int .i64 p2.1, .int .i64 p2.2.1, .int .i64 p2.2.2.1, .int .i64 p2.2.2.2])] [row v3 27 R27 x5] w := hW
  refine ls hF hW rfl ((y_assign hF rfl).q) (fun a w hF hW => ?_)
  refine ls_nil (c_then ?_)
  refine c_seq (reg_list ?_)
  iterate 2 refine ls hF hW rfl ((y_move hF rfl).q) (fun a w hF hW => ?_)
  obtain ⟨x6, h5, H⟩ := bindE H
  refine l_append (r := R27) (i := 0) hF hW rfl L22 rfl rfl rfl rfl (src_old hW s_v2) h5 rfl (fun v4 a w hF hW => ?_)
  have hW : Stw ⟨Y, [], w0⟩ [(b1, [.int .i64 p2.1, .int .i64 p2.2.1, .int .i64 p2.2.2.1, .int .i64 p2.2.2.2])] [row v4 27 R27 x6] w := hW
  refine ls hF hW rfl ((y_assign hF rfl).q) (fun a w hF hW => ?_)
  refine ls_nil (c_then ?_)
  refine c_seq (reg_list ?_)
  iterate 2 refine ls hF hW rfl ((y_move hF rfl).q) (fun a w hF hW => ?_)
  have hW := hW.nilRow 27 R27
  obtain ⟨x7, h6, H⟩ := bindE H
  refine l_append (r := R27) (i := 0) hF hW rfl L22 rfl rfl rfl rfl (src_old hW s_v1) h6 rfl (fun v5 a w hF hW => ?_)
  have hW : Stw ⟨Y, [], w0⟩ [(b1, [.int .i64 p2.1, .int .i64 p2.2.1, .int .i64 p2.2.2.1, .int .i64 p2.2.2.2])] [row v5 27 R27 x7, row v4 27 R27 x6] w := hW
  refine ls hF hW rfl ((y_assign hF rfl).q) (fun a w hF hW => ?_)
  refine ls_nil (c_then ?_)
  refine c_seq (reg_list ?_)
  refine ls hF hW rfl ((y_move hF rfl).q) (fun a w hF hW => ?_)
  refine ls hF hW rfl ((y_build (v := Value.agg #[.int .i64 2, .int .i64 0, .int .i64 7]) B27 hF rfl rfl rfl).q) (fun a w hF hW => ?_)
  refine l_lit (z := Value.agg #[.int .i64 0, .int .i64 0, .int .i64 0]) (cs := [.int .i64 2, .int .i64 0, .int .i64 7]) R27 ([(2, 0, 7)] : List (Int × Int × Int)) hF hW rfl L22 Z27 rfl rfl rfl rfl rfl rfl (F27.repL _ _ ([(2, 0, 7)] : List (Int × Int × Int))) (fun v6 a w hF hW => ?_)
  obtain ⟨x8, h7, H⟩ := bindE H
  refine l_append (r := R27) (i := 1) hF hW rfl L22 rfl rfl rfl rfl (src_row hW 0 rfl) h7 rfl (fun v7 a w hF hW => ?_)
  have hW : Stw ⟨Y, [], w0⟩ [(b1, [.int .i64 p2.1, .int .i64 p2.2.1, .int .i64 p2.2.2.1, .int .i64 p2.2.2.2])] [row v7 27 R27 x8, row v6 27 R27 ([(2, 0, 7)] : List (Int × Int × Int)), row v4 27 R27 x6] w := hW
  refine ls hF hW rfl ((y_assign hF rfl).q) (fun a w hF hW => ?_)
  refine ls_nil (c_then ?_)
  refine c_seq (reg_list ?_)
  refine ls hF hW rfl ((y_move hF rfl).q) (fun a w hF hW => ?_)
  refine ls hF hW rfl ((y_load (v := Value.agg #[.int .i64 p2.1, .int .i64 p2.2.1, .int .i64 p2.2.2.1, .int .i64 p2.2.2.2]) 0 hF rfl rfl T24 rfl).q) (fun a w hF hW => ?_)
  obtain ⟨x9, h8, H⟩ := bindE H
  refine l_callG (Ml := []) (Zl := []) (M := [(b1, [.int .i64 p2.1, .int .i64 p2.2.1, .int .i64 p2.2.2.1, .int .i64 p2.2.2.2])]) (Z := [row v7 27 R27 x8, row v6 27 R27 ([(2, 0, 7)] : List (Int × Int × Int)), row v4 27 R27 x6]) (β := Value) (rv := fun x => x) (MM := fun x => []) (ZZ := fun x => [row x 41 R41 x9]) hF hW H11 rfl rfl (fun hL => act_Run_c _ w (v7) x8 p2 _ h8 ((rdc_row 0 rfl) w hW).nx) (fun x a w hF hW => ?_)
  obtain ⟨v8, rfl⟩ : ∃ y, y = x := ⟨x, rfl⟩
  have hW : Stw ⟨Y, [], w0⟩ [(b1, [.int .i64 p2.1, .int .i64 p2.2.1, .int .i64 p2.2.2.1, .int .i64 p2.2.2.2])] [row v8 41 R41 x9, row v7 27 R27 x8, row v6 27 R27 ([(2, 0, 7)] : List (Int × Int × Int)), row v4 27 R27 x6] w := hW
  refine ls hF hW rfl ((y_assign hF rfl).q) (fun a w hF hW => ?_)
  refine ls_nil (c_then ?_)
  refine c_seq ?_
  refine c_seq (reg_list ?_)
  refine ls hF hW rfl ((y_move hF rfl).q) (fun a w hF hW => ?_)
  refine ls hF hW rfl ((y_len (r := R41) (l := x9) u30_ rfl hF rfl (rdc_row 0 rfl)).q) (fun a w hF hW => ?_)
  refine ls hF hW rfl ((y_eql hF rfl rfl).q) (fun a w hF hW => ?_)
  refine ls_nil (c_then ?_)
  refine c_cond hF rfl (fun hb => ?_) (fun hb => ?_)
  ·
   have H := iteT (of_decide_eq_true hb) H
   rw [hb] at hF
   clear hb
   refine c_seq (reg_list ?_)
   refine ls hF hW rfl ((y_assign hF rfl).q) (fun a w hF hW => ?_)
   refine ls_nil (c_then ?_)
   refine wr_ret ?_
   refine r_then ?_
   have H := Option.some.inj H
   subst H
   refine post1 (.inl rfl) hF hW rfl (rv_tmp hF rfl) ?_
   exact ⟨rfl, hW.done⟩
  ·
   have H := iteF (of_decide_eq_false hb) H
   rw [hb] at hF
   clear hb
   refine wr_skip ?_
   refine c_then ?_
   refine c_seq (reg_list ?_)
   iterate 2 refine ls hF hW rfl ((y_move hF rfl).q) (fun a w hF hW => ?_)
   refine ls hF hW rfl ((y_len (r := R41) (l := x9) u30_ rfl hF rfl (rdc_row 0 rfl)).q) (fun a w hF hW => ?_)
   refine ls hF hW rfl ((y_sub hF rfl rfl rfl).q) (fun a w hF hW => ?_)
   obtain ⟨x10, h9, H⟩ := bindE H
   refine ls hF hW rfl ((y_slice (r := R41) L30 hF rfl rfl rfl (rdc_row 0 rfl) h9).q) (fun a w hF hW => ?_)
   refine ls hF hW rfl ((y_assign hF rfl).q) (fun a w hF hW => ?_)
   refine ls_nil (c_then ?_)
   refine c_seq (reg_list ?_)
   refine ls hF hW rfl ((y_assign hF rfl).q) (fun a w hF hW => ?_)
   refine ls_nil (c_then ?_)
   refine c_seq (reg_list ?_)
   iterate 2 refine ls hF hW rfl ((y_move hF rfl).q) (fun a w hF hW => ?_)
   have hW := hW.nilRow 41 R41
   obtain ⟨x11, h10, H⟩ := bindE H
   refine l_append (r := R41) (i := 0) hF hW rfl L30 rfl rfl rfl rfl (Src.sub (src_row hW 1 rfl) h9) h10 rfl (fun v9 a w hF hW => ?_)
   have hW : Stw ⟨Y, [], w0⟩ [(b1, [.int .i64 p2.1, .int .i64 p2.2.1, .int .i64 p2.2.2.1, .int .i64 p2.2.2.2])] [row v9 41 R41 x11, row v8 41 R41 x9, row v7 27 R27 x8, row v6 27 R27 ([(2, 0, 7)] : List (Int × Int × Int)), row v4 27 R27 x6] w := hW
   refine ls hF hW rfl ((y_assign hF rfl).q) (fun a w hF hW => ?_)
   refine ls_nil (c_then ?_)
   refine c_seq (reg_list ?_)
   iterate 4 refine ls hF hW rfl ((y_move hF rfl).q) (fun a w hF hW => ?_)
   refine ls hF hW rfl ((y_len (r := R41) (l := x9) u30_ rfl hF rfl (rdc_row 1 rfl)).q) (fun a w hF hW => ?_)
   refine ls hF hW rfl ((y_sub hF rfl rfl rfl).q) (fun a w hF hW => ?_)
   obtain ⟨x12, h11, H⟩ := bindE H
   refine ls hF hW rfl ((y_index (r := R41) L30 hF rfl rfl (rdc_row 1 rfl) h11).q) (fun a w hF hW => ?_)
   refine ls hF hW rfl ((y_fieldAddr u41_ rfl rfl rfl T24 hF rfl (voff v8 + (w64 ((x9.length : Int) - 1)).toNat * 5 + 1) rfl).q) (fun a w hF hW => ?_)
   refine ls hF hW rfl ((y_load_el (y := Value.agg #[.int .i64 x12.2.1, .int .i64 x12.2.2.1, .int .i64 x12.2.2.2.1, .int .i64 x12.2.2.2.2]) (j := 1) (i := w64 ((x9.length : Int) - 1)) hF rfl rfl (rdc_row 1 rfl) h11 F41.to T24 rfl).q) (fun a w hF hW => ?_)
   obtain ⟨x13, h12, H⟩ := bindE H
   refine l_callG (Ml := []) (Zl := []) (M := [(b1, [.int .i64 p2.1, .int .i64 p2.2.1, .int .i64 p2.2.2.1, .int .i64 p2.2.2.2])]) (Z := [row v9 41 R41 x11, row v8 41 R41 x9, row v7 27 R27 x8, row v6 27 R27 ([(2, 0, 7)] : List (Int × Int × Int)), row v4 27 R27 x6]) (β := Value) (rv := fun x => x) (MM := fun x => []) (ZZ := fun x => [row x 41 R41 x13]) hF hW H11 rfl rfl (fun hL => act_Run_c _ w (v2) p1 x12.2 _ h12 ((rdc_ro h_v2) w hW).nx) (fun x a w hF hW => ?_)
   obtain ⟨v10, rfl⟩ : ∃ y, y = x := ⟨x, rfl⟩
   have hW : Stw ⟨Y, [], w0⟩ [(b1, [.int .i64 p2.1, .int .i64 p2.2.1, .int .i64 p2.2.2.1, .int .i64 p2.2.2.2])] [row v10 41 R41 x13, row v9 41 R41 x11, row v8 41 R41 x9, row v7 27 R27 x8, row v6 27 R27 ([(2, 0, 7)] : List (Int × Int × Int)), row v4 27 R27 x6] w := hW
   obtain ⟨x14, h13, H⟩ := bindE H
   refine l_append (r := R41) (i := 1) hF hW rfl L30 rfl rfl rfl rfl (src_row hW 0 rfl) h13 rfl (fun v11 a w hF hW => ?_)
   have hW : Stw ⟨Y, [], w0⟩ [(b1, [.int .i64 p2.1, .int .i64 p2.2.1, .int .i64 p2.2.2.1, .int .i64 p2.2.2.2])] [row v11 41 R41 x14, row v10 41 R41 x13, row v8 41 R41 x9, row v7 27 R27 x8, row v6 27 R27 ([(2, 0, 7)] : List (Int × Int × Int)), row v4 27 R27 x6] w := hW
   refine ls hF hW rfl ((y_assign hF rfl).q) (fun a w hF hW => ?_)
   refine ls_nil (c_then ?_)
   obtain ⟨o3, G3, K3⟩ := bindE H
   refine c_seqJ (fun a w => ∃ x15 : Bool, some (x15) = some o3 ∧ Fr 88 [] [(6, .bool x15)] a ∧ Stw ⟨Y, [], w0⟩ [(b1, [.int .i64 p2.1, .int .i64 p2.2.1, .int .i64 p2.2.2.1, .int .i64 p2.2.2.2])] [] w) ?_ ?_
   ·
    have H := G3
    clear G3 K3
    refine reg_list ?_
    refine ls hF hW rfl ((y_move hF rfl).q) (fun a w hF hW => ?_)
    refine ls hF hW rfl ((y_load (v := Value.agg #[.int .i64 p2.1, .int .i64 p2.2.1, .int .i64 p2.2.2.1, .int .i64 p2.2.2.2]) 0 hF rfl rfl T24 rfl).q) (fun a w hF hW => ?_)
    obtain ⟨x16, h14, H⟩ := bindE H
    refine l_callG (Ml := []) (Zl := []) (M := [(b1, [.int .i64 p2.1, .int .i64 p2.2.1, .int .i64 p2.2.2.1, .int .i64 p2.2.2.2])]) (Z := [row v11 41 R41 x14, row v10 41 R41 x13, row v8 41 R41 x9, row v7 27 R27 x8, row v6 27 R27 ([(2, 0, 7)] : List (Int × Int × Int)), row v4 27 R27 x6]) (β := Value) (rv := fun x => x) (MM := fun x => []) (ZZ := fun x => [row x 41 R41 x16]) hF hW H11 rfl rfl (fun hL => act_Run_c _ w (v1) p0 p2 _ h14 ((rdc_ro h_v1) w hW).nx) (fun x a w hF hW => ?_)
    obtain ⟨v12, rfl⟩ : ∃ y, y = x := ⟨x, rfl⟩
    have hW : Stw ⟨Y, [], w0⟩ [(b1, [.int .i64 p2.1, .int .i64 p2.2.1, .int .i64 p2.2.2.1, .int .i64 p2.2.2.2])] [row v12 41 R41 x16, row v11 41 R41 x14, row v10 41 R41 x13, row v8 41 R41 x9, row v7 27 R27 x8, row v6 27 R27 ([(2, 0, 7)] : List (Int × Int × Int)), row v4 27 R27 x6] w := hW
    refine ls hF hW rfl ((y_move hF rfl).q) (fun a w hF hW => ?_)
    obtain ⟨x17, h15, H⟩ := bindE H
    refine ls hF hW rfl (y_call (v := Value.bool x17) hF H10 rfl (fun w hW => r09_Sent_c any w (v12) ((slSub v8 (0 : Int) (w64 ((x9.length : Int) - 1)) 5)) x16 x10 _ h15 (((rdc_row 0 rfl) : Rdc _ _ _ _ _ _) w hW).nx (((rdc_sub (rdc_row 3 rfl) h9) : Rdc _ _ _ _ _ _) w hW).nx)) (fun a w hF hW => ?_)
    refine ls hF hW rfl ((y_move hF rfl).q) (fun a w hF hW => ?_)
    rcases Bool.eq_false_or_eq_true x17 with hb | hb
    ·
     have H := iteT hb H
     rw [hb] at hF
     clear hb
     refine ls_w hF hW (wanted_y hF rfl rfl rfl rfl) rfl (Nat.le_of_ble_eq_true rfl) ((y_move hF rfl).q) (fun a w hF hW => ?_)
     refine ls_w hF hW (wanted_y hF rfl rfl rfl rfl) rfl (Nat.le_of_ble_eq_true rfl) ((y_load (v := Value.agg #[.int .i64 p2.1, .int .i64 p2.2.1, .int .i64 p2.2.2.1, .int .i64 p2.2.2.2]) 0 hF rfl rfl T24 rfl).q) (fun a w hF hW => ?_)
     refine ls_g (wanted_y hF rfl rfl rfl rfl) ?_
     obtain ⟨x18, h16, H⟩ := bindE H
     refine l_callG (Ml := []) (Zl := []) (M := [(b1, [.int .i64 p2.1, .int .i64 p2.2.1, .int .i64 p2.2.2.1, .int .i64 p2.2.2.2])]) (Z := [row v12 41 R41 x16, row v11 41 R41 x14, row v10 41 R41 x13, row v8 41 R41 x9, row v7 27 R27 x8, row v6 27 R27 ([(2, 0, 7)] : List (Int × Int × Int)), row v4 27 R27 x6]) (β := Value) (rv := fun x => x) (MM := fun x => []) (ZZ := fun x => [row x 41 R41 x18]) hF hW H11 rfl rfl (fun hL => act_Run_c _ w (v4) x6 p2 _ h16 ((rdc_row 6 rfl) w hW).nx) (fun x a w hF hW => ?_)
     obtain ⟨v13, rfl⟩ : ∃ y, y = x := ⟨x, rfl⟩
     have hW : Stw ⟨Y, [], w0⟩ [(b1, [.int .i64 p2.1, .int .i64 p2.2.1, .int .i64 p2.2.2.1, .int .i64 p2.2.2.2])] [row v13 41 R41 x18, row v12 41 R41 x16, row v11 41 R41 x14, row v10 41 R41 x13, row v8 41 R41 x9, row v7 27 R27 x8, row v6 27 R27 ([(2, 0, 7)] : List (Int × Int × Int)), row v4 27 R27 x6] w := hW
     refine ls_w hF hW (wanted_y hF rfl rfl rfl rfl) rfl (Nat.le_of_ble_eq_true rfl) ((y_move hF rfl).q) (fun a w hF hW => ?_)
     refine ls_g (wanted_y hF rfl rfl rfl rfl) ?_
     obtain ⟨x19, h17, H⟩ := bindE H
     refine ls hF hW rfl (y_call (v := Value.bool x19) hF H10 rfl (fun w hW => r09_Sent_c any w (v13) (v11) x18 x14 _ h17 (((rdc_row 0 rfl) : Rdc _ _ _ _ _ _) w hW).nx (((rdc_row 2 rfl) : Rdc _ _ _ _ _ _) w hW).nx)) (fun a w hF hW => ?_)
     refine ls hF hW rfl ((y_pick_t hF rfl rfl rfl).q) (fun a w hF hW => ?_)
     refine ls hF hW rfl ((y_move hF rfl).q) (fun a w hF hW => ?_)
     rcases Bool.eq_false_or_eq_true x19 with hb | hb
     ·
      have H := iteT hb H
      rw [hb] at hF
      clear hb
      refine ls_g (wanted_y hF rfl rfl rfl rfl) ?_
      obtain ⟨x20, h18, H⟩ := bindE H
      refine ls hF hW rfl (y_call (v := Value.bool x20) hF H7 rfl (fun w hW => L09_awake_c any w _ h18 (hG.go0 hW))) (fun a w hF hW => ?_)
      refine ls hF hW rfl ((y_pick_t hF rfl rfl rfl).q) (fun a w hF hW => ?_)
      refine ls hF hW rfl ((y_assign hF rfl).q) (fun a w hF hW => ?_)
      refine ls_nil (c_then ?_)
      have hW := hW.sub (M' := [(b1, [.int .i64 p2.1, .int .i64 p2.2.1, .int .i64 p2.2.2.1, .int .i64 p2.2.2.2])]) (Z' := []) (List.Sublist.refl _) (List.nil_sublist _)
      exact ⟨_, H, hF.re ⟨rfl, trivial⟩, hW⟩
     ·
      have H := iteF (by rw [hb]; decide) H
      rw [hb] at hF
      clear hb
      refine lsn hF rfl rfl rfl rfl rfl rfl rfl (fun a hF => ?_)
      refine ls hF hW rfl ((y_pick_f hF rfl rfl rfl).q) (fun a w hF hW => ?_)
      refine ls hF hW rfl ((y_assign hF rfl).q) (fun a w hF hW => ?_)
      refine ls_nil (c_then ?_)
      have hW := hW.sub (M' := [(b1, [.int .i64 p2.1, .int .i64 p2.2.1, .int .i64 p2.2.2.1, .int .i64 p2.2.2.2])]) (Z' := []) (List.Sublist.refl _) (List.nil_sublist _)
      exact ⟨_, H, hF.re ⟨rfl, trivial⟩, hW⟩
    ·
     have H := iteF (by rw [hb]; decide) H
     rw [hb] at hF
     clear hb
     iterate 5 refine lsn hF rfl rfl rfl rfl rfl rfl rfl (fun a hF => ?_)
     refine ls hF hW rfl ((y_pick_f hF rfl rfl rfl).q) (fun a w hF hW => ?_)
     refine ls hF hW rfl ((y_move hF rfl).q) (fun a w hF hW => ?_)
     refine lsn hF rfl rfl rfl rfl rfl rfl rfl (fun a hF => ?_)
     refine ls hF hW rfl ((y_pick_f hF rfl rfl rfl).q) (fun a w hF hW => ?_)
     refine ls hF hW rfl ((y_assign hF rfl).q) (fun a w hF hW => ?_)
     refine ls_nil (c_then ?_)
     have hW := hW.sub (M' := [(b1, [.int .i64 p2.1, .int .i64 p2.2.1, .int .i64 p2.2.2.1, .int .i64 p2.2.2.2])]) (Z' := []) (List.Sublist.refl _) (List.nil_sublist _)
     exact ⟨_, H, hF.re ⟨rfl, trivial⟩, hW⟩
   rintro a w ⟨x15, hj, hF, hW⟩
   have hj := Option.some.inj hj
   subst hj
   have H := K3
   clear G3 K3
   refine wr_ret ?_
   have H := Option.some.inj H
   subst H
   refine post1 (.inl rfl) hF hW rfl (rv_tmp hF rfl) ?_
   exact ⟨rfl, hW.done⟩

theorem u80_ : type_of% Tryd.underlying80 := Tryd.underlying80
theorem B80 : Bt Tryd.prog 80 [.string (bs ([] : List UInt8)), .int .i64 0] [(0, 1), (1, 1)] := ⟨⟨.agg #[.string (bs ([] : List UInt8)), .int .i64 0], by kernel_rfl, rfl⟩, ⟨_, u80_, fun w => by kernel_rfl⟩⟩
def octet_Open (p0 : List UInt8) : (List UInt8 × Int) := (p0, 0)
theorem octet_Open_c (Y : Nat → Prop) (w0 : World)  (p0 : List UInt8) (r : (List UInt8 × Int)) (H : octet_Open p0 = r)  :
    Calls Tryd.prog 24 #[.string (bs p0)] w0 fun e w' => ∃ x : Nat, e = .returned (.pointer (some ⟨x, 0, none⟩)) ∧ Stw ⟨Y, [], w0⟩ [(x, [.string (bs r.1), .int .i64 r.2])] [] w' := by
 refine enter Tryd.func24 rfl Tryd.ntmps24 rfl (fun a hF => ?_)
 have hW := Stw.start Y w0
 unfold octet_Open at H
 refine c_seq (reg_list ?_)
 refine ls hF hW rfl ((y_assign hF rfl).q) (fun a w hF hW => ?_)
 refine ls_nil (c_then ?_)
 refine c_seq (reg_list ?_)
 refine ls hF hW rfl ((y_move hF rfl).q) (fun a w hF hW => ?_)
 refine ls hF hW rfl ((y_build (v := Value.agg #[.string (bs p0), .int .i64 0]) B80 hF rfl rfl rfl).q) (fun a w hF hW => ?_)
 refine l_box (cs := [.string (bs p0), .int .i64 0]) hF hW rfl rfl rfl (fun b1 a w hF hW => ?_)
 refine ls hF hW rfl ((y_assign hF rfl).q) (fun a w hF hW => ?_)
 refine ls_nil (c_then ?_)
 refine wr_ret ?_
 subst H
 refine post1 (.inl rfl) hF hW rfl (rv_tmp hF rfl) ?_
 exact ⟨b1, rfl, hW⟩

theorem u43_ : type_of% Tryd.underlying43 := Tryd.underlying43
theorem u47_ : type_of% Tryd.underlying47 := Tryd.underlying47
theorem H24 : Has Tryd.prog 24 := ⟨fun args w => run_callFunc_body Tryd.func24 rfl (by decide) args w⟩
theorem B47 : Bt Tryd.prog 47 [.string (bs ([] : List UInt8)), .int .i64 0, .int .i64 0] [(0, 1), (1, 1), (2, 1)] := ⟨⟨.agg #[.string (bs ([] : List UInt8)), .int .i64 0, .int .i64 0], by kernel_rfl, rfl⟩, ⟨_, u47_, fun w => by kernel_rfl⟩⟩
theorem T51 : Ty Tryd.prog 51 false 1 := ⟨by kernel_rfl, by kernel_rfl⟩
def octet_Reader_Ok (p0 : List UInt8 × Int) : Bool := decide (p0.2 = 0)
theorem octet_Reader_Ok_c (Y : Nat → Prop) (w0 : World) (q_p0 : Nat) (p0 : List UInt8 × Int) (r : Bool) (H : octet_Reader_Ok p0 = r) (a_q_p0 : At ⟨Y, [], w0⟩ q_p0 0 [.string (bs p0.1), .int .i64 p0.2]) :
    Calls Tryd.prog 50 #[.pointer (some ⟨q_p0, 0, none⟩)] w0 fun e w' => e = .returned (.bool r) ∧ Below w0.heap.size w0 w' := by
 refine enter Tryd.func50 rfl Tryd.ntmps50 rfl (fun a hF => ?_)
 have hW := Stw.start Y w0
 unfold octet_Reader_Ok at H
 refine c_seq (reg_list ?_)
 refine ls hF hW rfl ((y_assign hF rfl).q) (fun a w hF hW => ?_)
 refine ls_nil (c_then ?_)
 refine c_seq (reg_list ?_)
 refine ls hF hW rfl ((y_move hF rfl).q) (fun a w hF hW => ?_)
 refine ls hF hW rfl ((y_pne_some_nil u43_ hF rfl rfl).q) (fun a w hF hW => ?_)
 refine ls hF hW rfl ((y_move hF rfl).q) (fun a w hF hW => ?_)
 refine ls_w hF hW (wanted_y hF rfl rfl rfl rfl) rfl (Nat.le_of_ble_eq_true rfl) ((y_move hF rfl).q) (fun a w hF hW => ?_)
 refine ls_w hF hW (wanted_y hF rfl rfl rfl rfl) rfl (Nat.le_of_ble_eq_true rfl) ((y_nilCheck hF rfl).q) (fun a w hF hW => ?_)
 refine ls_w hF hW (wanted_y hF rfl rfl rfl rfl) rfl (Nat.le_of_ble_eq_true rfl) ((y_fieldAddr u80_ rfl rfl rfl T51 hF rfl 1 rfl).q) (fun a w hF hW => ?_)
 refine ls_w hF hW (wanted_y hF rfl rfl rfl rfl) rfl (Nat.le_of_ble_eq_true rfl) ((y_load_at (y := Value.int .i64 p0.2) (j := 1) hF rfl (Nat.zero_add _).symm a_q_p0 T51 rfl).q) (fun a w hF hW => ?_)
 refine ls_w hF hW (wanted_y hF rfl rfl rfl rfl) rfl (Nat.le_of_ble_eq_true rfl) ((y_eql hF rfl rfl).q) (fun a w hF hW => ?_)
 refine ls hF hW rfl ((y_pick_t hF rfl rfl rfl).q) (fun a w hF hW => ?_)
 refine ls hF hW rfl ((y_assign hF rfl).q) (fun a w hF hW => ?_)
 refine ls_nil (c_then ?_)
 refine wr_ret ?_
 subst H
 refine post1 (.inl rfl) hF hW rfl (rv_tmp hF rfl) ?_
 exact ⟨rfl, hW.done⟩

theorem H50 : Has Tryd.prog 50 := ⟨fun args w => run_callFunc_body Tryd.func50 rfl (by decide) args w⟩
def octet_Reader_Wrong (p0 : List UInt8 × Int) (p1 : Int) : (List UInt8 × Int) := (if (octet_Reader_Ok p0) = true then (p0.1, p1) else p0)
theorem octet_Reader_Wrong_c (Y : Nat → Prop) (X : List Nat) (w0 : World) (q_p0 : Nat) (p0 : List UInt8 × Int) (p1 : Int) (r : (List UInt8 × Int)) (H : octet_Reader_Wrong p0 p1 = r) (hL : Stw ⟨Y, X, w0⟩ [(q_p0, [.string (bs p0.1), .int .i64 p0.2])] [] w0) :
    Calls Tryd.prog 49 #[.pointer (some ⟨q_p0, 0, none⟩), .int .i64 p1] w0 fun e w' => ∃ x : Unit, e = .returned (.tuple #[]) ∧ Stw ⟨Y, X, w0⟩ [(q_p0, [.string (bs r.1), .int .i64 r.2])] [] w' := by
 refine enter Tryd.func49 rfl Tryd.ntmps49 rfl (fun a hF => ?_)
 have hW := hL
 unfold octet_Reader_Wrong at H
 refine c_seq (reg_list ?_)
 refine ls hF hW rfl ((y_move hF rfl).q) (fun a w hF hW => ?_)
 refine ls hF hW rfl (y_call (v := Value.bool (octet_Reader_Ok p0)) hF H50 rfl (fun w hW => octet_Reader_Ok_c any w q_p0 p0 _ rfl (at_M hW 0 rfl))) (fun a w hF hW => ?_)
 refine ls_nil (c_then ?_)
 refine c_cond hF rfl (fun hb => ?_) (fun hb => ?_)
 ·
  have H := iteT hb H
  rw [hb] at hF
  clear hb
  refine reg_list ?_
  iterate 2 refine ls hF hW rfl ((y_move hF rfl).q) (fun a w hF hW => ?_)
  refine ls hF hW rfl ((y_nilCheck hF rfl).q) (fun a w hF hW => ?_)
  refine ls hF hW rfl ((y_fieldAddr u80_ rfl rfl rfl T51 hF rfl 1 rfl).q) (fun a w hF hW => ?_)
  refine l_store (vs := [.int .i64 p1]) (M' := [(q_p0, [.string (bs p0.1), .int .i64 p1])]) 0 hF hW rfl rfl rfl T51 rfl rfl rfl rfl rfl (fun w hW => ?_)
  refine ls_nil ?_
  subst H
  refine post0 (.inr rfl) hF rfl ?_
  exact ⟨(), rfl, hW⟩
 ·
  have H := iteF (by rw [hb]; decide) H
  rw [hb] at hF
  clear hb
  refine wr_skip ?_
  subst H
  refine post0 (.inr rfl) hF rfl ?_
  exact ⟨(), rfl, hW⟩

theorem H49 : Has Tryd.prog 49 := ⟨fun args w => run_callFunc_body Tryd.func49 rfl (by decide) args w⟩
def octet_Reader_Left (p0 : List UInt8 × Int) : Int := (if (!(octet_Reader_Ok p0)) = true then 0 else (p0.1.length : Int))
theorem octet_Reader_Left_c (Y : Nat → Prop) (w0 : World) (q_p0 : Nat) (p0 : List UInt8 × Int) (r : Int) (H : octet_Reader_Left p0 = r) (a_q_p0 : At ⟨Y, [], w0⟩ q_p0 0 [.string (bs p0.1), .int .i64 p0.2]) :
    Calls Tryd.prog 27 #[.pointer (some ⟨q_p0, 0, none⟩)] w0 fun e w' => e = .returned (.int .i64 r) ∧ Below w0.heap.size w0 w' := by
 refine enter Tryd.func27 rfl Tryd.ntmps27 rfl (fun a hF => ?_)
 have hW := Stw.start Y w0
 unfold octet_Reader_Left at H
 refine c_seq (reg_list ?_)
 refine ls hF hW rfl ((y_assign hF rfl).q) (fun a w hF hW => ?_)
 refine ls_nil (c_then ?_)
 refine c_seq ?_
 refine c_seq (reg_list ?_)
 refine ls hF hW rfl ((y_move hF rfl).q) (fun a w hF hW => ?_)
 refine ls hF hW rfl (y_call (v := Value.bool (octet_Reader_Ok p0)) hF H50 rfl (fun w hW => octet_Reader_Ok_c any w q_p0 p0 _ rfl (At.re a_q_p0 hW))) (fun a w hF hW => ?_)
 refine ls hF hW rfl ((y_not hF rfl).q) (fun a w hF hW => ?_)
 refine ls_nil (c_then ?_)
 refine c_cond hF rfl (fun hb => ?_) (fun hb => ?_)
 ·
  have H := iteT hb H
  rw [hb] at hF
  clear hb
  refine c_seq (reg_list ?_)
  refine ls hF hW rfl ((y_assign hF rfl).q) (fun a w hF hW => ?_)
  refine ls_nil (c_then ?_)
  refine wr_ret ?_
  refine r_then ?_
  subst H
  refine post1 (.inl rfl) hF hW rfl (rv_tmp hF rfl) ?_
  exact ⟨rfl, hW.done⟩
 ·
  have H := iteF (by rw [hb]; decide) H
  rw [hb] at hF
  clear hb
  refine wr_skip ?_
  refine c_then ?_
  refine c_seq (reg_list ?_)
  refine ls hF hW rfl ((y_move hF rfl).q) (fun a w hF hW => ?_)
  refine ls hF hW rfl ((y_nilCheck hF rfl).q) (fun a w hF hW => ?_)
  refine ls hF hW rfl ((y_fieldAddr u80_ rfl rfl rfl T9 hF rfl 0 rfl).q) (fun a w hF hW => ?_)
  refine ls hF hW rfl ((y_load_at (y := Value.string (bs p0.1)) (j := 0) hF rfl (Nat.zero_add _).symm a_q_p0 T9 rfl).q) (fun a w hF hW => ?_)
  refine ls hF hW rfl ((y_slen (l := p0.1) u9_ rfl hF rfl).q) (fun a w hF hW => ?_)
  refine ls hF hW rfl ((y_assign hF rfl).q) (fun a w hF hW => ?_)
  refine ls_nil (c_then ?_)
  refine wr_ret ?_
  subst H
  refine post1 (.inl rfl) hF hW rfl (rv_tmp hF rfl) ?_
  exact ⟨rfl, hW.done⟩

theorem H27 : Has Tryd.prog 27 := ⟨fun args w => run_callFunc_body Tryd.func27 rfl (by decide) args w⟩
noncomputable def octet_Reader_Take (p0 : List UInt8 × Int) (p1 : Int) : Option (List UInt8 × (List UInt8 × Int)) := (if p1 < 0 then some ((octet_Reader_Wrong p0 2).1, (octet_Reader_Wrong p0 2).2) else (if (octet_Reader_Left p0) < p1 then some ((octet_Reader_Wrong p0 3).1, (octet_Reader_Wrong p0 3).2) else some (p0.1, p0.2))).bind fun (x1, x2) => (if (!(octet_Reader_Ok (x1, x2))) = true then some (([] : List UInt8), (x1, x2)) else (subl x1 0 p1).bind fun x3 => (subl x1 p1 (x1.length : Int)).bind fun x4 => some (x3, (x4, x2)))
theorem octet_Reader_Take_c (Y : Nat → Prop) (X : List Nat) (w0 : World) (q_p0 : Nat) (p0 : List UInt8 × Int) (p1 : Int) (r : List UInt8 × (List UInt8 × Int)) (H : octet_Reader_Take p0 p1 = some r) (hL : Stw ⟨Y, X, w0⟩ [(q_p0, [.string (bs p0.1), .int .i64 p0.2])] [] w0) :
    Calls Tryd.prog 71 #[.pointer (some ⟨q_p0, 0, none⟩), .int .i64 p1] w0 fun e w' => ∃ x : Unit, e = .returned (.string (bs r.1)) ∧ Stw ⟨Y, X, w0⟩ [(q_p0, [.string (bs r.2.1), .int .i64 r.2.2])] [] w' := by
 refine enter Tryd.func71 rfl Tryd.ntmps71 rfl (fun a hF => ?_)
 have hW := hL
 unfold octet_Reader_Take at H
 refine c_seq (reg_list ?_)
 refine ls hF hW rfl ((y_assign (v := Value.string (bs ([] : List UInt8))) hF rfl).q) (fun a w hF hW => ?_)
 refine ls_nil (c_then ?_)
 obtain ⟨o1, G1, K1⟩ := bindE H
 refine c_seqJ (fun a w => ∃ x1 : List UInt8, ∃ x2 : Int, some ((x1, x2)) = some o1 ∧ Fr 37 [] [(0, .pointer (some ⟨q_p0, 0, none⟩)), (1, .int .i64 p1), (4, .string (bs ([] : List UInt8)))] a ∧ Stw ⟨Y, X, w0⟩ [(q_p0, [.string (bs x1), .int .i64 x2])] [] w) ?_ ?_
 ·
  have H := G1
  clear G1 K1
  refine wr_block ?_
  refine c_seq (reg_list ?_)
  refine ls hF hW rfl ((y_move hF rfl).q) (fun a w hF hW => ?_)
  refine ls hF hW rfl ((y_lss hF rfl rfl).q) (fun a w hF hW => ?_)
  refine ls hF hW rfl ((y_assign hF rfl).q) (fun a w hF hW => ?_)
  refine ls_nil (c_then ?_)
  refine c_cond hF rfl (fun hb => ?_) (fun hb => ?_)
  ·
   have H := iteT (of_decide_eq_true hb) H
   rw [hb] at hF
   clear hb
   refine reg_list ?_
   refine ls hF hW rfl ((y_move hF rfl).q) (fun a w hF hW => ?_)
   refine l_callG (Ml := [(q_p0, [.string (bs p0.1), .int .i64 p0.2])]) (Zl := []) (M := []) (Z := []) (β := Unit) (rv := fun x => .tuple #[]) (MM := fun x => [(q_p0, [.string (bs ((octet_Reader_Wrong p0 2).1)), .int .i64 ((octet_Reader_Wrong p0 2).2)])]) (ZZ := fun x => []) hF hW H49 rfl rfl (fun hL => octet_Reader_Wrong_c _ _ w q_p0 p0 2 _ rfl hL) (fun x a w hF hW => ?_)
   have hW : Stw ⟨Y, X, w0⟩ [(q_p0, [.string (bs ((octet_Reader_Wrong p0 2).1)), .int .i64 ((octet_Reader_Wrong p0 2).2)])] [] w := hW
   refine ls_nil ?_
   refine b_normal ?_
   refine c_then ?_
   exact ⟨_, _, H, hF.re ⟨rfl, rfl, rfl, trivial⟩, hW⟩
  ·
   have H := iteF (of_decide_eq_false hb) H
   rw [hb] at hF
   clear hb
   refine c_seq (reg_list ?_)
   iterate 2 refine ls hF hW rfl ((y_move hF rfl).q) (fun a w hF hW => ?_)
   refine ls hF hW rfl (y_call (v := Value.int .i64 (octet_Reader_Left p0)) hF H27 rfl (fun w hW => octet_Reader_Left_c any w q_p0 p0 _ rfl (at_M hW 0 rfl))) (fun a w hF hW => ?_)
   refine ls hF hW rfl ((y_gtr hF rfl rfl).q) (fun a w hF hW => ?_)
   refine ls hF hW rfl ((y_assign hF rfl).q) (fun a w hF hW => ?_)
   refine ls_nil (c_then ?_)
   refine c_cond hF rfl (fun hb => ?_) (fun hb => ?_)
   ·
    have H := iteT (of_decide_eq_true hb) H
    rw [hb] at hF
    clear hb
    refine reg_list ?_
    refine ls hF hW rfl ((y_move hF rfl).q) (fun a w hF hW => ?_)
    refine l_callG (Ml := [(q_p0, [.string (bs p0.1), .int .i64 p0.2])]) (Zl := []) (M := []) (Z := []) (β := Unit) (rv := fun x => .tuple #[]) (MM := fun x => [(q_p0, [.string (bs ((octet_Reader_Wrong p0 3).1)), .int .i64 ((octet_Reader_Wrong p0 3).2)])]) (ZZ := fun x => []) hF hW H49 rfl rfl (fun hL => octet_Reader_Wrong_c _ _ w q_p0 p0 3 _ rfl hL) (fun x a w hF hW => ?_)
    have hW : Stw ⟨Y, X, w0⟩ [(q_p0, [.string (bs ((octet_Reader_Wrong p0 3).1)), .int .i64 ((octet_Reader_Wrong p0 3).2)])] [] w := hW
    refine ls_nil ?_
    refine b_normal ?_
    refine c_then ?_
    exact ⟨_, _, H, hF.re ⟨rfl, rfl, rfl, trivial⟩, hW⟩
   ·
    have H := iteF (of_decide_eq_false hb) H
    rw [hb] at hF
    clear hb
    refine wr_skip ?_
    refine b_normal ?_
    refine c_then ?_
    exact ⟨_, _, H, hF.re ⟨rfl, rfl, rfl, trivial⟩, hW⟩
 rintro a w ⟨x1, x2, hj, hF, hW⟩
 have hj := Option.some.inj hj
 subst hj
 have H := K1
 clear G1 K1
 refine c_seq ?_
 refine c_seq (reg_list ?_)
 refine ls hF hW rfl ((y_move hF rfl).q) (fun a w hF hW => ?_)
 refine ls hF hW rfl (y_call (v := Value.bool (octet_Reader_Ok (x1, x2))) hF H50 rfl (fun w hW => octet_Reader_Ok_c any w q_p0 (x1, x2) _ rfl (at_M hW 0 rfl))) (fun a w hF hW => ?_)
 refine ls hF hW rfl ((y_not hF rfl).q) (fun a w hF hW => ?_)
 refine ls_nil (c_then ?_)
 refine c_cond hF rfl (fun hb => ?_) (fun hb => ?_)
 ·
  have H := iteT hb H
  rw [hb] at hF
  clear hb
  refine c_seq (reg_list ?_)
  refine ls hF hW rfl ((y_assign (v := Value.string (bs ([] : List UInt8))) hF rfl).q) (fun a w hF hW => ?_)
  refine ls_nil (c_then ?_)
  refine wr_ret ?_
  refine r_then ?_
  have H := Option.some.inj H
  subst H
  refine post1 (.inl rfl) hF hW rfl (rv_tmp hF rfl) ?_
  exact ⟨(), rfl, hW⟩
 ·
  have H := iteF (by rw [hb]; decide) H
  rw [hb] at hF
  clear hb
  refine wr_skip ?_
  refine c_then ?_
  refine c_seq (reg_list ?_)
  refine ls hF hW rfl ((y_move hF rfl).q) (fun a w hF hW => ?_)
  refine ls hF hW rfl ((y_nilCheck hF rfl).q) (fun a w hF hW => ?_)
  refine ls hF hW rfl ((y_fieldAddr u80_ rfl rfl rfl T9 hF rfl 0 rfl).q) (fun a w hF hW => ?_)
  refine ls hF hW rfl ((y_load (v := Value.string (bs x1)) 0 hF rfl rfl T9 rfl).q) (fun a w hF hW => ?_)
  refine ls hF hW rfl ((y_move hF rfl).q) (fun a w hF hW => ?_)
  obtain ⟨x3, h1, H⟩ := bindE H
  refine ls hF hW rfl ((y_sslice (l := x1) u9_ hF rfl rfl rfl h1).q) (fun a w hF hW => ?_)
  refine ls hF hW rfl ((y_assign hF rfl).q) (fun a w hF hW => ?_)
  refine ls_nil (c_then ?_)
  refine c_seq (reg_list ?_)
  iterate 2 refine ls hF hW rfl ((y_move hF rfl).q) (fun a w hF hW => ?_)
  refine ls hF hW rfl ((y_nilCheck hF rfl).q) (fun a w hF hW => ?_)
  refine ls hF hW rfl ((y_fieldAddr u80_ rfl rfl rfl T9 hF rfl 0 rfl).q) (fun a w hF hW => ?_)
  refine ls hF hW rfl ((y_load (v := Value.string (bs x1)) 0 hF rfl rfl T9 rfl).q) (fun a w hF hW => ?_)
  refine ls hF hW rfl ((y_move hF rfl).q) (fun a w hF hW => ?_)
  obtain ⟨x4, h2, H⟩ := bindE H
  refine ls hF hW rfl ((y_sslice (l := x1) u9_ hF rfl rfl rfl h2).q) (fun a w hF hW => ?_)
  refine ls hF hW rfl ((y_nilCheck hF rfl).q) (fun a w hF hW => ?_)
  refine ls hF hW rfl ((y_fieldAddr u80_ rfl rfl rfl T9 hF rfl 0 rfl).q) (fun a w hF hW => ?_)
  refine l_store (vs := [.string (bs x4)]) (M' := [(q_p0, [.string (bs x4), .int .i64 x2])]) 0 hF hW rfl rfl rfl T9 rfl rfl rfl rfl rfl (fun w hW => ?_)
  refine ls_nil (c_then ?_)
  refine c_seq (reg_list ?_)
  refine ls hF hW rfl ((y_move hF rfl).q) (fun a w hF hW => ?_)
  refine ls hF hW rfl ((y_assign hF rfl).q) (fun a w hF hW => ?_)
  refine ls_nil (c_then ?_)
  refine wr_ret ?_
  have H := Option.some.inj H
  subst H
  refine post1 (.inl rfl) hF hW rfl (rv_tmp hF rfl) ?_
  exact ⟨(), rfl, hW⟩

theorem H71 : Has Tryd.prog 71 := ⟨fun args w => run_callFunc_body Tryd.func71 rfl (by decide) args w⟩
noncomputable def octet_Reader_read_l1 (x1 : List UInt8 × (List UInt8 × Int)) : (Int × Int) → Option ((Int × Int) ⊕ Int)
  | (x3, x4) => (if x4 < (x1.1.length : Int) then (ix x1.1 x4).bind fun x5 => some (.inl (orI .i64 (shlI .i64 x3 8) (w64 (x5.toNat : Int)), w64 (x4 + 1))) else some (.inr x3))
noncomputable def octet_Reader_read (p0 : List UInt8 × Int) (p1 : Int) : Option (Int × (List UInt8 × Int)) := (octet_Reader_Take p0 p1).bind fun x1 => (loopW (octet_Reader_read_l1 x1) (0, 0)).bind fun x2 => some (x2, x1.2)
theorem octet_Reader_read_c (Y : Nat → Prop) (X : List Nat) (w0 : World) (q_p0 : Nat) (p0 : List UInt8 × Int) (p1 : Int) (r : Int × (List UInt8 × Int)) (H : octet_Reader_read p0 p1 = some r) (hL : Stw ⟨Y, X, w0⟩ [(q_p0, [.string (bs p0.1), .int .i64 p0.2])] [] w0) :
    Calls Tryd.prog 65 #[.pointer (some ⟨q_p0, 0, none⟩), .int .i64 p1] w0 fun e w' => ∃ x : Unit, e = .returned (.int .i64 r.1) ∧ Stw ⟨Y, X, w0⟩ [(q_p0, [.string (bs r.2.1), .int .i64 r.2.2])] [] w' := by
 refine enter Tryd.func65 rfl Tryd.ntmps65 rfl (fun a hF => ?_)
 have hW := hL
 unfold octet_Reader_read at H
 refine c_seq (reg_list ?_)
 refine ls hF hW rfl ((y_assign hF rfl).q) (fun a w hF hW => ?_)
 refine ls_nil (c_then ?_)
 refine c_seq (reg_list ?_)
 iterate 2 refine ls hF hW rfl ((y_move hF rfl).q) (fun a w hF hW => ?_)
 obtain ⟨x1, h1, H⟩ := bindE H
 refine l_callG (Ml := [(q_p0, [.string (bs p0.1), .int .i64 p0.2])]) (Zl := []) (M := []) (Z := []) (β := Unit) (rv := fun x => .string (bs x1.1)) (MM := fun x => [(q_p0, [.string (bs x1.2.1), .int .i64 x1.2.2])]) (ZZ := fun x => []) hF hW H71 rfl rfl (fun hL => octet_Reader_Take_c _ _ w q_p0 p0 p1 _ h1 hL) (fun x a w hF hW => ?_)
 have hW : Stw ⟨Y, X, w0⟩ [(q_p0, [.string (bs x1.2.1), .int .i64 x1.2.2])] [] w := hW
 refine ls hF hW rfl ((y_assign hF rfl).q) (fun a w hF hW => ?_)
 refine ls_nil (c_then ?_)
 refine c_seq (reg_list ?_)
 refine ls hF hW rfl ((y_assign hF rfl).q) (fun a w hF hW => ?_)
 refine ls_nil (c_then ?_)
 obtain ⟨o1, G1, K1⟩ := bindE H
 refine c_seqJ (fun a w => ∃ x2 : Int, some (x2) = some o1 ∧ Fr 25 [] [(4, .int .i64 0), (6, .int .i64 x2)] a ∧ Stw ⟨Y, X, w0⟩ [(q_p0, [.string (bs x1.2.1), .int .i64 x1.2.2])] [] w) ?_ ?_
 ·
  have H := G1
  clear G1 K1
  refine c_seq (reg_list ?_)
  refine ls hF hW rfl ((y_move hF rfl).q) (fun a w hF hW => ?_)
  refine ls hF hW rfl ((y_slen (l := x1.1) u9_ rfl hF rfl).q) (fun a w hF hW => ?_)
  refine ls hF hW rfl ((y_move hF rfl).q) (fun a w hF hW => ?_)
  refine ls_nil (c_then ?_)
  refine wr_block ?_
  refine c_loopW H (fun s a w => Fr 25 [] [(4, .int .i64 0), (5, .string (bs x1.1)), (6, .int .i64 s.1), (12, .int .i64 (x1.1.length : Int)), (13, .int .i64 s.2)] a ∧ Stw ⟨Y, X, w0⟩ [(q_p0, [.string (bs x1.2.1), .int .i64 x1.2.2])] [] w) ⟨hF.re ⟨rfl, rfl, rfl, rfl, rfl, trivial⟩, hW⟩ (fun s o a w H L2 hR => ?_)
  obtain ⟨x3, x4⟩ := s
  obtain ⟨hF, hW⟩ := hR
  have hF : Fr 25 [] [(4, .int .i64 0), (5, .string (bs x1.1)), (6, .int .i64 x3), (12, .int .i64 (x1.1.length : Int)), (13, .int .i64 x4)] a := hF
  have hW : Stw ⟨Y, X, w0⟩ [(q_p0, [.string (bs x1.2.1), .int .i64 x1.2.2])] [] w := hW
  rw [octet_Reader_read_l1] at H
  refine c_seq (reg_list ?_)
  refine ls hF hW rfl ((y_lss hF rfl rfl).q) (fun a w hF hW => ?_)
  refine ls_nil (c_then ?_)
  refine c_seq ?_
  refine c_cond hF rfl (fun hb => ?_) (fun hb => ?_)
  ·
   have H := iteT (of_decide_eq_true hb) H
   rw [hb] at hF
   clear hb
   refine wr_skip ?_
   refine c_then ?_
   refine c_seq ?_
   refine wr_block ?_
   refine c_seq (reg_list ?_)
   refine ls hF hW rfl ((y_move hF rfl).q) (fun a w hF hW => ?_)
   refine ls hF hW rfl ((y_assign hF rfl).q) (fun a w hF hW => ?_)
   refine ls_nil (c_then ?_)
   refine reg_list ?_
   refine ls hF hW rfl ((y_move hF rfl).q) (fun a w hF hW => ?_)
   refine ls hF hW rfl ((y_shl hF rfl rfl (by decide)).q) (fun a w hF hW => ?_)
   iterate 2 refine ls hF hW rfl ((y_move hF rfl).q) (fun a w hF hW => ?_)
   obtain ⟨x5, h2, H⟩ := bindE H
   refine ls hF hW rfl ((y_sindex (l := x1.1) u9_ hF rfl rfl h2).q) (fun a w hF hW => ?_)
   refine ls hF hW rfl ((y_convI u5_ u3_ hF rfl).q) (fun a w hF hW => ?_)
   refine ls hF hW rfl ((y_or hF rfl rfl).q) (fun a w hF hW => ?_)
   refine ls hF hW rfl ((y_assign hF rfl).q) (fun a w hF hW => ?_)
   refine ls_nil ?_
   refine b_normal ?_
   refine c_then ?_
   refine reg_list ?_
   refine ls hF hW rfl ((y_add hF rfl rfl rfl).q) (fun a w hF hW => ?_)
   refine ls hF hW rfl ((y_move hF rfl).q) (fun a w hF hW => ?_)
   refine ls_nil (c_then ?_)
   exact ⟨_, H, hF.re ⟨rfl, rfl, rfl, rfl, rfl, trivial⟩, hW⟩
  ·
   have H := iteF (of_decide_eq_false hb) H
   rw [hb] at hF
   clear hb
   refine wr_exit ?_
   iterate 2 refine e_then ?_
   refine e_block ?_
   refine c_then ?_
   have H := L2 _ H
   exact ⟨_, H, hF.re ⟨rfl, rfl, trivial⟩, hW⟩
 rintro a w ⟨x2, hj, hF, hW⟩
 have hj := Option.some.inj hj
 subst hj
 have H := K1
 clear G1 K1
 refine c_seq (reg_list ?_)
 refine ls hF hW rfl ((y_move hF rfl).q) (fun a w hF hW => ?_)
 refine ls hF hW rfl ((y_assign hF rfl).q) (fun a w hF hW => ?_)
 refine ls_nil (c_then ?_)
 refine wr_ret ?_
 have H := Option.some.inj H
 subst H
 refine post1 (.inl rfl) hF hW rfl (rv_tmp hF rfl) ?_
 exact ⟨(), rfl, hW⟩

theorem H65 : Has Tryd.prog 65 := ⟨fun args w => run_callFunc_body Tryd.func65 rfl (by decide) args w⟩
noncomputable def octet_Reader_Num (p0 : List UInt8 × Int) (p1 : Int) : Option (Int × (List UInt8 × Int)) := (if (decide (p1 < 1) || decide (7 < p1)) = true then some ((octet_Reader_Wrong p0 2).1, (octet_Reader_Wrong p0 2).2) else some (p0.1, p0.2)).bind fun (x1, x2) => (octet_Reader_read (x1, x2) p1).bind fun x3 => some (x3.1, x3.2)
theorem octet_Reader_Num_c (Y : Nat → Prop) (X : List Nat) (w0 : World) (q_p0 : Nat) (p0 : List UInt8 × Int) (p1 : Int) (r : Int × (List UInt8 × Int)) (H : octet_Reader_Num p0 p1 = some r) (hL : Stw ⟨Y, X, w0⟩ [(q_p0, [.string (bs p0.1), .int .i64 p0.2])] [] w0) :
    Calls Tryd.prog 48 #[.pointer (some ⟨q_p0, 0, none⟩), .int .i64 p1] w0 fun e w' => ∃ x : Unit, e = .returned (.int .i64 r.1) ∧ Stw ⟨Y, X, w0⟩ [(q_p0, [.string (bs r.2.1), .int .i64 r.2.2])] [] w' := by
 refine enter Tryd.func48 rfl Tryd.ntmps48 rfl (fun a hF => ?_)
 have hW := hL
 unfold octet_Reader_Num at H
 refine c_seq (reg_list ?_)
 refine ls hF hW rfl ((y_assign hF rfl).q) (fun a w hF hW => ?_)
 refine ls_nil (c_then ?_)
 obtain ⟨o1, G1, K1⟩ := bindE H
 refine c_seqJ (fun a w => ∃ x1 : List UInt8, ∃ x2 : Int, some ((x1, x2)) = some o1 ∧ Fr 16 [] [(0, .pointer (some ⟨q_p0, 0, none⟩)), (1, .int .i64 p1), (4, .int .i64 0)] a ∧ Stw ⟨Y, X, w0⟩ [(q_p0, [.string (bs x1), .int .i64 x2])] [] w) ?_ ?_
 ·
  have H := G1
  clear G1 K1
  refine c_seqJ (fun a w => Fr 16 [] [(0, .pointer (some ⟨q_p0, 0, none⟩)), (1, .int .i64 p1), (4, .int .i64 0), (10, .bool (decide (p1 < 1) || decide (7 < p1)))] a ∧ Stw ⟨Y, X, w0⟩ [(q_p0, [.string (bs p0.1), .int .i64 p0.2])] [] w) ?_ ?_
  ·
   refine reg_list ?_
   refine ls hF hW rfl ((y_move hF rfl).q) (fun a w hF hW => ?_)
   refine ls hF hW rfl ((y_lss hF rfl rfl).q) (fun a w hF hW => ?_)
   refine ls hF hW rfl ((y_move hF rfl).q) (fun a w hF hW => ?_)
   rcases Bool.eq_false_or_eq_true (decide (p1 < 1)) with hb0 | hb0
   ·
    rw [hb0] at hF
    iterate 2 refine lsn hF rfl rfl rfl rfl rfl rfl rfl (fun a hF => ?_)
    refine ls hF hW rfl ((y_pick_t hF rfl rfl rfl).q) (fun a w hF hW => ?_)
    refine ls_nil (c_then ?_)
    exact ⟨hF.re ⟨rfl, rfl, rfl, (by show some (Value.bool true) = some (Value.bool (decide (p1 < 1) || decide (7 < p1))); try rw [hb0]; all_goals simp only [Bool.not_true, Bool.not_false, Bool.true_and, Bool.false_and, Bool.true_or, Bool.false_or, Bool.and_true, Bool.or_false, cond_true, cond_false]), trivial⟩, hW⟩
   ·
    rw [hb0] at hF
    refine ls_w hF hW (wanted_y hF rfl rfl rfl rfl) rfl (Nat.le_of_ble_eq_true rfl) ((y_move hF rfl).q) (fun a w hF hW => ?_)
    refine ls_w hF hW (wanted_y hF rfl rfl rfl rfl) rfl (Nat.le_of_ble_eq_true rfl) ((y_gtr hF rfl rfl).q) (fun a w hF hW => ?_)
    refine ls hF hW rfl ((y_pick_f hF rfl rfl rfl).q) (fun a w hF hW => ?_)
    refine ls_nil (c_then ?_)
    exact ⟨hF.re ⟨rfl, rfl, rfl, (by show some (Value.bool (decide (7 < p1))) = some (Value.bool (decide (p1 < 1) || decide (7 < p1))); try rw [hb0]; all_goals simp only [Bool.not_true, Bool.not_false, Bool.true_and, Bool.false_and, Bool.true_or, Bool.false_or, Bool.and_true, Bool.or_false, cond_true, cond_false]), trivial⟩, hW⟩
  rintro a w ⟨hF, hW⟩
  refine c_cond hF rfl (fun hb => ?_) (fun hb => ?_)
  ·
   have H := iteT hb H
   rw [hb] at hF
   clear hb
   refine reg_list ?_
   refine ls hF hW rfl ((y_move hF rfl).q) (fun a w hF hW => ?_)
   refine l_callG (Ml := [(q_p0, [.string (bs p0.1), .int .i64 p0.2])]) (Zl := []) (M := []) (Z := []) (β := Unit) (rv := fun x => .tuple #[]) (MM := fun x => [(q_p0, [.string (bs ((octet_Reader_Wrong p0 2).1)), .int .i64 ((octet_Reader_Wrong p0 2).2)])]) (ZZ := fun x => []) hF hW H49 rfl rfl (fun hL => octet_Reader_Wrong_c _ _ w q_p0 p0 2 _ rfl hL) (fun x a w hF hW => ?_)
   have hW : Stw ⟨Y, X, w0⟩ [(q_p0, [.string (bs ((octet_Reader_Wrong p0 2).1)), .int .i64 ((octet_Reader_Wrong p0 2).2)])] [] w := hW
   refine ls_nil (c_then ?_)
   exact ⟨_, _, H, hF.re ⟨rfl, rfl, rfl, trivial⟩, hW⟩
  ·
   have H := iteF (by rw [hb]; decide) H
   rw [hb] at hF
   clear hb
   refine wr_skip ?_
   refine c_then ?_
   exact ⟨_, _, H, hF.re ⟨rfl, rfl, rfl, trivial⟩, hW⟩
 rintro a w ⟨x1, x2, hj, hF, hW⟩
 have hj := Option.some.inj hj
 subst hj
 have H := K1
 clear G1 K1
 refine c_seq (reg_list ?_)
 iterate 2 refine ls hF hW rfl ((y_move hF rfl).q) (fun a w hF hW => ?_)
 obtain ⟨x3, h1, H⟩ := bindE H
 refine l_callG (Ml := [(q_p0, [.string (bs x1), .int .i64 x2])]) (Zl := []) (M := []) (Z := []) (β := Unit) (rv := fun x => .int .i64 x3.1) (MM := fun x => [(q_p0, [.string (bs x3.2.1), .int .i64 x3.2.2])]) (ZZ := fun x => []) hF hW H65 rfl rfl (fun hL => octet_Reader_read_c _ _ w q_p0 (x1, x2) p1 _ h1 hL) (fun x a w hF hW => ?_)
 have hW : Stw ⟨Y, X, w0⟩ [(q_p0, [.string (bs x3.2.1), .int .i64 x3.2.2])] [] w := hW
 refine ls hF hW rfl ((y_assign hF rfl).q) (fun a w hF hW => ?_)
 refine ls_nil (c_then ?_)
 refine wr_ret ?_
 have H := Option.some.inj H
 subst H
 refine post1 (.inl rfl) hF hW rfl (rv_tmp hF rfl) ?_
 exact ⟨(), rfl, hW⟩

theorem H48 : Has Tryd.prog 48 := ⟨fun args w => run_callFunc_body Tryd.func48 rfl (by decide) args w⟩
noncomputable def octet_Reader_Count (p0 : List UInt8 × Int) (p1 : Int) : Option (Int × (List UInt8 × Int)) := (octet_Reader_Num p0 1).bind fun x1 => (if p1 < x1.1 then some ((octet_Reader_Wrong x1.2 6).1, (octet_Reader_Wrong x1.2 6).2) else some (x1.2.1, x1.2.2)).bind fun (x2, x3) => (if (!(octet_Reader_Ok (x2, x3))) = true then some (0, (x2, x3)) else some (x1.1, (x2, x3)))
theorem octet_Reader_Count_c (Y : Nat → Prop) (X : List Nat) (w0 : World) (q_p0 : Nat) (p0 : List UInt8 × Int) (p1 : Int) (r : Int × (List UInt8 × Int)) (H : octet_Reader_Count p0 p1 = some r) (hL : Stw ⟨Y, X, w0⟩ [(q_p0, [.string (bs p0.1), .int .i64 p0.2])] [] w0) :
    Calls Tryd.prog 47 #[.pointer (some ⟨q_p0, 0, none⟩), .int .i64 p1] w0 fun e w' => ∃ x : Unit, e = .returned (.int .i64 r.1) ∧ Stw ⟨Y, X, w0⟩ [(q_p0, [.string (bs r.2.1), .int .i64 r.2.2])] [] w' := by
 refine enter Tryd.func47 rfl Tryd.ntmps47 rfl (fun a hF => ?_)
 have hW := hL
 unfold octet_Reader_Count at H
 refine c_seq (reg_list ?_)
 refine ls hF hW rfl ((y_assign hF rfl).q) (fun a w hF hW => ?_)
 refine ls_nil (c_then ?_)
 refine c_seq (reg_list ?_)
 refine ls hF hW rfl ((y_move hF rfl).q) (fun a w hF hW => ?_)
 obtain ⟨x1, h1, H⟩ := bindE H
 refine l_callG (Ml := [(q_p0, [.string (bs p0.1), .int .i64 p0.2])]) (Zl := []) (M := []) (Z := []) (β := Unit) (rv := fun x => .int .i64 x1.1) (MM := fun x => [(q_p0, [.string (bs x1.2.1), .int .i64 x1.2.2])]) (ZZ := fun x => []) hF hW H48 rfl rfl (fun hL => octet_Reader_Num_c _ _ w q_p0 p0 1 _ h1 hL) (fun x a w hF hW => ?_)
 have hW : Stw ⟨Y, X, w0⟩ [(q_p0, [.string (bs x1.2.1), .int .i64 x1.2.2])] [] w := hW
 refine ls hF hW rfl ((y_assign hF rfl).q) (fun a w hF hW => ?_)
 refine ls_nil (c_then ?_)
 obtain ⟨o1, G1, K1⟩ := bindE H
 refine c_seqJ (fun a w => ∃ x2 : List UInt8, ∃ x3 : Int, some ((x2, x3)) = some o1 ∧ Fr 17 [] [(0, .pointer (some ⟨q_p0, 0, none⟩)), (4, .int .i64 0), (5, .int .i64 x1.1)] a ∧ Stw ⟨Y, X, w0⟩ [(q_p0, [.string (bs x2), .int .i64 x3])] [] w) ?_ ?_
 ·
  have H := G1
  clear G1 K1
  refine c_seq (reg_list ?_)
  iterate 2 refine ls hF hW rfl ((y_move hF rfl).q) (fun a w hF hW => ?_)
  refine ls hF hW rfl ((y_gtr hF rfl rfl).q) (fun a w hF hW => ?_)
  refine ls_nil (c_then ?_)
  refine c_cond hF rfl (fun hb => ?_) (fun hb => ?_)
  ·
   have H := iteT (of_decide_eq_true hb) H
   rw [hb] at hF
   clear hb
   refine reg_list ?_
   refine ls hF hW rfl ((y_move hF rfl).q) (fun a w hF hW => ?_)
   refine l_callG (Ml := [(q_p0, [.string (bs x1.2.1), .int .i64 x1.2.2])]) (Zl := []) (M := []) (Z := []) (β := Unit) (rv := fun x => .tuple #[]) (MM := fun x => [(q_p0, [.string (bs ((octet_Reader_Wrong x1.2 6).1)), .int .i64 ((octet_Reader_Wrong x1.2 6).2)])]) (ZZ := fun x => []) hF hW H49 rfl rfl (fun hL => octet_Reader_Wrong_c _ _ w q_p0 x1.2 6 _ rfl hL) (fun x a w hF hW => ?_)
   have hW : Stw ⟨Y, X, w0⟩ [(q_p0, [.string (bs ((octet_Reader_Wrong x1.2 6).1)), .int .i64 ((octet_Reader_Wrong x1.2 6).2)])] [] w := hW
   refine ls_nil (c_then ?_)
   exact ⟨_, _, H, hF.re ⟨rfl, rfl, rfl, trivial⟩, hW⟩
  ·
   have H := iteF (of_decide_eq_false hb) H
   rw [hb] at hF
   clear hb
   refine wr_skip ?_
   refine c_then ?_
   exact ⟨_, _, H, hF.re ⟨rfl, rfl, rfl, trivial⟩, hW⟩
 rintro a w ⟨x2, x3, hj, hF, hW⟩
 have hj := Option.some.inj hj
 subst hj
 have H := K1
 clear G1 K1
 refine c_seq ?_
 refine c_seq (reg_list ?_)
 refine ls hF hW rfl ((y_move hF rfl).q) (fun a w hF hW => ?_)
 refine ls hF hW rfl (y_call (v := Value.bool (octet_Reader_Ok (x2, x3))) hF H50 rfl (fun w hW => octet_Reader_Ok_c any w q_p0 (x2, x3) _ rfl (at_M hW 0 rfl))) (fun a w hF hW => ?_)
 refine ls hF hW rfl ((y_not hF rfl).q) (fun a w hF hW => ?_)
 refine ls_nil (c_then ?_)
 refine c_cond hF rfl (fun hb => ?_) (fun hb => ?_)
 ·
  have H := iteT hb H
  rw [hb] at hF
  clear hb
  refine c_seq (reg_list ?_)
  refine ls hF hW rfl ((y_assign hF rfl).q) (fun a w hF hW => ?_)
  refine ls_nil (c_then ?_)
  refine wr_ret ?_
  refine r_then ?_
  have H := Option.some.inj H
  subst H
  refine post1 (.inl rfl) hF hW rfl (rv_tmp hF rfl) ?_
  exact ⟨(), rfl, hW⟩
 ·
  have H := iteF (by rw [hb]; decide) H
  rw [hb] at hF
  clear hb
  refine wr_skip ?_
  refine c_then ?_
  refine c_seq (reg_list ?_)
  refine ls hF hW rfl ((y_move hF rfl).q) (fun a w hF hW => ?_)
  refine ls hF hW rfl ((y_assign hF rfl).q) (fun a w hF hW => ?_)
  refine ls_nil (c_then ?_)
  refine wr_ret ?_
  have H := Option.some.inj H
  subst H
  refine post1 (.inl rfl) hF hW rfl (rv_tmp hF rfl) ?_
  exact ⟨(), rfl, hW⟩

theorem H47 : Has Tryd.prog 47 := ⟨fun args w => run_callFunc_body Tryd.func47 rfl (by decide) args w⟩
noncomputable def act_Read_l1 (p1 : Int) (x4 : Int × (List UInt8 × Int)) : ((List (Int × Int × Int)) × Int × List UInt8 × Int) → Option (((List (Int × Int × Int)) × Int × List UInt8 × Int) ⊕ ((List (Int × Int × Int)) × List UInt8 × Int))
  | (x5, x6, x7, x8) => (if x6 < x4.1 then (octet_Reader_Num (x7, x8) 1).bind fun x9 => (octet_Reader_Num x9.2 1).bind fun x10 => (octet_Reader_Num x10.2 1).bind fun x11 => ((act_right (x9.1, x10.1, x11.1) p1).bind fun x14 => (if (!x14) = true then some ((octet_Reader_Wrong x11.2 2).1, (octet_Reader_Wrong x11.2 2).2) else some (x11.2.1, x11.2.2))).bind fun (x12, x13) => (app x5 ([(x9.1, x10.1, x11.1)] : List (Int × Int × Int))).bind fun x15 => some (.inl (x15, w64 (x6 + 1), x12, x13)) else some (.inr (x5, x7, x8)))
noncomputable def act_Read (p0 : List UInt8 × Int) (p1 : Int) : Option ((List (Int × Int × Int)) × (List UInt8 × Int)) := ((octet_Reader_Count p0 16).bind fun x4 => loopW (act_Read_l1 p1 x4) ([], 0, x4.2.1, x4.2.2)).bind fun (x1, x2, x3) => (if (!(octet_Reader_Ok (x2, x3))) = true then some (([] : List (Int × Int × Int)), (x2, x3)) else some (x1, (x2, x3)))
theorem act_Read_c (Y : Nat → Prop) (X : List Nat) (w0 : World) (q_p0 : Nat) (p0 : List UInt8 × Int) (p1 : Int) (r : (List (Int × Int × Int)) × (List UInt8 × Int)) (H : act_Read p0 p1 = some r) (hL : Stw ⟨Y, X, w0⟩ [(q_p0, [.string (bs p0.1), .int .i64 p0.2])] [] w0) :
    Calls Tryd.prog 25 #[.pointer (some ⟨q_p0, 0, none⟩), .int .i64 p1] w0 fun e w' => ∃ x : Value, e = .returned (x) ∧ Stw ⟨Y, X, w0⟩ [(q_p0, [.string (bs r.2.1), .int .i64 r.2.2])] [row (x) 27 R27 r.1] w' := by
 refine enter Tryd.func25 rfl Tryd.ntmps25 rfl (fun a hF => ?_)
 have hW := hL
 unfold act_Read at H
 refine c_seq (reg_list ?_)
 refine ls hF hW rfl ((y_assign hF rfl).q) (fun a w hF hW => ?_)
 refine ls_nil (c_then ?_)
 refine c_seq (reg_list ?_)
 refine ls hF hW rfl ((y_assign hF rfl).q) (fun a w hF hW => ?_)
 refine ls_nil (c_then ?_)
 obtain ⟨o1, G1, K1⟩ := bindE H
 refine c_seqJ (fun a w => ∃ x1 : List (Int × Int × Int), ∃ x2 : List UInt8, ∃ x3 : Int, ∃ v1 : Value, some ((x1, x2, x3)) = some o1 ∧ Fr 39 [] [(0, .pointer (some ⟨q_p0, 0, none⟩)), (4, .slice none 0 0), (5, v1)] a ∧ Stw ⟨Y, X, w0⟩ [(q_p0, [.string (bs x2), .int .i64 x3])] [row v1 27 R27 x1] w) ?_ ?_
 ·
  have H := G1
  clear G1 K1
  refine c_seq (reg_list ?_)
  refine ls hF hW rfl ((y_move hF rfl).q) (fun a w hF hW => ?_)
  obtain ⟨x4, h1, H⟩ := bindE H
  refine l_callG (Ml := [(q_p0, [.string (bs p0.1), .int .i64 p0.2])]) (Zl := []) (M := []) (Z := []) (β := Unit) (rv := fun x => .int .i64 x4.1) (MM := fun x => [(q_p0, [.string (bs x4.2.1), .int .i64 x4.2.2])]) (ZZ := fun x => []) hF hW H47 rfl rfl (fun hL => octet_Reader_Count_c _ _ w q_p0 p0 16 _ h1 hL) (fun x a w hF hW => ?_)
  have hW : Stw ⟨Y, X, w0⟩ [(q_p0, [.string (bs x4.2.1), .int .i64 x4.2.2])] [] w := hW
  refine ls hF hW rfl ((y_move hF rfl).q) (fun a w hF hW => ?_)
  refine ls_nil (c_then ?_)
  refine wr_block ?_
  have hW := hW.nilRow 27 R27
  refine c_loopW H (fun s a w => ∃ v2 : Value, Fr 39 [] [(0, .pointer (some ⟨q_p0, 0, none⟩)), (1, .int .i64 p1), (4, .slice none 0 0), (5, v2), (11, .int .i64 x4.1), (12, .int .i64 s.2.1)] a ∧ Stw ⟨Y, X, w0⟩ [(q_p0, [.string (bs s.2.2.1), .int .i64 s.2.2.2])] [row v2 27 R27 s.1] w) ⟨(Value.slice none 0 0), hF.re ⟨rfl, rfl, rfl, rfl, rfl, rfl, trivial⟩, hW⟩ (fun s o a w H L2 hR => ?_)
  obtain ⟨x5, x6, x7, x8⟩ := s
  obtain ⟨v2, hF, hW⟩ := hR
  have hF : Fr 39 [] [(0, .pointer (some ⟨q_p0, 0, none⟩)), (1, .int .i64 p1), (4, .slice none 0 0), (5, v2), (11, .int .i64 x4.1), (12, .int .i64 x6)] a := hF
  have hW : Stw ⟨Y, X, w0⟩ [(q_p0, [.string (bs x7), .int .i64 x8])] [row v2 27 R27 x5] w := hW
  rw [act_Read_l1] at H
  refine c_seq (reg_list ?_)
  refine ls hF hW rfl ((y_lss hF rfl rfl).q) (fun a w hF hW => ?_)
  refine ls_nil (c_then ?_)
  refine c_seq ?_
  refine c_cond hF rfl (fun hb => ?_) (fun hb => ?_)
  ·
   have H := iteT (of_decide_eq_true hb) H
   rw [hb] at hF
   clear hb
   refine wr_skip ?_
   refine c_then ?_
   refine c_seq ?_
   refine wr_block ?_
   refine c_seq (reg_list ?_)
   refine ls hF hW rfl ((y_move hF rfl).q) (fun a w hF hW => ?_)
   obtain ⟨x9, h2, H⟩ := bindE H
   refine l_callG (Ml := [(q_p0, [.string (bs x7), .int .i64 x8])]) (Zl := []) (M := []) (Z := [row v2 27 R27 x5]) (β := Unit) (rv := fun x => .int .i64 x9.1) (MM := fun x => [(q_p0, [.string (bs x9.2.1), .int .i64 x9.2.2])]) (ZZ := fun x => []) hF hW H48 rfl rfl (fun hL => octet_Reader_Num_c _ _ w q_p0 (x7, x8) 1 _ h2 hL) (fun x a w hF hW => ?_)
   have hW : Stw ⟨Y, X, w0⟩ [(q_p0, [.string (bs x9.2.1), .int .i64 x9.2.2])] [row v2 27 R27 x5] w := hW
   refine ls hF hW rfl ((y_assign hF rfl).q) (fun a w hF hW => ?_)
   refine ls_nil (c_then ?_)
   refine c_seq (reg_list ?_)
   refine ls hF hW rfl ((y_move hF rfl).q) (fun a w hF hW => ?_)
   obtain ⟨x10, h3, H⟩ := bindE H
   refine l_callG (Ml := [(q_p0, [.string (bs x9.2.1), .int .i64 x9.2.2])]) (Zl := []) (M := []) (Z := [row v2 27 R27 x5]) (β := Unit) (rv := fun x => .int .i64 x10.1) (MM := fun x => [(q_p0, [.string (bs x10.2.1), .int .i64 x10.2.2])]) (ZZ := fun x => []) hF hW H48 rfl rfl (fun hL => octet_Reader_Num_c _ _ w q_p0 x9.2 1 _ h3 hL) (fun x a w hF hW => ?_)
   have hW : Stw ⟨Y, X, w0⟩ [(q_p0, [.string (bs x10.2.1), .int .i64 x10.2.2])] [row v2 27 R27 x5] w := hW
   refine ls hF hW rfl ((y_assign hF rfl).q) (fun a w hF hW => ?_)
   refine ls_nil (c_then ?_)
   refine c_seq (reg_list ?_)
   refine ls hF hW rfl ((y_move hF rfl).q) (fun a w hF hW => ?_)
   obtain ⟨x11, h4, H⟩ := bindE H
   refine l_callG (Ml := [(q_p0, [.string (bs x10.2.1), .int .i64 x10.2.2])]) (Zl := []) (M := []) (Z := [row v2 27 R27 x5]) (β := Unit) (rv := fun x => .int .i64 x11.1) (MM := fun x => [(q_p0, [.string (bs x11.2.1), .int .i64 x11.2.2])]) (ZZ := fun x => []) hF hW H48 rfl rfl (fun hL => octet_Reader_Num_c _ _ w q_p0 x10.2 1 _ h4 hL) (fun x a w hF hW => ?_)
   have hW : Stw ⟨Y, X, w0⟩ [(q_p0, [.string (bs x11.2.1), .int .i64 x11.2.2])] [row v2 27 R27 x5] w := hW
   refine ls hF hW rfl ((y_assign hF rfl).q) (fun a w hF hW => ?_)
   refine ls_nil (c_then ?_)
   refine c_seq (reg_list ?_)
   iterate 3 refine ls hF hW rfl ((y_move hF rfl).q) (fun a w hF hW => ?_)
   refine ls hF hW rfl ((y_build (v := Value.agg #[.int .i64 x9.1, .int .i64 x10.1, .int .i64 x11.1]) B27 hF rfl rfl rfl).q) (fun a w hF hW => ?_)
   refine l_alloc (cs := [.int .i64 0, .int .i64 0, .int .i64 0]) hF hW rfl Z27 rfl (fun b1 a w hF hW => ?_)
   refine l_store (vs := [.int .i64 x9.1, .int .i64 x10.1, .int .i64 x11.1]) (M' := [(b1, [.int .i64 x9.1, .int .i64 x10.1, .int .i64 x11.1]), (q_p0, [.string (bs x11.2.1), .int .i64 x11.2.2])]) 0 hF hW rfl rfl rfl T27 rfl rfl rfl rfl rfl (fun w hW => ?_)
   refine ls_nil (c_then ?_)
   obtain ⟨o3, G3, K3⟩ := bindE H
   refine c_seqJ (fun a w => ∃ x12 : List UInt8, ∃ x13 : Int, some ((x12, x13)) = some o3 ∧ Fr 39 [] [(0, .pointer (some ⟨q_p0, 0, none⟩)), (1, .int .i64 p1), (4, .slice none 0 0), (5, v2), (9, .pointer (some ⟨b1, 0, none⟩)), (11, .int .i64 x4.1), (12, .int .i64 x6)] a ∧ Stw ⟨Y, X, w0⟩ [(b1, [.int .i64 x9.1, .int .i64 x10.1, .int .i64 x11.1]), (q_p0, [.string (bs x12), .int .i64 x13])] [row v2 27 R27 x5] w) ?_ ?_
   ·
    have H := G3
    clear G3 K3
    refine c_seq (reg_list ?_)
    refine ls hF hW rfl ((y_load (v := Value.agg #[.int .i64 x9.1, .int .i64 x10.1, .int .i64 x11.1]) 0 hF rfl rfl T27 rfl).q) (fun a w hF hW => ?_)
    refine ls hF hW rfl ((y_move hF rfl).q) (fun a w hF hW => ?_)
    obtain ⟨x14, h5, H⟩ := bindE H
    refine ls hF hW rfl (y_call (v := Value.bool x14) hF H31 rfl (fun w hW => act_right_c any w (x9.1, x10.1, x11.1) p1 _ h5)) (fun a w hF hW => ?_)
    refine ls hF hW rfl ((y_not hF rfl).q) (fun a w hF hW => ?_)
    refine ls_nil (c_then ?_)
    refine c_cond hF rfl (fun hb => ?_) (fun hb => ?_)
    ·
     have H := iteT hb H
     rw [hb] at hF
     clear hb
     refine reg_list ?_
     refine ls hF hW rfl ((y_move hF rfl).q) (fun a w hF hW => ?_)
     have hW := hW.frontM (i := 1) rfl rfl
     refine l_callG (Ml := [(q_p0, [.string (bs x11.2.1), .int .i64 x11.2.2])]) (Zl := []) (M := [(b1, [.int .i64 x9.1, .int .i64 x10.1, .int .i64 x11.1])]) (Z := [row v2 27 R27 x5]) (β := Unit) (rv := fun x => .tuple #[]) (MM := fun x => [(q_p0, [.string (bs ((octet_Reader_Wrong x11.2 2).1)), .int .i64 ((octet_Reader_Wrong x11.2 2).2)])]) (ZZ := fun x => []) hF hW H49 rfl rfl (fun hL => octet_Reader_Wrong_c _ _ w q_p0 x11.2 2 _ rfl hL) (fun x a w hF hW => ?_)
     have hW : Stw ⟨Y, X, w0⟩ [(q_p0, [.string (bs ((octet_Reader_Wrong x11.2 2).1)), .int .i64 ((octet_Reader_Wrong x11.2 2).2)]), (b1, [.int .i64 x9.1, .int .i64 x10.1, .int .i64 x11.1])] [row v2 27 R27 x5] w := hW
     refine ls_nil (c_then ?_)
     have hW := hW.frontM (i := 1) rfl rfl
     exact ⟨_, _, H, hF.re ⟨rfl, rfl, rfl, rfl, rfl, rfl, rfl, trivial⟩, hW⟩
    ·
     have H := iteF (by rw [hb]; decide) H
     rw [hb] at hF
     clear hb
     refine wr_skip ?_
     refine c_then ?_
     have hW := hW.frontM (i := 1) rfl rfl
     have hW := hW.frontM (i := 1) rfl rfl
     exact ⟨_, _, H, hF.re ⟨rfl, rfl, rfl, rfl, rfl, rfl, rfl, trivial⟩, hW⟩
   rintro a w ⟨x12, x13, hj, hF, hW⟩
   have hj := Option.some.inj hj
   subst hj
   have H := K3
   clear G3 K3
   refine reg_list ?_
   refine ls hF hW rfl ((y_move hF rfl).q) (fun a w hF hW => ?_)
   refine ls hF hW rfl ((y_load (v := Value.agg #[.int .i64 x9.1, .int .i64 x10.1, .int .i64 x11.1]) 0 hF rfl rfl T27 rfl).q) (fun a w hF hW => ?_)
   refine l_lit (z := Value.agg #[.int .i64 0, .int .i64 0, .int .i64 0]) (cs := [.int .i64 x9.1, .int .i64 x10.1, .int .i64 x11.1]) R27 ([(x9.1, x10.1, x11.1)] : List (Int × Int × Int)) hF hW rfl L22 Z27 rfl rfl rfl rfl rfl rfl (F27.repL _ _ ([(x9.1, x10.1, x11.1)] : List (Int × Int × Int))) (fun v3 a w hF hW => ?_)
   obtain ⟨x15, h6, H⟩ := bindE H
   refine l_append (r := R27) (i := 1) hF hW rfl L22 rfl rfl rfl rfl (src_row hW 0 rfl) h6 rfl (fun v4 a w hF hW => ?_)
   have hW : Stw ⟨Y, X, w0⟩ [(b1, [.int .i64 x9.1, .int .i64 x10.1, .int .i64 x11.1]), (q_p0, [.string (bs x12), .int .i64 x13])] [row v4 27 R27 x15, row v3 27 R27 ([(x9.1, x10.1, x11.1)] : List (Int × Int × Int))] w := hW
   refine ls hF hW rfl ((y_assign hF rfl).q) (fun a w hF hW => ?_)
   refine ls_nil ?_
   refine b_normal ?_
   refine c_then ?_
   refine reg_list ?_
   refine ls hF hW rfl ((y_add hF rfl rfl rfl).q) (fun a w hF hW => ?_)
   refine ls hF hW rfl ((y_move hF rfl).q) (fun a w hF hW => ?_)
   refine ls_nil (c_then ?_)
   have hW := hW.frontM (i := 1) rfl rfl
   have hW := hW.sub (M' := [(q_p0, [.string (bs x12), .int .i64 x13])]) (Z' := [row v4 27 R27 x15]) (List.Sublist.cons_cons _ (List.nil_sublist _)) (List.Sublist.cons_cons _ (List.nil_sublist _))
   exact ⟨_, H, (v4), hF.re ⟨rfl, rfl, rfl, rfl, rfl, rfl, trivial⟩, hW⟩
  ·
   have H := iteF (of_decide_eq_false hb) H
   rw [hb] at hF
   clear hb
   refine wr_exit ?_
   iterate 2 refine e_then ?_
   refine e_block ?_
   refine c_then ?_
   have H := L2 _ H
   exact ⟨_, _, _, (v2), H, hF.re ⟨rfl, rfl, rfl, trivial⟩, hW⟩
 rintro a w ⟨x1, x2, x3, v1, hj, hF, hW⟩
 have hj := Option.some.inj hj
 subst hj
 have H := K1
 clear G1 K1
 refine c_seq ?_
 refine c_seq (reg_list ?_)
 refine ls hF hW rfl ((y_move hF rfl).q) (fun a w hF hW => ?_)
 refine ls hF hW rfl (y_call (v := Value.bool (octet_Reader_Ok (x2, x3))) hF H50 rfl (fun w hW => octet_Reader_Ok_c any w q_p0 (x2, x3) _ rfl (at_M hW 0 rfl))) (fun a w hF hW => ?_)
 refine ls hF hW rfl ((y_not hF rfl).q) (fun a w hF hW => ?_)
 refine ls_nil (c_then ?_)
 refine c_cond hF rfl (fun hb => ?_) (fun hb => ?_)
 ·
  have H := iteT hb H
  rw [hb] at hF
  clear hb
  refine c_seq (reg_list ?_)
  refine ls hF hW rfl ((y_assign hF rfl).q) (fun a w hF hW => ?_)
  refine ls_nil (c_then ?_)
  refine wr_ret ?_
  refine r_then ?_
  have H := Option.some.inj H
  subst H
  refine post1 (.inl rfl) hF hW rfl (rv_tmp hF rfl) ?_
  have hW := hW.nilRow 27 R27
  have hW := hW.sub (M' := [(q_p0, [.string (bs x2), .int .i64 x3])]) (Z' := [row (Value.slice none 0 0) 27 R27 ([])]) (List.Sublist.refl _) (List.Sublist.cons_cons _ (List.nil_sublist _))
  exact ⟨(Value.slice none 0 0), rfl, hW⟩
 ·
  have H := iteF (by rw [hb]; decide) H
  rw [hb] at hF
  clear hb
  refine wr_skip ?_
  refine c_then ?_
  refine c_seq (reg_list ?_)
  refine ls hF hW rfl ((y_move hF rfl).q) (fun a w hF hW => ?_)
  refine ls hF hW rfl ((y_assign hF rfl).q) (fun a w hF hW => ?_)
  refine ls_nil (c_then ?_)
  refine wr_ret ?_
  have H := Option.some.inj H
  subst H
  refine post1 (.inl rfl) hF hW rfl (rv_tmp hF rfl) ?_
  exact ⟨(v1), rfl, hW⟩

theorem H25 : Has Tryd.prog 25 := ⟨fun args w => run_callFunc_body Tryd.func25 rfl (by decide) args w⟩
def r04_Reader_Wrong (p0 : List UInt8 × Int × Int) (p1 : Int) : (List UInt8 × Int × Int) := (if p0.2.2 = 0 then (p0.1, p0.2.1, p1) else p0)
theorem r04_Reader_Wrong_c (Y : Nat → Prop) (X : List Nat) (w0 : World) (q_p0 : Nat) (p0 : List UInt8 × Int × Int) (p1 : Int) (r : (List UInt8 × Int × Int)) (H : r04_Reader_Wrong p0 p1 = r) (hL : Stw ⟨Y, X, w0⟩ [(q_p0, [.string (bs p0.1), .int .i64 p0.2.1, .int .i64 p0.2.2])] [] w0) :
    Calls Tryd.prog 53 #[.pointer (some ⟨q_p0, 0, none⟩), .int .i64 p1] w0 fun e w' => ∃ x : Unit, e = .returned (.tuple #[]) ∧ Stw ⟨Y, X, w0⟩ [(q_p0, [.string (bs r.1), .int .i64 r.2.1, .int .i64 r.2.2])] [] w' := by
 refine enter Tryd.func53 rfl Tryd.ntmps53 rfl (fun a hF => ?_)
 have hW := hL
 unfold r04_Reader_Wrong at H
 refine c_seq (reg_list ?_)
 refine ls hF hW rfl ((y_move hF rfl).q) (fun a w hF hW => ?_)
 refine ls hF hW rfl ((y_nilCheck hF rfl).q) (fun a w hF hW => ?_)
 refine ls hF hW rfl ((y_fieldAddr u47_ rfl rfl rfl T3 hF rfl 2 rfl).q) (fun a w hF hW => ?_)
 refine ls hF hW rfl ((y_load (v := Value.int .i64 p0.2.2) 0 hF rfl rfl T3 rfl).q) (fun a w hF hW => ?_)
 refine ls hF hW rfl ((y_eql hF rfl rfl).q) (fun a w hF hW => ?_)
 refine ls_nil (c_then ?_)
 refine c_cond hF rfl (fun hb => ?_) (fun hb => ?_)
 ·
  have H := iteT (of_decide_eq_true hb) H
  rw [hb] at hF
  clear hb
  refine reg_list ?_
  iterate 2 refine ls hF hW rfl ((y_move hF rfl).q) (fun a w hF hW => ?_)
  refine ls hF hW rfl ((y_nilCheck hF rfl).q) (fun a w hF hW => ?_)
  refine ls hF hW rfl ((y_fieldAddr u47_ rfl rfl rfl T3 hF rfl 2 rfl).q) (fun a w hF hW => ?_)
  refine l_store (vs := [.int .i64 p1]) (M' := [(q_p0, [.string (bs p0.1), .int .i64 p0.2.1, .int .i64 p1])]) 0 hF hW rfl rfl rfl T3 rfl rfl rfl rfl rfl (fun w hW => ?_)
  refine ls_nil ?_
  subst H
  refine post0 (.inr rfl) hF rfl ?_
  exact ⟨(), rfl, hW⟩
 ·
  have H := iteF (of_decide_eq_false hb) H
  rw [hb] at hF
  clear hb
  refine wr_skip ?_
  subst H
  refine post0 (.inr rfl) hF rfl ?_
  exact ⟨(), rfl, hW⟩

theorem H53 : Has Tryd.prog 53 := ⟨fun args w => run_callFunc_body Tryd.func53 rfl (by decide) args w⟩
def r04_Reader_Left (p0 : List UInt8 × Int × Int) : Int := (if p0.2.2 ≠ 0 then 0 else w64 ((p0.1.length : Int) - p0.2.1))
theorem r04_Reader_Left_c (Y : Nat → Prop) (w0 : World) (q_p0 : Nat) (p0 : List UInt8 × Int × Int) (r : Int) (H : r04_Reader_Left p0 = r) (a_q_p0 : At ⟨Y, [], w0⟩ q_p0 0 [.string (bs p0.1), .int .i64 p0.2.1, .int .i64 p0.2.2]) :
    Calls Tryd.prog 28 #[.pointer (some ⟨q_p0, 0, none⟩)] w0 fun e w' => e = .returned (.int .i64 r) ∧ Below w0.heap.size w0 w' := by
 refine enter Tryd.func28 rfl Tryd.ntmps28 rfl (fun a hF => ?_)
 have hW := Stw.start Y w0
 unfold r04_Reader_Left at H
 refine c_seq (reg_list ?_)
 refine ls hF hW rfl ((y_assign hF rfl).q) (fun a w hF hW => ?_)
 refine ls_nil (c_then ?_)
 refine c_seq ?_
 refine c_seq (reg_list ?_)
 refine ls hF hW rfl ((y_move hF rfl).q) (fun a w hF hW => ?_)
 refine ls hF hW rfl ((y_nilCheck hF rfl).q) (fun a w hF hW => ?_)
 refine ls hF hW rfl ((y_fieldAddr u47_ rfl rfl rfl T3 hF rfl 2 rfl).q) (fun a w hF hW => ?_)
 refine ls hF hW rfl ((y_load_at (y := Value.int .i64 p0.2.2) (j := 2) hF rfl (Nat.zero_add _).symm a_q_p0 T3 rfl).q) (fun a w hF hW => ?_)
 refine ls hF hW rfl ((y_neq hF rfl rfl).q) (fun a w hF hW => ?_)
 refine ls_nil (c_then ?_)
 refine c_cond hF rfl (fun hb => ?_) (fun hb => ?_)
 ·
  have H := iteT (of_decide_eq_true hb) H
  rw [hb] at hF
  clear hb
  refine c_seq (reg_list ?_)
  refine ls hF hW rfl ((y_assign hF rfl).q) (fun a w hF hW => ?_)
  refine ls_nil (c_then ?_)
  refine wr_ret ?_
  refine r_then ?_
  subst H
  refine post1 (.inl rfl) hF hW rfl (rv_tmp hF rfl) ?_
  exact ⟨rfl, hW.done⟩
 ·
  have H := iteF (of_decide_eq_false hb) H
  rw [hb] at hF
  clear hb
  refine wr_skip ?_
  refine c_then ?_
  refine c_seq ?_
  refine reg_quiet hW MO (by kernel_rfl) ?_
  refine qs hF rfl ((y_move hF rfl).q) (fun a hF => ?_)
  refine qs hF rfl ((y_nilCheck hF rfl).q) (fun a hF => ?_)
  refine qs hF rfl ((y_fieldAddr u47_ rfl rfl rfl T9 hF rfl 0 rfl).q) (fun a hF => ?_)
  refine qs hF rfl ((y_load_at (y := Value.string (bs p0.1)) (j := 0) hF rfl (Nat.zero_add _).symm a_q_p0 T9 rfl).q) (fun a hF => ?_)
  refine qs hF rfl ((y_slen (l := p0.1) u9_ rfl hF rfl).q) (fun a hF => ?_)
  refine qs hF rfl ((y_move hF rfl).q) (fun a hF => ?_)
  refine qs hF rfl ((y_nilCheck hF rfl).q) (fun a hF => ?_)
  refine qs hF rfl ((y_fieldAddr u47_ rfl rfl rfl T3 hF rfl 1 rfl).q) (fun a hF => ?_)
  refine qs hF rfl ((y_load_at (y := Value.int .i64 p0.2.1) (j := 1) hF rfl (Nat.zero_add _).symm a_q_p0 T3 rfl).q) (fun a hF => ?_)
  refine qs hF rfl ((y_sub hF rfl rfl rfl).q) (fun a hF => ?_)
  refine qs hF rfl ((y_assign hF rfl).q) (fun a hF => ?_)
  refine quiet_end (fun w hW => ?_)
  refine c_then ?_
  refine wr_ret ?_
  subst H
  refine post1 (.inl rfl) hF hW rfl (rv_tmp hF rfl) ?_
  exact ⟨rfl, hW.done⟩

theorem H28 : Has Tryd.prog 28 := ⟨fun args w => run_callFunc_body Tryd.func28 rfl (by decide) args w⟩
noncomputable def r04_Reader_Take (p0 : List UInt8 × Int × Int) (p1 : Int) : Option (List UInt8 × (List UInt8 × Int × Int)) := (if p1 < 0 then some ((r04_Reader_Wrong p0 2).1, (r04_Reader_Wrong p0 2).2.1, (r04_Reader_Wrong p0 2).2.2) else some (p0.1, p0.2.1, p0.2.2)).bind fun (x1, x2, x3) => (if (r04_Reader_Left (x1, x2, x3)) < p1 then some ((r04_Reader_Wrong (x1, x2, x3) 3).1, (r04_Reader_Wrong (x1, x2, x3) 3).2.1, (r04_Reader_Wrong (x1, x2, x3) 3).2.2) else some (x1, x2, x3)).bind fun (x4, x5, x6) => (if x6 ≠ 0 then some (([] : List UInt8), (x4, x5, x6)) else (subl x4 (w64 ((w64 (x5 + p1)) - p1)) (w64 (x5 + p1))).bind fun x7 => some (x7, (x4, w64 (x5 + p1), x6)))
theorem r04_Reader_Take_c (Y : Nat → Prop) (X : List Nat) (w0 : World) (q_p0 : Nat) (p0 : List UInt8 × Int × Int) (p1 : Int) (r : List UInt8 × (List UInt8 × Int × Int)) (H : r04_Reader_Take p0 p1 = some r) (hL : Stw ⟨Y, X, w0⟩ [(q_p0, [.string (bs p0.1), .int .i64 p0.2.1, .int .i64 p0.2.2])] [] w0) :
    Calls Tryd.prog 66 #[.pointer (some ⟨q_p0, 0, none⟩), .int .i64 p1] w0 fun e w' => ∃ x : Unit, e = .returned (.string (bs r.1)) ∧ Stw ⟨Y, X, w0⟩ [(q_p0, [.string (bs r.2.1), .int .i64 r.2.2.1, .int .i64 r.2.2.2])] [] w' := by
 refine enter Tryd.func66 rfl Tryd.ntmps66 rfl (fun a hF => ?_)
 have hW := hL
 unfold r04_Reader_Take at H
 refine c_seq (reg_list ?_)
 refine ls hF hW rfl ((y_assign (v := Value.string (bs ([] : List UInt8))) hF rfl).q) (fun a w hF hW => ?_)
 refine ls_nil (c_then ?_)
 obtain ⟨o1, G1, K1⟩ := bindE H
 refine c_seqJ (fun a w => ∃ x1 : List UInt8, ∃ x2 : Int, ∃ x3 : Int, some ((x1, x2, x3)) = some o1 ∧ Fr 44 [] [(0, .pointer (some ⟨q_p0, 0, none⟩)), (1, .int .i64 p1), (4, .string (bs ([] : List UInt8)))] a ∧ Stw ⟨Y, X, w0⟩ [(q_p0, [.string (bs x1), .int .i64 x2, .int .i64 x3])] [] w) ?_ ?_
 ·
  have H := G1
  clear G1 K1
  refine c_seq (reg_list ?_)
  refine ls hF hW rfl ((y_move hF rfl).q) (fun a w hF hW => ?_)
  refine ls hF hW rfl ((y_lss hF rfl rfl).q) (fun a w hF hW => ?_)
  refine ls_nil (c_then ?_)
  refine c_cond hF rfl (fun hb => ?_) (fun hb => ?_)
  ·
   have H := iteT (of_decide_eq_true hb) H
   rw [hb] at hF
   clear hb
   refine reg_list ?_
   refine ls hF hW rfl ((y_move hF rfl).q) (fun a w hF hW => ?_)
   refine l_callG (Ml := [(q_p0, [.string (bs p0.1), .int .i64 p0.2.1, .int .i64 p0.2.2])]) (Zl := []) (M := []) (Z := []) (β := Unit) (rv := fun x => .tuple #[]) (MM := fun x => [(q_p0, [.string (bs ((r04_Reader_Wrong p0 2).1)), .int .i64 ((r04_Reader_Wrong p0 2).2.1), .int .i64 ((r04_Reader_Wrong p0 2).2.2)])]) (ZZ := fun x => []) hF hW H53 rfl rfl (fun hL => r04_Reader_Wrong_c _ _ w q_p0 p0 2 _ rfl hL) (fun x a w hF hW => ?_)
   have hW : Stw ⟨Y, X, w0⟩ [(q_p0, [.string (bs ((r04_Reader_Wrong p0 2).1)), .int .i64 ((r04_Reader_Wrong p0 2).2.1), .int .i64 ((r04_Reader_Wrong p0 2).2.2)])] [] w := hW
   refine ls_nil (c_then ?_)
   exact ⟨_, _, _, H, hF.re ⟨rfl, rfl, rfl, trivial⟩, hW⟩
  ·
   have H := iteF (of_decide_eq_false hb) H
   rw [hb] at hF
   clear hb
   refine wr_skip ?_
   refine c_then ?_
   exact ⟨_, _, _, H, hF.re ⟨rfl, rfl, rfl, trivial⟩, hW⟩
 rintro a w ⟨x1, x2, x3, hj, hF, hW⟩
 have hj := Option.some.inj hj
 subst hj
 have H := K1
 clear G1 K1
 obtain ⟨o2, G2, K2⟩ := bindE H
 refine c_seqJ (fun a w => ∃ x4 : List UInt8, ∃ x5 : Int, ∃ x6 : Int, some ((x4, x5, x6)) = some o2 ∧ Fr 44 [] [(0, .pointer (some ⟨q_p0, 0, none⟩)), (1, .int .i64 p1), (4, .string (bs ([] : List UInt8)))] a ∧ Stw ⟨Y, X, w0⟩ [(q_p0, [.string (bs x4), .int .i64 x5, .int .i64 x6])] [] w) ?_ ?_
 ·
  have H := G2
  clear G2 K2
  refine c_seq (reg_list ?_)
  iterate 2 refine ls hF hW rfl ((y_move hF rfl).q) (fun a w hF hW => ?_)
  refine ls hF hW rfl (y_call (v := Value.int .i64 (r04_Reader_Left (x1, x2, x3))) hF H28 rfl (fun w hW => r04_Reader_Left_c any w q_p0 (x1, x2, x3) _ rfl (at_M hW 0 rfl))) (fun a w hF hW => ?_)
  refine ls hF hW rfl ((y_gtr hF rfl rfl).q) (fun a w hF hW => ?_)
  refine ls_nil (c_then ?_)
  refine c_cond hF rfl (fun hb => ?_) (fun hb => ?_)
  ·
   have H := iteT (of_decide_eq_true hb) H
   rw [hb] at hF
   clear hb
   refine reg_list ?_
   refine ls hF hW rfl ((y_move hF rfl).q) (fun a w hF hW => ?_)
   refine l_callG (Ml := [(q_p0, [.string (bs x1), .int .i64 x2, .int .i64 x3])]) (Zl := []) (M := []) (Z := []) (β := Unit) (rv := fun x => .tuple #[]) (MM := fun x => [(q_p0, [.string (bs ((r04_Reader_Wrong (x1, x2, x3) 3).1)), .int .i64 ((r04_Reader_Wrong (x1, x2, x3) 3).2.1), .int .i64 ((r04_Reader_Wrong (x1, x2, x3) 3).2.2)])]) (ZZ := fun x => []) hF hW H53 rfl rfl (fun hL => r04_Reader_Wrong_c _ _ w q_p0 (x1, x2, x3) 3 _ rfl hL) (fun x a w hF hW => ?_)
   have hW : Stw ⟨Y, X, w0⟩ [(q_p0, [.string (bs ((r04_Reader_Wrong (x1, x2, x3) 3).1)), .int .i64 ((r04_Reader_Wrong (x1, x2, x3) 3).2.1), .int .i64 ((r04_Reader_Wrong (x1, x2, x3) 3).2.2)])] [] w := hW
   refine ls_nil (c_then ?_)
   exact ⟨_, _, _, H, hF.re ⟨rfl, rfl, rfl, trivial⟩, hW⟩
  ·
   have H := iteF (of_decide_eq_false hb) H
   rw [hb] at hF
   clear hb
   refine wr_skip ?_
   refine c_then ?_
   exact ⟨_, _, _, H, hF.re ⟨rfl, rfl, rfl, trivial⟩, hW⟩
 rintro a w ⟨x4, x5, x6, hj, hF, hW⟩
 have hj := Option.some.inj hj
 subst hj
 have H := K2
 clear G2 K2
 refine c_seq ?_
 refine c_seq (reg_list ?_)
 refine ls hF hW rfl ((y_move hF rfl).q) (fun a w hF hW => ?_)
 refine ls hF hW rfl ((y_nilCheck hF rfl).q) (fun a w hF hW => ?_)
 refine ls hF hW rfl ((y_fieldAddr u47_ rfl rfl rfl T3 hF rfl 2 rfl).q) (fun a w hF hW => ?_)
 refine ls hF hW rfl ((y_load (v := Value.int .i64 x6) 0 hF rfl rfl T3 rfl).q) (fun a w hF hW => ?_)
 refine ls hF hW rfl ((y_neq hF rfl rfl).q) (fun a w hF hW => ?_)
 refine ls_nil (c_then ?_)
 refine c_cond hF rfl (fun hb => ?_) (fun hb => ?_)
 ·
  have H := iteT (of_decide_eq_true hb) H
  rw [hb] at hF
  clear hb
  refine c_seq (reg_list ?_)
  refine ls hF hW rfl ((y_assign (v := Value.string (bs ([] : List UInt8))) hF rfl).q) (fun a w hF hW => ?_)
  refine ls_nil (c_then ?_)
  refine wr_ret ?_
  refine r_then ?_
  have H := Option.some.inj H
  subst H
  refine post1 (.inl rfl) hF hW rfl (rv_tmp hF rfl) ?_
  exact ⟨(), rfl, hW⟩
 ·
  have H := iteF (of_decide_eq_false hb) H
  rw [hb] at hF
  clear hb
  refine wr_skip ?_
  refine c_then ?_
  refine c_seq (reg_list ?_)
  iterate 2 refine ls hF hW rfl ((y_move hF rfl).q) (fun a w hF hW => ?_)
  refine ls hF hW rfl ((y_nilCheck hF rfl).q) (fun a w hF hW => ?_)
  refine ls hF hW rfl ((y_fieldAddr u47_ rfl rfl rfl T3 hF rfl 1 rfl).q) (fun a w hF hW => ?_)
  refine ls hF hW rfl ((y_load (v := Value.int .i64 x5) 0 hF rfl rfl T3 rfl).q) (fun a w hF hW => ?_)
  refine ls hF hW rfl ((y_move hF rfl).q) (fun a w hF hW => ?_)
  refine ls hF hW rfl ((y_add hF rfl rfl rfl).q) (fun a w hF hW => ?_)
  refine ls hF hW rfl ((y_nilCheck hF rfl).q) (fun a w hF hW => ?_)
  refine ls hF hW rfl ((y_fieldAddr u47_ rfl rfl rfl T3 hF rfl 1 rfl).q) (fun a w hF hW => ?_)
  refine l_store (vs := [.int .i64 (w64 (x5 + p1))]) (M' := [(q_p0, [.string (bs x4), .int .i64 (w64 (x5 + p1)), .int .i64 x6])]) 0 hF hW rfl rfl rfl T3 rfl rfl rfl rfl rfl (fun w hW => ?_)
  refine ls_nil (c_then ?_)
  refine c_seq ?_
  refine reg_quiet hW MO (by kernel_rfl) ?_
  refine qs hF rfl ((y_move hF rfl).q) (fun a hF => ?_)
  refine qs hF rfl ((y_nilCheck hF rfl).q) (fun a hF => ?_)
  refine qs hF rfl ((y_fieldAddr u47_ rfl rfl rfl T9 hF rfl 0 rfl).q) (fun a hF => ?_)
  refine qs hF rfl ((y_load (v := Value.string (bs x4)) 0 hF rfl rfl T9 rfl).q) (fun a hF => ?_)
  refine qs hF rfl ((y_move hF rfl).q) (fun a hF => ?_)
  refine qs hF rfl ((y_nilCheck hF rfl).q) (fun a hF => ?_)
  refine qs hF rfl ((y_fieldAddr u47_ rfl rfl rfl T3 hF rfl 1 rfl).q) (fun a hF => ?_)
  refine qs hF rfl ((y_load (v := Value.int .i64 (w64 (x5 + p1))) 0 hF rfl rfl T3 rfl).q) (fun a hF => ?_)
  refine qs hF rfl ((y_move hF rfl).q) (fun a hF => ?_)
  refine qs hF rfl ((y_sub hF rfl rfl rfl).q) (fun a hF => ?_)
  refine qs hF rfl ((y_move hF rfl).q) (fun a hF => ?_)
  refine qs hF rfl ((y_nilCheck hF rfl).q) (fun a hF => ?_)
  refine qs hF rfl ((y_fieldAddr u47_ rfl rfl rfl T3 hF rfl 1 rfl).q) (fun a hF => ?_)
  refine qs hF rfl ((y_load (v := Value.int .i64 (w64 (x5 + p1))) 0 hF rfl rfl T3 rfl).q) (fun a hF => ?_)
  obtain ⟨x7, h1, H⟩ := bindE H
  refine qs hF rfl ((y_sslice (l := x4) u9_ hF rfl rfl rfl h1).q) (fun a hF => ?_)
  refine qs hF rfl ((y_assign hF rfl).q) (fun a hF => ?_)
  refine quiet_end (fun w hW => ?_)
  refine c_then ?_
  refine wr_ret ?_
  have H := Option.some.inj H
  subst H
  refine post1 (.inl rfl) hF hW rfl (rv_tmp hF rfl) ?_
  exact ⟨(), rfl, hW⟩

theorem H66 : Has Tryd.prog 66 := ⟨fun args w => run_callFunc_body Tryd.func66 rfl (by decide) args w⟩
noncomputable def r04_Reader_Num_l1 (x4 : List UInt8) : (Int × Int) → Option ((Int × Int) ⊕ Int)
  | (x10, x11) => (if x11 < (x4.length : Int) then (ix x4 x11).bind fun x12 => some (.inl (w64 ((w64 (x10 * 256)) + (w64 (x12.toNat : Int))), w64 (x11 + 1))) else some (.inr x10))
noncomputable def r04_Reader_Num (p0 : List UInt8 × Int × Int) (p1 : Int) : Option (Int × (List UInt8 × Int × Int)) := (if (decide (p1 < 1) || decide (7 < p1)) = true then some ((r04_Reader_Wrong p0 2).1, (r04_Reader_Wrong p0 2).2.1, (r04_Reader_Wrong p0 2).2.2) else some (p0.1, p0.2.1, p0.2.2)).bind fun (x1, x2, x3) => (if x3 = 0 then (r04_Reader_Take (x1, x2, x3) p1).bind fun x8 => some (x8.1, x8.2.1, x8.2.2.1, x8.2.2.2) else some (([] : List UInt8), x1, x2, x3)).bind fun (x4, x5, x6, x7) => (loopW (r04_Reader_Num_l1 x4) (0, 0)).bind fun x9 => some (x9, (x5, x6, x7))
theorem r04_Reader_Num_c (Y : Nat → Prop) (X : List Nat) (w0 : World) (q_p0 : Nat) (p0 : List UInt8 × Int × Int) (p1 : Int) (r : Int × (List UInt8 × Int × Int)) (H : r04_Reader_Num p0 p1 = some r) (hL : Stw ⟨Y, X, w0⟩ [(q_p0, [.string (bs p0.1), .int .i64 p0.2.1, .int .i64 p0.2.2])] [] w0) :
    Calls Tryd.prog 52 #[.pointer (some ⟨q_p0, 0, none⟩), .int .i64 p1] w0 fun e w' => ∃ x : Unit, e = .returned (.int .i64 r.1) ∧ Stw ⟨Y, X, w0⟩ [(q_p0, [.string (bs r.2.1), .int .i64 r.2.2.1, .int .i64 r.2.2.2])] [] w' := by
 refine enter Tryd.func52 rfl Tryd.ntmps52 rfl (fun a hF => ?_)
 have hW := hL
 unfold r04_Reader_Num at H
 refine c_seq (reg_list ?_)
 refine ls hF hW rfl ((y_assign hF rfl).q) (fun a w hF hW => ?_)
 refine ls_nil (c_then ?_)
 obtain ⟨o1, G1, K1⟩ := bindE H
 refine c_seqJ (fun a w => ∃ x1 : List UInt8, ∃ x2 : Int, ∃ x3 : Int, some ((x1, x2, x3)) = some o1 ∧ Fr 38 [] [(0, .pointer (some ⟨q_p0, 0, none⟩)), (1, .int .i64 p1), (4, .int .i64 0)] a ∧ Stw ⟨Y, X, w0⟩ [(q_p0, [.string (bs x1), .int .i64 x2, .int .i64 x3])] [] w) ?_ ?_
 ·
  have H := G1
  clear G1 K1
  refine c_seqJ (fun a w => Fr 38 [] [(0, .pointer (some ⟨q_p0, 0, none⟩)), (1, .int .i64 p1), (4, .int .i64 0), (13, .bool (decide (p1 < 1) || decide (7 < p1)))] a ∧ Stw ⟨Y, X, w0⟩ [(q_p0, [.string (bs p0.1), .int .i64 p0.2.1, .int .i64 p0.2.2])] [] w) ?_ ?_
  ·
   refine reg_list ?_
   refine ls hF hW rfl ((y_move hF rfl).q) (fun a w hF hW => ?_)
   refine ls hF hW rfl ((y_lss hF rfl rfl).q) (fun a w hF hW => ?_)
   refine ls hF hW rfl ((y_move hF rfl).q) (fun a w hF hW => ?_)
   rcases Bool.eq_false_or_eq_true (decide (p1 < 1)) with hb0 | hb0
   ·
    rw [hb0] at hF
    iterate 2 refine lsn hF rfl rfl rfl rfl rfl rfl rfl (fun a hF => ?_)
    refine ls hF hW rfl ((y_pick_t hF rfl rfl rfl).q) (fun a w hF hW => ?_)
    refine ls_nil (c_then ?_)
    exact ⟨hF.re ⟨rfl, rfl, rfl, (by show some (Value.bool true) = some (Value.bool (decide (p1 < 1) || decide (7 < p1))); try rw [hb0]; all_goals simp only [Bool.not_true, Bool.not_false, Bool.true_and, Bool.false_and, Bool.true_or, Bool.false_or, Bool.and_true, Bool.or_false, cond_true, cond_false]), trivial⟩, hW⟩
   ·
    rw [hb0] at hF
    refine ls_w hF hW (wanted_y hF rfl rfl rfl rfl) rfl (Nat.le_of_ble_eq_true rfl) ((y_move hF rfl).q) (fun a w hF hW => ?_)
    refine ls_w hF hW (wanted_y hF rfl rfl rfl rfl) rfl (Nat.le_of_ble_eq_true rfl) ((y_gtr hF rfl rfl).q) (fun a w hF hW => ?_)
    refine ls hF hW rfl ((y_pick_f hF rfl rfl rfl).q) (fun a w hF hW => ?_)
    refine ls_nil (c_then ?_)
    exact ⟨hF.re ⟨rfl, rfl, rfl, (by show some (Value.bool (decide (7 < p1))) = some (Value.bool (decide (p1 < 1) || decide (7 < p1))); try rw [hb0]; all_goals simp only [Bool.not_true, Bool.not_false, Bool.true_and, Bool.false_and, Bool.true_or, Bool.false_or, Bool.and_true, Bool.or_false, cond_true, cond_false]), trivial⟩, hW⟩
  rintro a w ⟨hF, hW⟩
  refine c_cond hF rfl (fun hb => ?_) (fun hb => ?_)
  ·
   have H := iteT hb H
   rw [hb] at hF
   clear hb
   refine reg_list ?_
   refine ls hF hW rfl ((y_move hF rfl).q) (fun a w hF hW => ?_)
   refine l_callG (Ml := [(q_p0, [.string (bs p0.1), .int .i64 p0.2.1, .int .i64 p0.2.2])]) (Zl := []) (M := []) (Z := []) (β := Unit) (rv := fun x => .tuple #[]) (MM := fun x => [(q_p0, [.string (bs ((r04_Reader_Wrong p0 2).1)), .int .i64 ((r04_Reader_Wrong p0 2).2.1), .int .i64 ((r04_Reader_Wrong p0 2).2.2)])]) (ZZ := fun x => []) hF hW H53 rfl rfl (fun hL => r04_Reader_Wrong_c _ _ w q_p0 p0 2 _ rfl hL) (fun x a w hF hW => ?_)
   have hW : Stw ⟨Y, X, w0⟩ [(q_p0, [.string (bs ((r04_Reader_Wrong p0 2).1)), .int .i64 ((r04_Reader_Wrong p0 2).2.1), .int .i64 ((r04_Reader_Wrong p0 2).2.2)])] [] w := hW
   refine ls_nil (c_then ?_)
   exact ⟨_, _, _, H, hF.re ⟨rfl, rfl, rfl, trivial⟩, hW⟩
  ·
   have H := iteF (by rw [hb]; decide) H
   rw [hb] at hF
   clear hb
   refine wr_skip ?_
   refine c_then ?_
   exact ⟨_, _, _, H, hF.re ⟨rfl, rfl, rfl, trivial⟩, hW⟩
 rintro a w ⟨x1, x2, x3, hj, hF, hW⟩
 have hj := Option.some.inj hj
 subst hj
 have H := K1
 clear G1 K1
 refine c_seq (reg_list ?_)
 refine ls hF hW rfl ((y_assign (v := Value.string (bs ([] : List UInt8))) hF rfl).q) (fun a w hF hW => ?_)
 refine ls_nil (c_then ?_)
 obtain ⟨o2, G2, K2⟩ := bindE H
 refine c_seqJ (fun a w => ∃ x4 : List UInt8, ∃ x5 : List UInt8, ∃ x6 : Int, ∃ x7 : Int, some ((x4, x5, x6, x7)) = some o2 ∧ Fr 38 [] [(4, .int .i64 0), (5, .string (bs x4))] a ∧ Stw ⟨Y, X, w0⟩ [(q_p0, [.string (bs x5), .int .i64 x6, .int .i64 x7])] [] w) ?_ ?_
 ·
  have H := G2
  clear G2 K2
  refine c_seq (reg_list ?_)
  refine ls hF hW rfl ((y_move hF rfl).q) (fun a w hF hW => ?_)
  refine ls hF hW rfl ((y_nilCheck hF rfl).q) (fun a w hF hW => ?_)
  refine ls hF hW rfl ((y_fieldAddr u47_ rfl rfl rfl T3 hF rfl 2 rfl).q) (fun a w hF hW => ?_)
  refine ls hF hW rfl ((y_load (v := Value.int .i64 x3) 0 hF rfl rfl T3 rfl).q) (fun a w hF hW => ?_)
  refine ls hF hW rfl ((y_eql hF rfl rfl).q) (fun a w hF hW => ?_)
  refine ls_nil (c_then ?_)
  refine c_cond hF rfl (fun hb => ?_) (fun hb => ?_)
  ·
   have H := iteT (of_decide_eq_true hb) H
   rw [hb] at hF
   clear hb
   refine reg_list ?_
   iterate 2 refine ls hF hW rfl ((y_move hF rfl).q) (fun a w hF hW => ?_)
   obtain ⟨x8, h1, H⟩ := bindE H
   refine l_callG (Ml := [(q_p0, [.string (bs x1), .int .i64 x2, .int .i64 x3])]) (Zl := []) (M := []) (Z := []) (β := Unit) (rv := fun x => .string (bs x8.1)) (MM := fun x => [(q_p0, [.string (bs x8.2.1), .int .i64 x8.2.2.1, .int .i64 x8.2.2.2])]) (ZZ := fun x => []) hF hW H66 rfl rfl (fun hL => r04_Reader_Take_c _ _ w q_p0 (x1, x2, x3) p1 _ h1 hL) (fun x a w hF hW => ?_)
   have hW : Stw ⟨Y, X, w0⟩ [(q_p0, [.string (bs x8.2.1), .int .i64 x8.2.2.1, .int .i64 x8.2.2.2])] [] w := hW
   refine ls hF hW rfl ((y_assign hF rfl).q) (fun a w hF hW => ?_)
   refine ls_nil (c_then ?_)
   exact ⟨_, _, _, _, H, hF.re ⟨rfl, rfl, trivial⟩, hW⟩
  ·
   have H := iteF (of_decide_eq_false hb) H
   rw [hb] at hF
   clear hb
   refine wr_skip ?_
   refine c_then ?_
   exact ⟨_, _, _, _, H, hF.re ⟨rfl, rfl, trivial⟩, hW⟩
 rintro a w ⟨x4, x5, x6, x7, hj, hF, hW⟩
 have hj := Option.some.inj hj
 subst hj
 have H := K2
 clear G2 K2
 refine c_seq (reg_list ?_)
 refine ls hF hW rfl ((y_assign hF rfl).q) (fun a w hF hW => ?_)
 refine ls_nil (c_then ?_)
 obtain ⟨o3, G3, K3⟩ := bindE H
 refine c_seqJ (fun a w => ∃ x9 : Int, some (x9) = some o3 ∧ Fr 38 [] [(4, .int .i64 0), (6, .int .i64 x9)] a ∧ Stw ⟨Y, X, w0⟩ [(q_p0, [.string (bs x5), .int .i64 x6, .int .i64 x7])] [] w) ?_ ?_
 ·
  have H := G3
  clear G3 K3
  refine c_seq (reg_list ?_)
  refine ls hF hW rfl ((y_assign hF rfl).q) (fun a w hF hW => ?_)
  refine ls_nil (c_then ?_)
  refine wr_block ?_
  refine c_loopW H (fun s a w => Fr 38 [] [(4, .int .i64 0), (5, .string (bs x4)), (6, .int .i64 s.1), (7, .int .i64 s.2)] a ∧ Stw ⟨Y, X, w0⟩ [(q_p0, [.string (bs x5), .int .i64 x6, .int .i64 x7])] [] w) ⟨hF.re ⟨rfl, rfl, rfl, rfl, trivial⟩, hW⟩ (fun s o a w H L4 hR => ?_)
  obtain ⟨x10, x11⟩ := s
  obtain ⟨hF, hW⟩ := hR
  have hF : Fr 38 [] [(4, .int .i64 0), (5, .string (bs x4)), (6, .int .i64 x10), (7, .int .i64 x11)] a := hF
  have hW : Stw ⟨Y, X, w0⟩ [(q_p0, [.string (bs x5), .int .i64 x6, .int .i64 x7])] [] w := hW
  rw [r04_Reader_Num_l1] at H
  refine c_seq ?_
  refine c_seq (reg_list ?_)
  iterate 2 refine ls hF hW rfl ((y_move hF rfl).q) (fun a w hF hW => ?_)
  refine ls hF hW rfl ((y_slen (l := x4) u9_ rfl hF rfl).q) (fun a w hF hW => ?_)
  refine ls hF hW rfl ((y_lss hF rfl rfl).q) (fun a w hF hW => ?_)
  refine ls_nil (c_then ?_)
  refine c_cond hF rfl (fun hb => ?_) (fun hb => ?_)
  ·
   have H := iteT (of_decide_eq_true hb) H
   rw [hb] at hF
   clear hb
   refine wr_skip ?_
   refine c_then ?_
   refine c_seq ?_
   refine wr_block ?_
   refine reg_list ?_
   refine ls hF hW rfl ((y_move hF rfl).q) (fun a w hF hW => ?_)
   refine ls hF hW rfl ((y_mul hF rfl rfl rfl).q) (fun a w hF hW => ?_)
   iterate 2 refine ls hF hW rfl ((y_move hF rfl).q) (fun a w hF hW => ?_)
   obtain ⟨x12, h2, H⟩ := bindE H
   refine ls hF hW rfl ((y_sindex (l := x4) u9_ hF rfl rfl h2).q) (fun a w hF hW => ?_)
   refine ls hF hW rfl ((y_convI u5_ u3_ hF rfl).q) (fun a w hF hW => ?_)
   refine ls hF hW rfl ((y_add hF rfl rfl rfl).q) (fun a w hF hW => ?_)
   refine ls hF hW rfl ((y_assign hF rfl).q) (fun a w hF hW => ?_)
   refine ls_nil ?_
   refine b_normal ?_
   refine c_then ?_
   refine reg_list ?_
   refine ls hF hW rfl ((y_move hF rfl).q) (fun a w hF hW => ?_)
   refine ls hF hW rfl ((y_add hF rfl rfl rfl).q) (fun a w hF hW => ?_)
   refine ls hF hW rfl ((y_assign hF rfl).q) (fun a w hF hW => ?_)
   refine ls_nil (c_then ?_)
   exact ⟨_, H, hF.re ⟨rfl, rfl, rfl, rfl, trivial⟩, hW⟩
  ·
   have H := iteF (of_decide_eq_false hb) H
   rw [hb] at hF
   clear hb
   refine wr_exit ?_
   iterate 2 refine e_then ?_
   refine e_block ?_
   refine c_then ?_
   have H := L4 _ H
   exact ⟨_, H, hF.re ⟨rfl, rfl, trivial⟩, hW⟩
 rintro a w ⟨x9, hj, hF, hW⟩
 have hj := Option.some.inj hj
 subst hj
 have H := K3
 clear G3 K3
 refine c_seq (reg_list ?_)
 refine ls hF hW rfl ((y_move hF rfl).q) (fun a w hF hW => ?_)
 refine ls hF hW rfl ((y_assign hF rfl).q) (fun a w hF hW => ?_)
 refine ls_nil (c_then ?_)
 refine wr_ret ?_
 have H := Option.some.inj H
 subst H
 refine post1 (.inl rfl) hF hW rfl (rv_tmp hF rfl) ?_
 exact ⟨(), rfl, hW⟩

end Go.Proofs.YtefiglmpdajonaaDoor
