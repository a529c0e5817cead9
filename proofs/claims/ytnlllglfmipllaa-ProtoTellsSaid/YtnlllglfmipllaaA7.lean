/- The functions of layer 16, lifted. Conditions: none. -/
import Derived.Test.YtnlllglfmipllaaA6
namespace Go.Proofs.Ytnlllglfmipllaa
open Go Go.RowKit
set_option linter.unusedVariables false
set_option linter.unusedSimpArgs false
set_option maxRecDepth 20000
theorem H22 : Has Try.prog 22 := ⟨fun args w => run_callFunc_body Try.func22 rfl (by decide) args w⟩
noncomputable def r16_Right_l1 (p0 : Int × Int × Int × Int × Int × Int × Int × Int × Int × (List (Int × (Int × (Int × (Int × Int × Int × Int) × (Int × Int × Int × Int)) × (List (Int × Int × Int))) × Bool))) : Int → Option (Int ⊕ (Unit ⊕ Bool))
  | x4 => (if x4 < (p0.2.2.2.2.2.2.2.2.2.length : Int) then ((ix p0.2.2.2.2.2.2.2.2.2 x4).bind fun x6 => (if x6.1 < 1 then some true else (ix p0.2.2.2.2.2.2.2.2.2 x4).bind fun x7 => (if 5 < x7.1 then some true else (ix p0.2.2.2.2.2.2.2.2.2 x4).bind fun x8 => (r10_Right x8.2.1 8).bind fun x9 => some (!x9)))).bind fun x5 => (if x5 = true then some (.inr (.inr false)) else some (.inl (w64 (x4 + 1)))) else some (.inr (.inl ())))
noncomputable def r16_Right (p0 : Int × Int × Int × Int × Int × Int × Int × Int × Int × (List (Int × (Int × (Int × (Int × Int × Int × Int) × (Int × Int × Int × Int)) × (List (Int × Int × Int))) × Bool))) : Option Bool := (if p0.1 < 1 then some true else (if 8 < p0.1 then some true else (if p0.2.1 < 0 then some true else (if 7 < p0.2.1 then some true else (r16_Clean p0).bind fun x2 => (r16_Same p0 x2).bind fun x3 => (if (!x3) = true then some true else (if (!(r16_numbers p0)) = true then some true else some (decide (16 < (p0.2.2.2.2.2.2.2.2.2.length : Int))))))))).bind fun x1 => (if x1 = true then some false else orR (loopW (r16_Right_l1 p0) 0) fun _ => some true)
theorem r16_Right_c (Y : Nat → Prop) (w0 : World) (v1 : Value) (p0 : Int × Int × Int × Int × Int × Int × Int × Int × Int × (List (Int × (Int × (Int × (Int × Int × Int × Int) × (Int × Int × Int × Int)) × (List (Int × Int × Int))) × Bool))) (r : Bool) (H : r16_Right p0 = some r) (s_v1 : Sl w0 Y R42 v1 p0.2.2.2.2.2.2.2.2.2) :
    Calls Try.prog 8 #[.agg #[.int .i64 p0.1, .int .i64 p0.2.1, .int .i64 p0.2.2.1, .int .i64 p0.2.2.2.1, .int .i64 p0.2.2.2.2.1, .int .i64 p0.2.2.2.2.2.1, .int .i64 p0.2.2.2.2.2.2.1, .int .i64 p0.2.2.2.2.2.2.2.1, .int .i64 p0.2.2.2.2.2.2.2.2.1, v1]] w0 fun e w' => e = .returned (.bool r) ∧ Below w0.heap.size w0 w' := by
 refine enter Try.func8 rfl Try.ntmps8 rfl (fun a hF => ?_)
 have hW := Stw.start Y w0
 obtain ⟨v2, h1, s_v1⟩ := s_v1.ex EX42
 have h_v1 := hW.nx s_v1
 unfold r16_Right at H
 refine c_seq ?_
 refine reg_list ?_
 refine l_box (cs := [.int .i64 p0.1, .int .i64 p0.2.1, .int .i64 p0.2.2.1, .int .i64 p0.2.2.2.1, .int .i64 p0.2.2.2.2.1, .int .i64 p0.2.2.2.2.2.1, .int .i64 p0.2.2.2.2.2.2.1, .int .i64 p0.2.2.2.2.2.2.2.1, .int .i64 p0.2.2.2.2.2.2.2.2.1, v1]) hF hW rfl rfl rfl (fun b1 a w hF hW => ?_)
 refine ls hF hW rfl ((y_assign hF rfl).q) (fun a w hF hW => ?_)
 refine ls_nil ?_
 refine c_then ?_
 refine c_seq ?_
 obtain ⟨o1, G1, K1⟩ := bindE H
 refine c_seqJ (fun a w => ∃ x1 : Bool, some (x1) = some o1 ∧ Fr 73 [] [(1, .pointer (some ⟨b1, 0, none⟩)), (2, .bool false), (39, .bool x1)] a ∧ Stw ⟨Y, [], w0⟩ [(b1, [.int .i64 p0.1, .int .i64 p0.2.1, .int .i64 p0.2.2.1, .int .i64 p0.2.2.2.1, .int .i64 p0.2.2.2.2.1, .int .i64 p0.2.2.2.2.2.1, .int .i64 p0.2.2.2.2.2.2.1, .int .i64 p0.2.2.2.2.2.2.2.1, .int .i64 p0.2.2.2.2.2.2.2.2.1, v1])] [] w) ?_ ?_
 ·
  have H := G1
  clear G1 K1
  refine reg_plan [(true, 0), (true, 1), (true, 2), (true, 3), (true, 4), (true, 5), (true, 6), (true, 7), (true, 8), (true, 9), (true, 10), (true, 11), (true, 12), (true, 13), (true, 14), (true, 15), (true, 16), (true, 17), (true, 18), (true, 19), (true, 20), (false, 21), (false, 22), (true, 23), (true, 24), (true, 25), (true, 26), (false, 27), (true, 28), (true, 29), (true, 30), (true, 31), (true, 32), (true, 33), (true, 34), (true, 35)] (CN ⟨Y, [], w0⟩ [(none, b1, [.int .i64 p0.1, .int .i64 p0.2.1, .int .i64 p0.2.2.1, .int .i64 p0.2.2.2.1, .int .i64 p0.2.2.2.2.1, .int .i64 p0.2.2.2.2.2.1, .int .i64 p0.2.2.2.2.2.2.1, .int .i64 p0.2.2.2.2.2.2.2.1, .int .i64 p0.2.2.2.2.2.2.2.2.1, v1]), (some 22, b1, [.int .i64 p0.1, .int .i64 p0.2.1, .int .i64 p0.2.2.1, .int .i64 p0.2.2.2.1, .int .i64 p0.2.2.2.2.1, .int .i64 p0.2.2.2.2.2.1, .int .i64 p0.2.2.2.2.2.2.1, .int .i64 p0.2.2.2.2.2.2.2.1, .int .i64 p0.2.2.2.2.2.2.2.2.1, v1]), (some 21, b1, [.int .i64 p0.1, .int .i64 p0.2.1, .int .i64 p0.2.2.1, .int .i64 p0.2.2.2.1, .int .i64 p0.2.2.2.2.1, .int .i64 p0.2.2.2.2.2.1, .int .i64 p0.2.2.2.2.2.2.1, .int .i64 p0.2.2.2.2.2.2.2.1, .int .i64 p0.2.2.2.2.2.2.2.2.1, v1])] []) (fun ch a d v w h => by cases d <;> exact h) MO (by kernel_rfl) hW (fun w hW => ⟨_, _, hW, (all_cons (fun _ => (.head _)) (all_cons (fun _ => (.head _)) (all_cons (fun _ => (.head _)) all_nil))), all_nil⟩) (fun w hW => ?_)
  refine pl_t (R := []) hF rfl rfl (yC fun M Z hN hZ => y_fieldAddr u24_ rfl rfl rfl T3 hF rfl 0 rfl) rfl rfl (fun a hF => ?_)
  refine pl_t (R := []) hF rfl rfl (yC fun M Z hN hZ => y_load_m (cs := [.int .i64 p0.1, .int .i64 p0.2.1, .int .i64 p0.2.2.1, .int .i64 p0.2.2.2.1, .int .i64 p0.2.2.2.2.1, .int .i64 p0.2.2.2.2.2.1, .int .i64 p0.2.2.2.2.2.2.1, .int .i64 p0.2.2.2.2.2.2.2.1, .int .i64 p0.2.2.2.2.2.2.2.2.1, v1]) (v := Value.int .i64 p0.1) hF rfl (hN (none, b1, [.int .i64 p0.1, .int .i64 p0.2.1, .int .i64 p0.2.2.1, .int .i64 p0.2.2.2.1, .int .i64 p0.2.2.2.2.1, .int .i64 p0.2.2.2.2.2.1, .int .i64 p0.2.2.2.2.2.2.1, .int .i64 p0.2.2.2.2.2.2.2.1, .int .i64 p0.2.2.2.2.2.2.2.2.1, v1]) (.head _) rfl) T3 rfl) rfl rfl (fun a hF => ?_)
  refine pl_t (R := []) hF rfl rfl (yC fun M Z hN hZ => y_lss hF rfl rfl) rfl rfl (fun a hF => ?_)
  refine pl_t (R := []) hF rfl rfl (yC fun M Z hN hZ => y_move hF rfl) rfl rfl (fun a hF => ?_)
  rcases Bool.eq_false_or_eq_true (decide (p0.1 < 1)) with hb | hb
  ·
   have H := iteT (of_decide_eq_true hb) H
   rw [hb] at hF
   clear hb
   refine pl_skip hF rfl (wanted_n hF rfl rfl rfl rfl rfl) rfl rfl rfl (fun a hF => ?_)
   refine pl_skip hF rfl (wanted_n hF rfl rfl rfl rfl rfl) rfl rfl rfl (fun a hF => ?_)
   refine pl_skip hF rfl (wanted_n hF rfl rfl rfl rfl rfl) rfl rfl rfl (fun a hF => ?_)
   refine pl_t (R := []) hF rfl rfl (yC fun M Z hN hZ => y_pick_t hF rfl rfl rfl) rfl rfl (fun a hF => ?_)
   refine pl_t (R := []) hF rfl rfl (yC fun M Z hN hZ => y_move hF rfl) rfl rfl (fun a hF => ?_)
   refine pl_skip hF rfl (wanted_n hF rfl rfl rfl rfl rfl) rfl rfl rfl (fun a hF => ?_)
   refine pl_skip hF rfl (wanted_n hF rfl rfl rfl rfl rfl) rfl rfl rfl (fun a hF => ?_)
   refine pl_skip hF rfl (wanted_n hF rfl rfl rfl rfl rfl) rfl rfl rfl (fun a hF => ?_)
   refine pl_t (R := []) hF rfl rfl (yC fun M Z hN hZ => y_pick_t hF rfl rfl rfl) rfl rfl (fun a hF => ?_)
   refine pl_t (R := []) hF rfl rfl (yC fun M Z hN hZ => y_move hF rfl) rfl rfl (fun a hF => ?_)
   refine pl_skip hF rfl (wanted_n hF rfl rfl rfl rfl rfl) rfl rfl rfl (fun a hF => ?_)
   refine pl_skip hF rfl (wanted_n hF rfl rfl rfl rfl rfl) rfl rfl rfl (fun a hF => ?_)
   refine pl_skip hF rfl (wanted_n hF rfl rfl rfl rfl rfl) rfl rfl rfl (fun a hF => ?_)
   refine pl_t (R := []) hF rfl rfl (yC fun M Z hN hZ => y_pick_t hF rfl rfl rfl) rfl rfl (fun a hF => ?_)
   refine pl_t (R := []) hF rfl rfl (yC fun M Z hN hZ => y_move hF rfl) rfl rfl (fun a hF => ?_)
   refine pl_skip hF rfl (wanted_n hF rfl rfl rfl rfl rfl) rfl rfl rfl (fun a hF => ?_)
   refine pl_skip hF rfl (wanted_n hF rfl rfl rfl rfl rfl) rfl rfl rfl (fun a hF => ?_)
   refine pl_f rfl ?_
   refine lsn hF rfl rfl rfl rfl rfl rfl rfl (fun a hF => ?_)
   refine pl_next (N2 := []) (NZ2 := []) (N3 := [(none, b1, [.int .i64 p0.1, .int .i64 p0.2.1, .int .i64 p0.2.2.1, .int .i64 p0.2.2.2.1, .int .i64 p0.2.2.2.2.1, .int .i64 p0.2.2.2.2.2.1, .int .i64 p0.2.2.2.2.2.2.1, .int .i64 p0.2.2.2.2.2.2.2.1, .int .i64 p0.2.2.2.2.2.2.2.2.1, v1]), (some 22, b1, [.int .i64 p0.1, .int .i64 p0.2.1, .int .i64 p0.2.2.1, .int .i64 p0.2.2.2.1, .int .i64 p0.2.2.2.2.1, .int .i64 p0.2.2.2.2.2.1, .int .i64 p0.2.2.2.2.2.2.1, .int .i64 p0.2.2.2.2.2.2.2.1, .int .i64 p0.2.2.2.2.2.2.2.2.1, v1]), (some 21, b1, [.int .i64 p0.1, .int .i64 p0.2.1, .int .i64 p0.2.2.1, .int .i64 p0.2.2.2.1, .int .i64 p0.2.2.2.2.1, .int .i64 p0.2.2.2.2.2.1, .int .i64 p0.2.2.2.2.2.2.1, .int .i64 p0.2.2.2.2.2.2.2.1, .int .i64 p0.2.2.2.2.2.2.2.2.1, v1])]) (NZ3 := []) hW rfl rfl (all_cons (fun _ => (.head _)) (all_cons (fun _ => (.head _)) (all_cons (fun h => rel_dead (by kernel_rfl) h) all_nil))) all_nil ?_
   refine pl_f rfl ?_
   refine lsn hF rfl rfl rfl rfl rfl rfl rfl (fun a hF => ?_)
   refine pl_next (N2 := []) (NZ2 := []) (N3 := [(none, b1, [.int .i64 p0.1, .int .i64 p0.2.1, .int .i64 p0.2.2.1, .int .i64 p0.2.2.2.1, .int .i64 p0.2.2.2.2.1, .int .i64 p0.2.2.2.2.2.1, .int .i64 p0.2.2.2.2.2.2.1, .int .i64 p0.2.2.2.2.2.2.2.1, .int .i64 p0.2.2.2.2.2.2.2.2.1, v1]), (some 22, b1, [.int .i64 p0.1, .int .i64 p0.2.1, .int .i64 p0.2.2.1, .int .i64 p0.2.2.2.1, .int .i64 p0.2.2.2.2.1, .int .i64 p0.2.2.2.2.2.1, .int .i64 p0.2.2.2.2.2.2.1, .int .i64 p0.2.2.2.2.2.2.2.1, .int .i64 p0.2.2.2.2.2.2.2.2.1, v1]), (some 21, b1, [.int .i64 p0.1, .int .i64 p0.2.1, .int .i64 p0.2.2.1, .int .i64 p0.2.2.2.1, .int .i64 p0.2.2.2.2.1, .int .i64 p0.2.2.2.2.2.1, .int .i64 p0.2.2.2.2.2.2.1, .int .i64 p0.2.2.2.2.2.2.2.1, .int .i64 p0.2.2.2.2.2.2.2.2.1, v1])]) (NZ3 := []) hW rfl rfl (all_cons (fun _ => (.head _)) (all_cons (fun h => rel_dead (by kernel_rfl) h) (all_cons (fun h => rel_dead (by kernel_rfl) h) all_nil))) all_nil ?_
   refine pl_skip hF rfl (wanted_n hF rfl rfl rfl rfl rfl) rfl rfl rfl (fun a hF => ?_)
   refine pl_t (R := []) hF rfl rfl (yC fun M Z hN hZ => y_pick_t hF rfl rfl rfl) rfl rfl (fun a hF => ?_)
   refine pl_t (R := []) hF rfl rfl (yC fun M Z hN hZ => y_move hF rfl) rfl rfl (fun a hF => ?_)
   refine pl_skip hF rfl (wanted_n hF rfl rfl rfl rfl rfl) rfl rfl rfl (fun a hF => ?_)
   refine pl_f rfl ?_
   refine lsn hF rfl rfl rfl rfl rfl rfl rfl (fun a hF => ?_)
   refine pl_next (N2 := []) (NZ2 := []) (N3 := [(none, b1, [.int .i64 p0.1, .int .i64 p0.2.1, .int .i64 p0.2.2.1, .int .i64 p0.2.2.2.1, .int .i64 p0.2.2.2.2.1, .int .i64 p0.2.2.2.2.2.1, .int .i64 p0.2.2.2.2.2.2.1, .int .i64 p0.2.2.2.2.2.2.2.1, .int .i64 p0.2.2.2.2.2.2.2.2.1, v1]), (some 22, b1, [.int .i64 p0.1, .int .i64 p0.2.1, .int .i64 p0.2.2.1, .int .i64 p0.2.2.2.1, .int .i64 p0.2.2.2.2.1, .int .i64 p0.2.2.2.2.2.1, .int .i64 p0.2.2.2.2.2.2.1, .int .i64 p0.2.2.2.2.2.2.2.1, .int .i64 p0.2.2.2.2.2.2.2.2.1, v1]), (some 21, b1, [.int .i64 p0.1, .int .i64 p0.2.1, .int .i64 p0.2.2.1, .int .i64 p0.2.2.2.1, .int .i64 p0.2.2.2.2.1, .int .i64 p0.2.2.2.2.2.1, .int .i64 p0.2.2.2.2.2.2.1, .int .i64 p0.2.2.2.2.2.2.2.1, .int .i64 p0.2.2.2.2.2.2.2.2.1, v1])]) (NZ3 := []) hW rfl rfl (all_cons (fun _ => (.head _)) (all_cons (fun h => rel_dead (by kernel_rfl) h) (all_cons (fun h => rel_dead (by kernel_rfl) h) all_nil))) all_nil ?_
   refine pl_skip hF rfl (wanted_n hF rfl rfl rfl rfl rfl) rfl rfl rfl (fun a hF => ?_)
   refine pl_t (R := []) hF rfl rfl (yC fun M Z hN hZ => y_pick_t hF rfl rfl rfl) rfl rfl (fun a hF => ?_)
   refine pl_t (R := []) hF rfl rfl (yC fun M Z hN hZ => y_move hF rfl) rfl rfl (fun a hF => ?_)
   refine pl_skip hF rfl (wanted_n hF rfl rfl rfl rfl rfl) rfl rfl rfl (fun a hF => ?_)
   refine pl_skip hF rfl (wanted_n hF rfl rfl rfl rfl rfl) rfl rfl rfl (fun a hF => ?_)
   refine pl_skip hF rfl (wanted_n hF rfl rfl rfl rfl rfl) rfl rfl rfl (fun a hF => ?_)
   refine pl_skip hF rfl (wanted_n hF rfl rfl rfl rfl rfl) rfl rfl rfl (fun a hF => ?_)
   refine pl_t (R := []) hF rfl rfl (yC fun M Z hN hZ => y_pick_t hF rfl rfl rfl) rfl rfl (fun a hF => ?_)
   refine pl_end ?_
   refine c_then ?_
   exact ⟨_, H, hF.re ⟨rfl, rfl, rfl, trivial⟩, hW⟩
  ·
   have H := iteF (of_decide_eq_false hb) H
   rw [hb] at hF
   clear hb
   refine pl_w (R := []) hF rfl (wanted_y hF rfl rfl rfl rfl) rfl rfl (yC fun M Z hN hZ => y_fieldAddr u24_ rfl rfl rfl T3 hF rfl 0 rfl) rfl rfl (fun a hF => ?_)
   refine pl_w (R := []) hF rfl (wanted_y hF rfl rfl rfl rfl) rfl rfl (yC fun M Z hN hZ => y_load_m (cs := [.int .i64 p0.1, .int .i64 p0.2.1, .int .i64 p0.2.2.1, .int .i64 p0.2.2.2.1, .int .i64 p0.2.2.2.2.1, .int .i64 p0.2.2.2.2.2.1, .int .i64 p0.2.2.2.2.2.2.1, .int .i64 p0.2.2.2.2.2.2.2.1, .int .i64 p0.2.2.2.2.2.2.2.2.1, v1]) (v := Value.int .i64 p0.1) hF rfl (hN (none, b1, [.int .i64 p0.1, .int .i64 p0.2.1, .int .i64 p0.2.2.1, .int .i64 p0.2.2.2.1, .int .i64 p0.2.2.2.2.1, .int .i64 p0.2.2.2.2.2.1, .int .i64 p0.2.2.2.2.2.2.1, .int .i64 p0.2.2.2.2.2.2.2.1, .int .i64 p0.2.2.2.2.2.2.2.2.1, v1]) (.head _) rfl) T3 rfl) rfl rfl (fun a hF => ?_)
   refine pl_w (R := []) hF rfl (wanted_y hF rfl rfl rfl rfl) rfl rfl (yC fun M Z hN hZ => y_gtr hF rfl rfl) rfl rfl (fun a hF => ?_)
   refine pl_t (R := []) hF rfl rfl (yC fun M Z hN hZ => y_pick_f hF rfl rfl rfl) rfl rfl (fun a hF => ?_)
   refine pl_t (R := []) hF rfl rfl (yC fun M Z hN hZ => y_move hF rfl) rfl rfl (fun a hF => ?_)
   rcases Bool.eq_false_or_eq_true (decide (8 < p0.1)) with hb | hb
   ·
    have H := iteT (of_decide_eq_true hb) H
    rw [hb] at hF
    clear hb
    refine pl_skip hF rfl (wanted_n hF rfl rfl rfl rfl rfl) rfl rfl rfl (fun a hF => ?_)
    refine pl_skip hF rfl (wanted_n hF rfl rfl rfl rfl rfl) rfl rfl rfl (fun a hF => ?_)
    refine pl_skip hF rfl (wanted_n hF rfl rfl rfl rfl rfl) rfl rfl rfl (fun a hF => ?_)
    refine pl_t (R := []) hF rfl rfl (yC fun M Z hN hZ => y_pick_t hF rfl rfl rfl) rfl rfl (fun a hF => ?_)
    refine pl_t (R := []) hF rfl rfl (yC fun M Z hN hZ => y_move hF rfl) rfl rfl (fun a hF => ?_)
    refine pl_skip hF rfl (wanted_n hF rfl rfl rfl rfl rfl) rfl rfl rfl (fun a hF => ?_)
    refine pl_skip hF rfl (wanted_n hF rfl rfl rfl rfl rfl) rfl rfl rfl (fun a hF => ?_)
    refine pl_skip hF rfl (wanted_n hF rfl rfl rfl rfl rfl) rfl rfl rfl (fun a hF => ?_)
    refine pl_t (R := []) hF rfl rfl (yC fun M Z hN hZ => y_pick_t hF rfl rfl rfl) rfl rfl (fun a hF => ?_)
    refine pl_t (R := []) hF rfl rfl (yC fun M Z hN hZ => y_move hF rfl) rfl rfl (fun a hF => ?_)
    refine pl_skip hF rfl (wanted_n hF rfl rfl rfl rfl rfl) rfl rfl rfl (fun a hF => ?_)
    refine pl_skip hF rfl (wanted_n hF rfl rfl rfl rfl rfl) rfl rfl rfl (fun a hF => ?_)
    refine pl_f rfl ?_
    refine lsn hF rfl rfl rfl rfl rfl rfl rfl (fun a hF => ?_)
    refine pl_next (N2 := []) (NZ2 := []) (N3 := [(none, b1, [.int .i64 p0.1, .int .i64 p0.2.1, .int .i64 p0.2.2.1, .int .i64 p0.2.2.2.1, .int .i64 p0.2.2.2.2.1, .int .i64 p0.2.2.2.2.2.1, .int .i64 p0.2.2.2.2.2.2.1, .int .i64 p0.2.2.2.2.2.2.2.1, .int .i64 p0.2.2.2.2.2.2.2.2.1, v1]), (some 22, b1, [.int .i64 p0.1, .int .i64 p0.2.1, .int .i64 p0.2.2.1, .int .i64 p0.2.2.2.1, .int .i64 p0.2.2.2.2.1, .int .i64 p0.2.2.2.2.2.1, .int .i64 p0.2.2.2.2.2.2.1, .int .i64 p0.2.2.2.2.2.2.2.1, .int .i64 p0.2.2.2.2.2.2.2.2.1, v1]), (some 21, b1, [.int .i64 p0.1, .int .i64 p0.2.1, .int .i64 p0.2.2.1, .int .i64 p0.2.2.2.1, .int .i64 p0.2.2.2.2.1, .int .i64 p0.2.2.2.2.2.1, .int .i64 p0.2.2.2.2.2.2.1, .int .i64 p0.2.2.2.2.2.2.2.1, .int .i64 p0.2.2.2.2.2.2.2.2.1, v1])]) (NZ3 := []) hW rfl rfl (all_cons (fun _ => (.head _)) (all_cons (fun _ => (.head _)) (all_cons (fun h => rel_dead (by kernel_rfl) h) all_nil))) all_nil ?_
    refine pl_f rfl ?_
    refine lsn hF rfl rfl rfl rfl rfl rfl rfl (fun a hF => ?_)
    refine pl_next (N2 := []) (NZ2 := []) (N3 := [(none, b1, [.int .i64 p0.1, .int .i64 p0.2.1, .int .i64 p0.2.2.1, .int .i64 p0.2.2.2.1, .int .i64 p0.2.2.2.2.1, .int .i64 p0.2.2.2.2.2.1, .int .i64 p0.2.2.2.2.2.2.1, .int .i64 p0.2.2.2.2.2.2.2.1, .int .i64 p0.2.2.2.2.2.2.2.2.1, v1]), (some 22, b1, [.int .i64 p0.1, .int .i64 p0.2.1, .int .i64 p0.2.2.1, .int .i64 p0.2.2.2.1, .int .i64 p0.2.2.2.2.1, .int .i64 p0.2.2.2.2.2.1, .int .i64 p0.2.2.2.2.2.2.1, .int .i64 p0.2.2.2.2.2.2.2.1, .int .i64 p0.2.2.2.2.2.2.2.2.1, v1]), (some 21, b1, [.int .i64 p0.1, .int .i64 p0.2.1, .int .i64 p0.2.2.1, .int .i64 p0.2.2.2.1, .int .i64 p0.2.2.2.2.1, .int .i64 p0.2.2.2.2.2.1, .int .i64 p0.2.2.2.2.2.2.1, .int .i64 p0.2.2.2.2.2.2.2.1, .int .i64 p0.2.2.2.2.2.2.2.2.1, v1])]) (NZ3 := []) hW rfl rfl (all_cons (fun _ => (.head _)) (all_cons (fun h => rel_dead (by kernel_rfl) h) (all_cons (fun h => rel_dead (by kernel_rfl) h) all_nil))) all_nil ?_
    refine pl_skip hF rfl (wanted_n hF rfl rfl rfl rfl rfl) rfl rfl rfl (fun a hF => ?_)
    refine pl_t (R := []) hF rfl rfl (yC fun M Z hN hZ => y_pick_t hF rfl rfl rfl) rfl rfl (fun a hF => ?_)
    refine pl_t (R := []) hF rfl rfl (yC fun M Z hN hZ => y_move hF rfl) rfl rfl (fun a hF => ?_)
    refine pl_skip hF rfl (wanted_n hF rfl rfl rfl rfl rfl) rfl rfl rfl (fun a hF => ?_)
    refine pl_f rfl ?_
    refine lsn hF rfl rfl rfl rfl rfl rfl rfl (fun a hF => ?_)
    refine pl_next (N2 := []) (NZ2 := []) (N3 := [(none, b1, [.int .i64 p0.1, .int .i64 p0.2.1, .int .i64 p0.2.2.1, .int .i64 p0.2.2.2.1, .int .i64 p0.2.2.2.2.1, .int .i64 p0.2.2.2.2.2.1, .int .i64 p0.2.2.2.2.2.2.1, .int .i64 p0.2.2.2.2.2.2.2.1, .int .i64 p0.2.2.2.2.2.2.2.2.1, v1]), (some 22, b1, [.int .i64 p0.1, .int .i64 p0.2.1, .int .i64 p0.2.2.1, .int .i64 p0.2.2.2.1, .int .i64 p0.2.2.2.2.1, .int .i64 p0.2.2.2.2.2.1, .int .i64 p0.2.2.2.2.2.2.1, .int .i64 p0.2.2.2.2.2.2.2.1, .int .i64 p0.2.2.2.2.2.2.2.2.1, v1]), (some 21, b1, [.int .i64 p0.1, .int .i64 p0.2.1, .int .i64 p0.2.2.1, .int .i64 p0.2.2.2.1, .int .i64 p0.2.2.2.2.1, .int .i64 p0.2.2.2.2.2.1, .int .i64 p0.2.2.2.2.2.2.1, .int .i64 p0.2.2.2.2.2.2.2.1, .int .i64 p0.2.2.2.2.2.2.2.2.1, v1])]) (NZ3 := []) hW rfl rfl (all_cons (fun _ => (.head _)) (all_cons (fun h => rel_dead (by kernel_rfl) h) (all_cons (fun h => rel_dead (by kernel_rfl) h) all_nil))) all_nil ?_
    refine pl_skip hF rfl (wanted_n hF rfl rfl rfl rfl rfl) rfl rfl rfl (fun a hF => ?_)
    refine pl_t (R := []) hF rfl rfl (yC fun M Z hN hZ => y_pick_t hF rfl rfl rfl) rfl rfl (fun a hF => ?_)
    refine pl_t (R := []) hF rfl rfl (yC fun M Z hN hZ => y_move hF rfl) rfl rfl (fun a hF => ?_)
    refine pl_skip hF rfl (wanted_n hF rfl rfl rfl rfl rfl) rfl rfl rfl (fun a hF => ?_)
    refine pl_skip hF rfl (wanted_n hF rfl rfl rfl rfl rfl) rfl rfl rfl (fun a hF => ?_)
    refine pl_skip hF rfl (wanted_n hF rfl rfl rfl rfl rfl) rfl rfl rfl (fun a hF => ?_)
    refine pl_skip hF rfl (wanted_n hF rfl rfl rfl rfl rfl) rfl rfl rfl (fun a hF => ?_)
    refine pl_t (R := []) hF rfl rfl (yC fun M Z hN hZ => y_pick_t hF rfl rfl rfl) rfl rfl (fun a hF => ?_)
    refine pl_end ?_
    refine c_then ?_
    exact ⟨_, H, hF.re ⟨rfl, rfl, rfl, trivial⟩, hW⟩
   ·
    have H := iteF (of_decide_eq_false hb) H
    rw [hb] at hF
    clear hb
    refine pl_w (R := []) hF rfl (wanted_y hF rfl rfl rfl rfl) rfl rfl (yC fun M Z hN hZ => y_fieldAddr u24_ rfl rfl rfl T3 hF rfl 1 rfl) rfl rfl (fun a hF => ?_)
    refine pl_w (R := []) hF rfl (wanted_y hF rfl rfl rfl rfl) rfl rfl (yC fun M Z hN hZ => y_load_m (cs := [.int .i64 p0.1, .int .i64 p0.2.1, .int .i64 p0.2.2.1, .int .i64 p0.2.2.2.1, .int .i64 p0.2.2.2.2.1, .int .i64 p0.2.2.2.2.2.1, .int .i64 p0.2.2.2.2.2.2.1, .int .i64 p0.2.2.2.2.2.2.2.1, .int .i64 p0.2.2.2.2.2.2.2.2.1, v1]) (v := Value.int .i64 p0.2.1) hF rfl (hN (none, b1, [.int .i64 p0.1, .int .i64 p0.2.1, .int .i64 p0.2.2.1, .int .i64 p0.2.2.2.1, .int .i64 p0.2.2.2.2.1, .int .i64 p0.2.2.2.2.2.1, .int .i64 p0.2.2.2.2.2.2.1, .int .i64 p0.2.2.2.2.2.2.2.1, .int .i64 p0.2.2.2.2.2.2.2.2.1, v1]) (.head _) rfl) T3 rfl) rfl rfl (fun a hF => ?_)
    refine pl_w (R := []) hF rfl (wanted_y hF rfl rfl rfl rfl) rfl rfl (yC fun M Z hN hZ => y_lss hF rfl rfl) rfl rfl (fun a hF => ?_)
    refine pl_t (R := []) hF rfl rfl (yC fun M Z hN hZ => y_pick_f hF rfl rfl rfl) rfl rfl (fun a hF => ?_)
    refine pl_t (R := []) hF rfl rfl (yC fun M Z hN hZ => y_move hF rfl) rfl rfl (fun a hF => ?_)
    rcases Bool.eq_false_or_eq_true (decide (p0.2.1 < 0)) with hb | hb
    ·
     have H := iteT (of_decide_eq_true hb) H
     rw [hb] at hF
     clear hb
     refine pl_skip hF rfl (wanted_n hF rfl rfl rfl rfl rfl) rfl rfl rfl (fun a hF => ?_)
     refine pl_skip hF rfl (wanted_n hF rfl rfl rfl rfl rfl) rfl rfl rfl (fun a hF => ?_)
     refine pl_skip hF rfl (wanted_n hF rfl rfl rfl rfl rfl) rfl rfl rfl (fun a hF => ?_)
     refine pl_t (R := []) hF rfl rfl (yC fun M Z hN hZ => y_pick_t hF rfl rfl rfl) rfl rfl (fun a hF => ?_)
     refine pl_t (R := []) hF rfl rfl (yC fun M Z hN hZ => y_move hF rfl) rfl rfl (fun a hF => ?_)
     refine pl_skip hF rfl (wanted_n hF rfl rfl rfl rfl rfl) rfl rfl rfl (fun a hF => ?_)
     refine pl_skip hF rfl (wanted_n hF rfl rfl rfl rfl rfl) rfl rfl rfl (fun a hF => ?_)
     refine pl_f rfl ?_
     refine lsn hF rfl rfl rfl rfl rfl rfl rfl (fun a hF => ?_)
     refine pl_next (N2 := []) (NZ2 := []) (N3 := [(none, b1, [.int .i64 p0.1, .int .i64 p0.2.1, .int .i64 p0.2.2.1, .int .i64 p0.2.2.2.1, .int .i64 p0.2.2.2.2.1, .int .i64 p0.2.2.2.2.2.1, .int .i64 p0.2.2.2.2.2.2.1, .int .i64 p0.2.2.2.2.2.2.2.1, .int .i64 p0.2.2.2.2.2.2.2.2.1, v1]), (some 22, b1, [.int .i64 p0.1, .int .i64 p0.2.1, .int .i64 p0.2.2.1, .int .i64 p0.2.2.2.1, .int .i64 p0.2.2.2.2.1, .int .i64 p0.2.2.2.2.2.1, .int .i64 p0.2.2.2.2.2.2.1, .int .i64 p0.2.2.2.2.2.2.2.1, .int .i64 p0.2.2.2.2.2.2.2.2.1, v1]), (some 21, b1, [.int .i64 p0.1, .int .i64 p0.2.1, .int .i64 p0.2.2.1, .int .i64 p0.2.2.2.1, .int .i64 p0.2.2.2.2.1, .int .i64 p0.2.2.2.2.2.1, .int .i64 p0.2.2.2.2.2.2.1, .int .i64 p0.2.2.2.2.2.2.2.1, .int .i64 p0.2.2.2.2.2.2.2.2.1, v1])]) (NZ3 := []) hW rfl rfl (all_cons (fun _ => (.head _)) (all_cons (fun _ => (.head _)) (all_cons (fun h => rel_dead (by kernel_rfl) h) all_nil))) all_nil ?_
     refine pl_f rfl ?_
     refine lsn hF rfl rfl rfl rfl rfl rfl rfl (fun a hF => ?_)
     refine pl_next (N2 := []) (NZ2 := []) (N3 := [(none, b1, [.int .i64 p0.1, .int .i64 p0.2.1, .int .i64 p0.2.2.1, .int .i64 p0.2.2.2.1, .int .i64 p0.2.2.2.2.1, .int .i64 p0.2.2.2.2.2.1, .int .i64 p0.2.2.2.2.2.2.1, .int .i64 p0.2.2.2.2.2.2.2.1, .int .i64 p0.2.2.2.2.2.2.2.2.1, v1]), (some 22, b1, [.int .i64 p0.1, .int .i64 p0.2.1, .int .i64 p0.2.2.1, .int .i64 p0.2.2.2.1, .int .i64 p0.2.2.2.2.1, .int .i64 p0.2.2.2.2.2.1, .int .i64 p0.2.2.2.2.2.2.1, .int .i64 p0.2.2.2.2.2.2.2.1, .int .i64 p0.2.2.2.2.2.2.2.2.1, v1]), (some 21, b1, [.int .i64 p0.1, .int .i64 p0.2.1, .int .i64 p0.2.2.1, .int .i64 p0.2.2.2.1, .int .i64 p0.2.2.2.2.1, .int .i64 p0.2.2.2.2.2.1, .int .i64 p0.2.2.2.2.2.2.1, .int .i64 p0.2.2.2.2.2.2.2.1, .int .i64 p0.2.2.2.2.2.2.2.2.1, v1])]) (NZ3 := []) hW rfl rfl (all_cons (fun _ => (.head _)) (all_cons (fun h => rel_dead (by kernel_rfl) h) (all_cons (fun h => rel_dead (by kernel_rfl) h) all_nil))) all_nil ?_
     refine pl_skip hF rfl (wanted_n hF rfl rfl rfl rfl rfl) rfl rfl rfl (fun a hF => ?_)
     refine pl_t (R := []) hF rfl rfl (yC fun M Z hN hZ => y_pick_t hF rfl rfl rfl) rfl rfl (fun a hF => ?_)
     refine pl_t (R := []) hF rfl rfl (yC fun M Z hN hZ => y_move hF rfl) rfl rfl (fun a hF => ?_)
     refine pl_skip hF rfl (wanted_n hF rfl rfl rfl rfl rfl) rfl rfl rfl (fun a hF => ?_)
     refine pl_f rfl ?_
     refine lsn hF rfl rfl rfl rfl rfl rfl rfl (fun a hF => ?_)
     refine pl_next (N2 := []) (NZ2 := []) (N3 := [(none, b1, [.int .i64 p0.1, .int .i64 p0.2.1, .int .i64 p0.2.2.1, .int .i64 p0.2.2.2.1, .int .i64 p0.2.2.2.2.1, .int .i64 p0.2.2.2.2.2.1, .int .i64 p0.2.2.2.2.2.2.1, .int .i64 p0.2.2.2.2.2.2.2.1, .int .i64 p0.2.2.2.2.2.2.2.2.1, v1]), (some 22, b1, [.int .i64 p0.1, .int .i64 p0.2.1, .int .i64 p0.2.2.1, .int .i64 p0.2.2.2.1, .int .i64 p0.2.2.2.2.1, .int .i64 p0.2.2.2.2.2.1, .int .i64 p0.2.2.2.2.2.2.1, .int .i64 p0.2.2.2.2.2.2.2.1, .int .i64 p0.2.2.2.2.2.2.2.2.1, v1]), (some 21, b1, [.int .i64 p0.1, .int .i64 p0.2.1, .int .i64 p0.2.2.1, .int .i64 p0.2.2.2.1, .int .i64 p0.2.2.2.2.1, .int .i64 p0.2.2.2.2.2.1, .int .i64 p0.2.2.2.2.2.2.1, .int .i64 p0.2.2.2.2.2.2.2.1, .int .i64 p0.2.2.2.2.2.2.2.2.1, v1])]) (NZ3 := []) hW rfl rfl (all_cons (fun _ => (.head _)) (all_cons (fun h => rel_dead (by kernel_rfl) h) (all_cons (fun h => rel_dead (by kernel_rfl) h) all_nil))) all_nil ?_
     refine pl_skip hF rfl (wanted_n hF rfl rfl rfl rfl rfl) rfl rfl rfl (fun a hF => ?_)
     refine pl_t (R := []) hF rfl rfl (yC fun M Z hN hZ => y_pick_t hF rfl rfl rfl) rfl rfl (fun a hF => ?_)
     refine pl_t (R := []) hF rfl rfl (yC fun M Z hN hZ => y_move hF rfl) rfl rfl (fun a hF => ?_)
     refine pl_skip hF rfl (wanted_n hF rfl rfl rfl rfl rfl) rfl rfl rfl (fun a hF => ?_)
     refine pl_skip hF rfl (wanted_n hF rfl rfl rfl rfl rfl) rfl rfl rfl (fun a hF => ?_)
     refine pl_skip hF rfl (wanted_n hF rfl rfl rfl rfl rfl) rfl rfl rfl (fun a hF => ?_)
     refine pl_skip hF rfl (wanted_n hF rfl rfl rfl rfl rfl) rfl rfl rfl (fun a hF => ?_)
     refine pl_t (R := []) hF rfl rfl (yC fun M Z hN hZ => y_pick_t hF rfl rfl rfl) rfl rfl (fun a hF => ?_)
     refine pl_end ?_
     refine c_then ?_
     exact ⟨_, H, hF.re ⟨rfl, rfl, rfl, trivial⟩, hW⟩
    ·
     have H := iteF (of_decide_eq_false hb) H
     rw [hb] at hF
     clear hb
     refine pl_w (R := []) hF rfl (wanted_y hF rfl rfl rfl rfl) rfl rfl (yC fun M Z hN hZ => y_fieldAddr u24_ rfl rfl rfl T3 hF rfl 1 rfl) rfl rfl (fun a hF => ?_)
     refine pl_w (R := []) hF rfl (wanted_y hF rfl rfl rfl rfl) rfl rfl (yC fun M Z hN hZ => y_load_m (cs := [.int .i64 p0.1, .int .i64 p0.2.1, .int .i64 p0.2.2.1, .int .i64 p0.2.2.2.1, .int .i64 p0.2.2.2.2.1, .int .i64 p0.2.2.2.2.2.1, .int .i64 p0.2.2.2.2.2.2.1, .int .i64 p0.2.2.2.2.2.2.2.1, .int .i64 p0.2.2.2.2.2.2.2.2.1, v1]) (v := Value.int .i64 p0.2.1) hF rfl (hN (none, b1, [.int .i64 p0.1, .int .i64 p0.2.1, .int .i64 p0.2.2.1, .int .i64 p0.2.2.2.1, .int .i64 p0.2.2.2.2.1, .int .i64 p0.2.2.2.2.2.1, .int .i64 p0.2.2.2.2.2.2.1, .int .i64 p0.2.2.2.2.2.2.2.1, .int .i64 p0.2.2.2.2.2.2.2.2.1, v1]) (.head _) rfl) T3 rfl) rfl rfl (fun a hF => ?_)
     refine pl_w (R := []) hF rfl (wanted_y hF rfl rfl rfl rfl) rfl rfl (yC fun M Z hN hZ => y_gtr hF rfl rfl) rfl rfl (fun a hF => ?_)
     refine pl_t (R := []) hF rfl rfl (yC fun M Z hN hZ => y_pick_f hF rfl rfl rfl) rfl rfl (fun a hF => ?_)
     refine pl_t (R := []) hF rfl rfl (yC fun M Z hN hZ => y_move hF rfl) rfl rfl (fun a hF => ?_)
     rcases Bool.eq_false_or_eq_true (decide (7 < p0.2.1)) with hb | hb
     ·
      have H := iteT (of_decide_eq_true hb) H
      rw [hb] at hF
      clear hb
      refine pl_skip hF rfl (wanted_n hF rfl rfl rfl rfl rfl) rfl rfl rfl (fun a hF => ?_)
      refine pl_skip hF rfl (wanted_n hF rfl rfl rfl rfl rfl) rfl rfl rfl (fun a hF => ?_)
      refine pl_f rfl ?_
      refine lsn hF rfl rfl rfl rfl rfl rfl rfl (fun a hF => ?_)
      refine pl_next (N2 := []) (NZ2 := []) (N3 := [(none, b1, [.int .i64 p0.1, .int .i64 p0.2.1, .int .i64 p0.2.2.1, .int .i64 p0.2.2.2.1, .int .i64 p0.2.2.2.2.1, .int .i64 p0.2.2.2.2.2.1, .int .i64 p0.2.2.2.2.2.2.1, .int .i64 p0.2.2.2.2.2.2.2.1, .int .i64 p0.2.2.2.2.2.2.2.2.1, v1]), (some 22, b1, [.int .i64 p0.1, .int .i64 p0.2.1, .int .i64 p0.2.2.1, .int .i64 p0.2.2.2.1, .int .i64 p0.2.2.2.2.1, .int .i64 p0.2.2.2.2.2.1, .int .i64 p0.2.2.2.2.2.2.1, .int .i64 p0.2.2.2.2.2.2.2.1, .int .i64 p0.2.2.2.2.2.2.2.2.1, v1]), (some 21, b1, [.int .i64 p0.1, .int .i64 p0.2.1, .int .i64 p0.2.2.1, .int .i64 p0.2.2.2.1, .int .i64 p0.2.2.2.2.1, .int .i64 p0.2.2.2.2.2.1, .int .i64 p0.2.2.2.2.2.2.1, .int .i64 p0.2.2.2.2.2.2.2.1, .int .i64 p0.2.2.2.2.2.2.2.2.1, v1])]) (NZ3 := []) hW rfl rfl (all_cons (fun _ => (.head _)) (all_cons (fun _ => (.head _)) (all_cons (fun h => rel_dead (by kernel_rfl) h) all_nil))) all_nil ?_
      refine pl_f rfl ?_
      refine lsn hF rfl rfl rfl rfl rfl rfl rfl (fun a hF => ?_)
      refine pl_next (N2 := []) (NZ2 := []) (N3 := [(none, b1, [.int .i64 p0.1, .int .i64 p0.2.1, .int .i64 p0.2.2.1, .int .i64 p0.2.2.2.1, .int .i64 p0.2.2.2.2.1, .int .i64 p0.2.2.2.2.2.1, .int .i64 p0.2.2.2.2.2.2.1, .int .i64 p0.2.2.2.2.2.2.2.1, .int .i64 p0.2.2.2.2.2.2.2.2.1, v1]), (some 22, b1, [.int .i64 p0.1, .int .i64 p0.2.1, .int .i64 p0.2.2.1, .int .i64 p0.2.2.2.1, .int .i64 p0.2.2.2.2.1, .int .i64 p0.2.2.2.2.2.1, .int .i64 p0.2.2.2.2.2.2.1, .int .i64 p0.2.2.2.2.2.2.2.1, .int .i64 p0.2.2.2.2.2.2.2.2.1, v1]), (some 21, b1, [.int .i64 p0.1, .int .i64 p0.2.1, .int .i64 p0.2.2.1, .int .i64 p0.2.2.2.1, .int .i64 p0.2.2.2.2.1, .int .i64 p0.2.2.2.2.2.1, .int .i64 p0.2.2.2.2.2.2.1, .int .i64 p0.2.2.2.2.2.2.2.1, .int .i64 p0.2.2.2.2.2.2.2.2.1, v1])]) (NZ3 := []) hW rfl rfl (all_cons (fun _ => (.head _)) (all_cons (fun h => rel_dead (by kernel_rfl) h) (all_cons (fun h => rel_dead (by kernel_rfl) h) all_nil))) all_nil ?_
      refine pl_skip hF rfl (wanted_n hF rfl rfl rfl rfl rfl) rfl rfl rfl (fun a hF => ?_)
      refine pl_t (R := []) hF rfl rfl (yC fun M Z hN hZ => y_pick_t hF rfl rfl rfl) rfl rfl (fun a hF => ?_)
      refine pl_t (R := []) hF rfl rfl (yC fun M Z hN hZ => y_move hF rfl) rfl rfl (fun a hF => ?_)
      refine pl_skip hF rfl (wanted_n hF rfl rfl rfl rfl rfl) rfl rfl rfl (fun a hF => ?_)
      refine pl_f rfl ?_
      refine lsn hF rfl rfl rfl rfl rfl rfl rfl (fun a hF => ?_)
      refine pl_next (N2 := []) (NZ2 := []) (N3 := [(none, b1, [.int .i64 p0.1, .int .i64 p0.2.1, .int .i64 p0.2.2.1, .int .i64 p0.2.2.2.1, .int .i64 p0.2.2.2.2.1, .int .i64 p0.2.2.2.2.2.1, .int .i64 p0.2.2.2.2.2.2.1, .int .i64 p0.2.2.2.2.2.2.2.1, .int .i64 p0.2.2.2.2.2.2.2.2.1, v1]), (some 22, b1, [.int .i64 p0.1, .int .i64 p0.2.1, .int .i64 p0.2.2.1, .int .i64 p0.2.2.2.1, .int .i64 p0.2.2.2.2.1, .int .i64 p0.2.2.2.2.2.1, .int .i64 p0.2.2.2.2.2.2.1, .int .i64 p0.2.2.2.2.2.2.2.1, .int .i64 p0.2.2.2.2.2.2.2.2.1, v1]), (some 21, b1, [.int .i64 p0.1, .int .i64 p0.2.1, .int .i64 p0.2.2.1, .int .i64 p0.2.2.2.1, .int .i64 p0.2.2.2.2.1, .int .i64 p0.2.2.2.2.2.1, .int .i64 p0.2.2.2.2.2.2.1, .int .i64 p0.2.2.2.2.2.2.2.1, .int .i64 p0.2.2.2.2.2.2.2.2.1, v1])]) (NZ3 := []) hW rfl rfl (all_cons (fun _ => (.head _)) (all_cons (fun h => rel_dead (by kernel_rfl) h) (all_cons (fun h => rel_dead (by kernel_rfl) h) all_nil))) all_nil ?_
      refine pl_skip hF rfl (wanted_n hF rfl rfl rfl rfl rfl) rfl rfl rfl (fun a hF => ?_)
      refine pl_t (R := []) hF rfl rfl (yC fun M Z hN hZ => y_pick_t hF rfl rfl rfl) rfl rfl (fun a hF => ?_)
      refine pl_t (R := []) hF rfl rfl (yC fun M Z hN hZ => y_move hF rfl) rfl rfl (fun a hF => ?_)
      refine pl_skip hF rfl (wanted_n hF rfl rfl rfl rfl rfl) rfl rfl rfl (fun a hF => ?_)
      refine pl_skip hF rfl (wanted_n hF rfl rfl rfl rfl rfl) rfl rfl rfl (fun a hF => ?_)
      refine pl_skip hF rfl (wanted_n hF rfl rfl rfl rfl rfl) rfl rfl rfl (fun a hF => ?_)
      refine pl_skip hF rfl (wanted_n hF rfl rfl rfl rfl rfl) rfl rfl rfl (fun a hF => ?_)
      refine pl_t (R := []) hF rfl rfl (yC fun M Z hN hZ => y_pick_t hF rfl rfl rfl) rfl rfl (fun a hF => ?_)
      refine pl_end ?_
      refine c_then ?_
      exact ⟨_, H, hF.re ⟨rfl, rfl, rfl, trivial⟩, hW⟩
     ·
      have H := iteF (of_decide_eq_false hb) H
      rw [hb] at hF
      clear hb
      refine pl_w (R := [22]) hF rfl (wanted_y hF rfl rfl rfl rfl) rfl rfl (yC fun M Z hN hZ => y_load_m (cs := [.int .i64 p0.1, .int .i64 p0.2.1, .int .i64 p0.2.2.1, .int .i64 p0.2.2.2.1, .int .i64 p0.2.2.2.2.1, .int .i64 p0.2.2.2.2.2.1, .int .i64 p0.2.2.2.2.2.2.1, .int .i64 p0.2.2.2.2.2.2.2.1, .int .i64 p0.2.2.2.2.2.2.2.2.1, v1]) (v := Value.agg #[.int .i64 p0.1, .int .i64 p0.2.1, .int .i64 p0.2.2.1, .int .i64 p0.2.2.2.1, .int .i64 p0.2.2.2.2.1, .int .i64 p0.2.2.2.2.2.1, .int .i64 p0.2.2.2.2.2.2.1, .int .i64 p0.2.2.2.2.2.2.2.1, .int .i64 p0.2.2.2.2.2.2.2.2.1, v1]) hF rfl (hN ((some 22), b1, [.int .i64 p0.1, .int .i64 p0.2.1, .int .i64 p0.2.2.1, .int .i64 p0.2.2.2.1, .int .i64 p0.2.2.2.2.1, .int .i64 p0.2.2.2.2.2.1, .int .i64 p0.2.2.2.2.2.2.1, .int .i64 p0.2.2.2.2.2.2.2.1, .int .i64 p0.2.2.2.2.2.2.2.2.1, v1]) (.tail _ (.head _)) rfl) T24 rfl) (by kernel_rfl) rfl (fun a hF => ?_)
      refine pl_w (R := [21]) hF rfl (wanted_y hF rfl rfl rfl rfl) rfl rfl (yC fun M Z hN hZ => y_load_m (cs := [.int .i64 p0.1, .int .i64 p0.2.1, .int .i64 p0.2.2.1, .int .i64 p0.2.2.2.1, .int .i64 p0.2.2.2.2.1, .int .i64 p0.2.2.2.2.2.1, .int .i64 p0.2.2.2.2.2.2.1, .int .i64 p0.2.2.2.2.2.2.2.1, .int .i64 p0.2.2.2.2.2.2.2.2.1, v1]) (v := Value.agg #[.int .i64 p0.1, .int .i64 p0.2.1, .int .i64 p0.2.2.1, .int .i64 p0.2.2.2.1, .int .i64 p0.2.2.2.2.1, .int .i64 p0.2.2.2.2.2.1, .int .i64 p0.2.2.2.2.2.2.1, .int .i64 p0.2.2.2.2.2.2.2.1, .int .i64 p0.2.2.2.2.2.2.2.2.1, v1]) hF rfl (hN ((some 21), b1, [.int .i64 p0.1, .int .i64 p0.2.1, .int .i64 p0.2.2.1, .int .i64 p0.2.2.2.1, .int .i64 p0.2.2.2.2.1, .int .i64 p0.2.2.2.2.2.1, .int .i64 p0.2.2.2.2.2.2.1, .int .i64 p0.2.2.2.2.2.2.2.1, .int .i64 p0.2.2.2.2.2.2.2.2.1, v1]) (.tail _ (.tail _ (.head _))) rfl) T24 rfl) (by kernel_rfl) rfl (fun a hF => ?_)
      refine pl_f rfl ?_
      refine ls_g (wanted_y hF rfl rfl rfl rfl) ?_
      obtain ⟨x2, h2, H⟩ := bindE H
      refine l_callG (Ml := []) (Zl := []) (M := [(b1, [.int .i64 p0.1, .int .i64 p0.2.1, .int .i64 p0.2.2.1, .int .i64 p0.2.2.2.1, .int .i64 p0.2.2.2.2.1, .int .i64 p0.2.2.2.2.2.1, .int .i64 p0.2.2.2.2.2.2.1, .int .i64 p0.2.2.2.2.2.2.2.1, .int .i64 p0.2.2.2.2.2.2.2.2.1, v1])]) (Z := []) (β := Value) (rv := fun x => .agg #[.int .i64 x2.1, .int .i64 x2.2.1, .int .i64 x2.2.2.1, .int .i64 x2.2.2.2.1, .int .i64 x2.2.2.2.2.1, .int .i64 x2.2.2.2.2.2.1, .int .i64 x2.2.2.2.2.2.2.1, .int .i64 x2.2.2.2.2.2.2.2.1, .int .i64 x2.2.2.2.2.2.2.2.2.1, x]) (MM := fun x => []) (ZZ := fun x => [frz x R42 x2.2.2.2.2.2.2.2.2.2]) hF hW H11 rfl rfl (fun hL => r16_Clean_c _ w (v1) p0 _ h2 (Sl.hide EX42 h1 (hW.old s_v1))) (fun x a w hF hW => ?_)
      obtain ⟨v3, rfl⟩ : ∃ y, y = x := ⟨x, rfl⟩
      have hW : Stw ⟨Y, [], w0⟩ [(b1, [.int .i64 p0.1, .int .i64 p0.2.1, .int .i64 p0.2.2.1, .int .i64 p0.2.2.2.1, .int .i64 p0.2.2.2.2.1, .int .i64 p0.2.2.2.2.2.1, .int .i64 p0.2.2.2.2.2.2.1, .int .i64 p0.2.2.2.2.2.2.2.1, .int .i64 p0.2.2.2.2.2.2.2.2.1, v1])] [frz v3 R42 x2.2.2.2.2.2.2.2.2.2] w := hW
      refine pl_next (N2 := []) (NZ2 := []) (N3 := [(none, b1, [.int .i64 p0.1, .int .i64 p0.2.1, .int .i64 p0.2.2.1, .int .i64 p0.2.2.2.1, .int .i64 p0.2.2.2.2.1, .int .i64 p0.2.2.2.2.2.1, .int .i64 p0.2.2.2.2.2.2.1, .int .i64 p0.2.2.2.2.2.2.2.1, .int .i64 p0.2.2.2.2.2.2.2.2.1, v1]), (some 22, b1, [.int .i64 p0.1, .int .i64 p0.2.1, .int .i64 p0.2.2.1, .int .i64 p0.2.2.2.1, .int .i64 p0.2.2.2.2.1, .int .i64 p0.2.2.2.2.2.1, .int .i64 p0.2.2.2.2.2.2.1, .int .i64 p0.2.2.2.2.2.2.2.1, .int .i64 p0.2.2.2.2.2.2.2.2.1, v1]), (some 21, b1, [.int .i64 p0.1, .int .i64 p0.2.1, .int .i64 p0.2.2.1, .int .i64 p0.2.2.2.1, .int .i64 p0.2.2.2.2.1, .int .i64 p0.2.2.2.2.2.1, .int .i64 p0.2.2.2.2.2.2.1, .int .i64 p0.2.2.2.2.2.2.2.1, .int .i64 p0.2.2.2.2.2.2.2.2.1, v1])]) (NZ3 := []) hW rfl rfl (all_cons (fun _ => (.head _)) (all_cons (fun _ => (.head _)) (all_cons (fun h => rel_dead (by kernel_rfl) h) all_nil))) all_nil ?_
      refine pl_f rfl ?_
      refine ls_g (wanted_y hF rfl rfl rfl rfl) ?_
      obtain ⟨x3, h3, H⟩ := bindE H
      refine ls hF hW rfl (y_call (v := Value.bool x3) hF H9 rfl (fun w hW => r16_Same_c any w (v1) (v3) p0 x2 _ h3 (((rdc_hide EX42 h1 (rdc_ro h_v1)) : Rdc _ _ _ _ _ _) w hW).nx (((rdc_frz 0 rfl) : Rdc _ _ _ _ _ _) w hW).nx)) (fun a w hF hW => ?_)
      refine pl_next (N2 := [(some 27, b1, [.int .i64 p0.1, .int .i64 p0.2.1, .int .i64 p0.2.2.1, .int .i64 p0.2.2.2.1, .int .i64 p0.2.2.2.2.1, .int .i64 p0.2.2.2.2.2.1, .int .i64 p0.2.2.2.2.2.2.1, .int .i64 p0.2.2.2.2.2.2.2.1, .int .i64 p0.2.2.2.2.2.2.2.2.1, v1])]) (NZ2 := []) (N3 := [(none, b1, [.int .i64 p0.1, .int .i64 p0.2.1, .int .i64 p0.2.2.1, .int .i64 p0.2.2.2.1, .int .i64 p0.2.2.2.2.1, .int .i64 p0.2.2.2.2.2.1, .int .i64 p0.2.2.2.2.2.2.1, .int .i64 p0.2.2.2.2.2.2.2.1, .int .i64 p0.2.2.2.2.2.2.2.2.1, v1]), (some 22, b1, [.int .i64 p0.1, .int .i64 p0.2.1, .int .i64 p0.2.2.1, .int .i64 p0.2.2.2.1, .int .i64 p0.2.2.2.2.1, .int .i64 p0.2.2.2.2.2.1, .int .i64 p0.2.2.2.2.2.2.1, .int .i64 p0.2.2.2.2.2.2.2.1, .int .i64 p0.2.2.2.2.2.2.2.2.1, v1]), (some 21, b1, [.int .i64 p0.1, .int .i64 p0.2.1, .int .i64 p0.2.2.1, .int .i64 p0.2.2.2.1, .int .i64 p0.2.2.2.2.1, .int .i64 p0.2.2.2.2.2.1, .int .i64 p0.2.2.2.2.2.2.1, .int .i64 p0.2.2.2.2.2.2.2.1, .int .i64 p0.2.2.2.2.2.2.2.2.1, v1]), (some 27, b1, [.int .i64 p0.1, .int .i64 p0.2.1, .int .i64 p0.2.2.1, .int .i64 p0.2.2.2.1, .int .i64 p0.2.2.2.2.1, .int .i64 p0.2.2.2.2.2.1, .int .i64 p0.2.2.2.2.2.2.1, .int .i64 p0.2.2.2.2.2.2.2.1, .int .i64 p0.2.2.2.2.2.2.2.2.1, v1])]) (NZ3 := []) hW rfl rfl (all_cons (fun _ => (.head _)) (all_cons (fun h => rel_dead (by kernel_rfl) h) (all_cons (fun h => rel_dead (by kernel_rfl) h) (all_cons (fun _ => (.head _)) all_nil)))) all_nil ?_
      refine pl_w (R := []) hF rfl (wanted_y hF rfl rfl rfl rfl) rfl rfl (yC fun M Z hN hZ => y_not hF rfl) rfl rfl (fun a hF => ?_)
      refine pl_t (R := []) hF rfl rfl (yC fun M Z hN hZ => y_pick_f hF rfl rfl rfl) rfl rfl (fun a hF => ?_)
      refine pl_t (R := []) hF rfl rfl (yC fun M Z hN hZ => y_move hF rfl) rfl rfl (fun a hF => ?_)
      rcases Bool.eq_false_or_eq_true (!x3) with hb | hb
      ·
       have H := iteT hb H
       rw [hb] at hF
       clear hb
       refine pl_skip hF rfl (wanted_n hF rfl rfl rfl rfl rfl) rfl rfl rfl (fun a hF => ?_)
       refine pl_f rfl ?_
       refine lsn hF rfl rfl rfl rfl rfl rfl rfl (fun a hF => ?_)
       refine pl_next (N2 := []) (NZ2 := []) (N3 := [(none, b1, [.int .i64 p0.1, .int .i64 p0.2.1, .int .i64 p0.2.2.1, .int .i64 p0.2.2.2.1, .int .i64 p0.2.2.2.2.1, .int .i64 p0.2.2.2.2.2.1, .int .i64 p0.2.2.2.2.2.2.1, .int .i64 p0.2.2.2.2.2.2.2.1, .int .i64 p0.2.2.2.2.2.2.2.2.1, v1]), (some 22, b1, [.int .i64 p0.1, .int .i64 p0.2.1, .int .i64 p0.2.2.1, .int .i64 p0.2.2.2.1, .int .i64 p0.2.2.2.2.1, .int .i64 p0.2.2.2.2.2.1, .int .i64 p0.2.2.2.2.2.2.1, .int .i64 p0.2.2.2.2.2.2.2.1, .int .i64 p0.2.2.2.2.2.2.2.2.1, v1]), (some 21, b1, [.int .i64 p0.1, .int .i64 p0.2.1, .int .i64 p0.2.2.1, .int .i64 p0.2.2.2.1, .int .i64 p0.2.2.2.2.1, .int .i64 p0.2.2.2.2.2.1, .int .i64 p0.2.2.2.2.2.2.1, .int .i64 p0.2.2.2.2.2.2.2.1, .int .i64 p0.2.2.2.2.2.2.2.2.1, v1]), (some 27, b1, [.int .i64 p0.1, .int .i64 p0.2.1, .int .i64 p0.2.2.1, .int .i64 p0.2.2.2.1, .int .i64 p0.2.2.2.2.1, .int .i64 p0.2.2.2.2.2.1, .int .i64 p0.2.2.2.2.2.2.1, .int .i64 p0.2.2.2.2.2.2.2.1, .int .i64 p0.2.2.2.2.2.2.2.2.1, v1])]) (NZ3 := []) hW rfl rfl (all_cons (fun _ => (.head _)) (all_cons (fun h => rel_dead (by kernel_rfl) h) (all_cons (fun h => rel_dead (by kernel_rfl) h) (all_cons (fun h => rel_dead (by kernel_rfl) h) all_nil)))) all_nil ?_
       refine pl_skip hF rfl (wanted_n hF rfl rfl rfl rfl rfl) rfl rfl rfl (fun a hF => ?_)
       refine pl_t (R := []) hF rfl rfl (yC fun M Z hN hZ => y_pick_t hF rfl rfl rfl) rfl rfl (fun a hF => ?_)
       refine pl_t (R := []) hF rfl rfl (yC fun M Z hN hZ => y_move hF rfl) rfl rfl (fun a hF => ?_)
       refine pl_skip hF rfl (wanted_n hF rfl rfl rfl rfl rfl) rfl rfl rfl (fun a hF => ?_)
       refine pl_skip hF rfl (wanted_n hF rfl rfl rfl rfl rfl) rfl rfl rfl (fun a hF => ?_)
       refine pl_skip hF rfl (wanted_n hF rfl rfl rfl rfl rfl) rfl rfl rfl (fun a hF => ?_)
       refine pl_skip hF rfl (wanted_n hF rfl rfl rfl rfl rfl) rfl rfl rfl (fun a hF => ?_)
       refine pl_t (R := []) hF rfl rfl (yC fun M Z hN hZ => y_pick_t hF rfl rfl rfl) rfl rfl (fun a hF => ?_)
       refine pl_end ?_
       refine c_then ?_
       have hW := hW.sub (M' := [(b1, [.int .i64 p0.1, .int .i64 p0.2.1, .int .i64 p0.2.2.1, .int .i64 p0.2.2.2.1, .int .i64 p0.2.2.2.2.1, .int .i64 p0.2.2.2.2.2.1, .int .i64 p0.2.2.2.2.2.2.1, .int .i64 p0.2.2.2.2.2.2.2.1, .int .i64 p0.2.2.2.2.2.2.2.2.1, v1])]) (Z' := []) (List.Sublist.refl _) (List.nil_sublist _)
       exact ⟨_, H, hF.re ⟨rfl, rfl, rfl, trivial⟩, hW⟩
      ·
       have H := iteF (by rw [hb]; decide) H
       rw [hb] at hF
       clear hb
       refine pl_w (R := [27]) hF rfl (wanted_y hF rfl rfl rfl rfl) rfl rfl (yC fun M Z hN hZ => y_load_m (cs := [.int .i64 p0.1, .int .i64 p0.2.1, .int .i64 p0.2.2.1, .int .i64 p0.2.2.2.1, .int .i64 p0.2.2.2.2.1, .int .i64 p0.2.2.2.2.2.1, .int .i64 p0.2.2.2.2.2.2.1, .int .i64 p0.2.2.2.2.2.2.2.1, .int .i64 p0.2.2.2.2.2.2.2.2.1, v1]) (v := Value.agg #[.int .i64 p0.1, .int .i64 p0.2.1, .int .i64 p0.2.2.1, .int .i64 p0.2.2.2.1, .int .i64 p0.2.2.2.2.1, .int .i64 p0.2.2.2.2.2.1, .int .i64 p0.2.2.2.2.2.2.1, .int .i64 p0.2.2.2.2.2.2.2.1, .int .i64 p0.2.2.2.2.2.2.2.2.1, v1]) hF rfl (hN ((some 27), b1, [.int .i64 p0.1, .int .i64 p0.2.1, .int .i64 p0.2.2.1, .int .i64 p0.2.2.2.1, .int .i64 p0.2.2.2.2.1, .int .i64 p0.2.2.2.2.2.1, .int .i64 p0.2.2.2.2.2.2.1, .int .i64 p0.2.2.2.2.2.2.2.1, .int .i64 p0.2.2.2.2.2.2.2.2.1, v1]) (.tail _ (.tail _ (.tail _ (.head _)))) rfl) T24 rfl) (by kernel_rfl) rfl (fun a hF => ?_)
       refine pl_f rfl ?_
       refine ls_g (wanted_y hF rfl rfl rfl rfl) ?_
       refine ls hF hW rfl (y_call (v := Value.bool (r16_numbers p0)) hF H21 rfl (fun w hW => r16_numbers_c any w (v1) p0 _ rfl (((rdc_hide EX42 h1 (rdc_ro h_v1)) : Rdc _ _ _ _ _ _) w hW).nx)) (fun a w hF hW => ?_)
       refine pl_next (N2 := []) (NZ2 := []) (N3 := [(none, b1, [.int .i64 p0.1, .int .i64 p0.2.1, .int .i64 p0.2.2.1, .int .i64 p0.2.2.2.1, .int .i64 p0.2.2.2.2.1, .int .i64 p0.2.2.2.2.2.1, .int .i64 p0.2.2.2.2.2.2.1, .int .i64 p0.2.2.2.2.2.2.2.1, .int .i64 p0.2.2.2.2.2.2.2.2.1, v1]), (some 22, b1, [.int .i64 p0.1, .int .i64 p0.2.1, .int .i64 p0.2.2.1, .int .i64 p0.2.2.2.1, .int .i64 p0.2.2.2.2.1, .int .i64 p0.2.2.2.2.2.1, .int .i64 p0.2.2.2.2.2.2.1, .int .i64 p0.2.2.2.2.2.2.2.1, .int .i64 p0.2.2.2.2.2.2.2.2.1, v1]), (some 21, b1, [.int .i64 p0.1, .int .i64 p0.2.1, .int .i64 p0.2.2.1, .int .i64 p0.2.2.2.1, .int .i64 p0.2.2.2.2.1, .int .i64 p0.2.2.2.2.2.1, .int .i64 p0.2.2.2.2.2.2.1, .int .i64 p0.2.2.2.2.2.2.2.1, .int .i64 p0.2.2.2.2.2.2.2.2.1, v1]), (some 27, b1, [.int .i64 p0.1, .int .i64 p0.2.1, .int .i64 p0.2.2.1, .int .i64 p0.2.2.2.1, .int .i64 p0.2.2.2.2.1, .int .i64 p0.2.2.2.2.2.1, .int .i64 p0.2.2.2.2.2.2.1, .int .i64 p0.2.2.2.2.2.2.2.1, .int .i64 p0.2.2.2.2.2.2.2.2.1, v1])]) (NZ3 := []) hW rfl rfl (all_cons (fun _ => (.head _)) (all_cons (fun h => rel_dead (by kernel_rfl) h) (all_cons (fun h => rel_dead (by kernel_rfl) h) (all_cons (fun h => rel_dead (by kernel_rfl) h) all_nil)))) all_nil ?_
       refine pl_w (R := []) hF rfl (wanted_y hF rfl rfl rfl rfl) rfl rfl (yC fun M Z hN hZ => y_not hF rfl) rfl rfl (fun a hF => ?_)
       refine pl_t (R := []) hF rfl rfl (yC fun M Z hN hZ => y_pick_f hF rfl rfl rfl) rfl rfl (fun a hF => ?_)
       refine pl_t (R := []) hF rfl rfl (yC fun M Z hN hZ => y_move hF rfl) rfl rfl (fun a hF => ?_)
       rcases Bool.eq_false_or_eq_true (!(r16_numbers p0)) with hb | hb
       ·
        have H := iteT hb H
        rw [hb] at hF
        clear hb
        refine pl_skip hF rfl (wanted_n hF rfl rfl rfl rfl rfl) rfl rfl rfl (fun a hF => ?_)
        refine pl_skip hF rfl (wanted_n hF rfl rfl rfl rfl rfl) rfl rfl rfl (fun a hF => ?_)
        refine pl_skip hF rfl (wanted_n hF rfl rfl rfl rfl rfl) rfl rfl rfl (fun a hF => ?_)
        refine pl_skip hF rfl (wanted_n hF rfl rfl rfl rfl rfl) rfl rfl rfl (fun a hF => ?_)
        refine pl_t (R := []) hF rfl rfl (yC fun M Z hN hZ => y_pick_t hF rfl rfl rfl) rfl rfl (fun a hF => ?_)
        refine pl_end ?_
        refine c_then ?_
        have hW := hW.sub (M' := [(b1, [.int .i64 p0.1, .int .i64 p0.2.1, .int .i64 p0.2.2.1, .int .i64 p0.2.2.2.1, .int .i64 p0.2.2.2.2.1, .int .i64 p0.2.2.2.2.2.1, .int .i64 p0.2.2.2.2.2.2.1, .int .i64 p0.2.2.2.2.2.2.2.1, .int .i64 p0.2.2.2.2.2.2.2.2.1, v1])]) (Z' := []) (List.Sublist.refl _) (List.nil_sublist _)
        exact ⟨_, H, hF.re ⟨rfl, rfl, rfl, trivial⟩, hW⟩
       ·
        have H := iteF (by rw [hb]; decide) H
        rw [hb] at hF
        clear hb
        refine pl_w (R := []) hF rfl (wanted_y hF rfl rfl rfl rfl) rfl rfl (yC fun M Z hN hZ => y_fieldAddr u24_ rfl rfl rfl T22 hF rfl 9 rfl) rfl rfl (fun a hF => ?_)
        refine pl_w (R := []) hF rfl (wanted_y hF rfl rfl rfl rfl) rfl rfl (yC fun M Z hN hZ => y_load_m (cs := [.int .i64 p0.1, .int .i64 p0.2.1, .int .i64 p0.2.2.1, .int .i64 p0.2.2.2.1, .int .i64 p0.2.2.2.2.1, .int .i64 p0.2.2.2.2.2.1, .int .i64 p0.2.2.2.2.2.2.1, .int .i64 p0.2.2.2.2.2.2.2.1, .int .i64 p0.2.2.2.2.2.2.2.2.1, v1]) (v := v1) hF rfl (hN (none, b1, [.int .i64 p0.1, .int .i64 p0.2.1, .int .i64 p0.2.2.1, .int .i64 p0.2.2.2.1, .int .i64 p0.2.2.2.2.1, .int .i64 p0.2.2.2.2.2.1, .int .i64 p0.2.2.2.2.2.2.1, .int .i64 p0.2.2.2.2.2.2.2.1, .int .i64 p0.2.2.2.2.2.2.2.2.1, v1]) (.head _) rfl) T22 rfl) rfl rfl (fun a hF => ?_)
        refine pl_w (R := []) hF rfl (wanted_y hF rfl rfl rfl rfl) rfl rfl (yC fun M Z hN hZ => y_len (r := R42) (l := p0.2.2.2.2.2.2.2.2.2) u22_ rfl hF rfl (rdc_hide EX42 h1 (rdc_ro h_v1))) rfl rfl (fun a hF => ?_)
        refine pl_w (R := []) hF rfl (wanted_y hF rfl rfl rfl rfl) rfl rfl (yC fun M Z hN hZ => y_gtr hF rfl rfl) rfl rfl (fun a hF => ?_)
        refine pl_t (R := []) hF rfl rfl (yC fun M Z hN hZ => y_pick_f hF rfl rfl rfl) rfl rfl (fun a hF => ?_)
        refine pl_end ?_
        refine c_then ?_
        have hW := hW.sub (M' := [(b1, [.int .i64 p0.1, .int .i64 p0.2.1, .int .i64 p0.2.2.1, .int .i64 p0.2.2.2.1, .int .i64 p0.2.2.2.2.1, .int .i64 p0.2.2.2.2.2.1, .int .i64 p0.2.2.2.2.2.2.1, .int .i64 p0.2.2.2.2.2.2.2.1, .int .i64 p0.2.2.2.2.2.2.2.2.1, v1])]) (Z' := []) (List.Sublist.refl _) (List.nil_sublist _)
        exact ⟨_, H, hF.re ⟨rfl, rfl, rfl, trivial⟩, hW⟩
 rintro a w ⟨x1, hj, hF, hW⟩
 have hj := Option.some.inj hj
 subst hj
 have H := K1
 clear G1 K1
 refine c_cond hF rfl (fun hb => ?_) (fun hb => ?_)
 ·
  have H := iteT hb H
  rw [hb] at hF
  clear hb
  refine c_seq ?_
  refine reg_list ?_
  refine ls hF hW rfl ((y_assign hF rfl).q) (fun a w hF hW => ?_)
  refine ls_nil ?_
  refine c_then ?_
  refine wp_ret ?_
  refine r_then ?_
  have H := Option.some.inj H
  subst H
  refine post1 (.inl rfl) hF hW rfl (rv_tmp hF rfl) ?_
  exact ⟨rfl, hW.done⟩
 ·
  have H := iteF (by rw [hb]; decide) H
  rw [hb] at hF
  clear hb
  refine wp_skip ?_
  refine c_then ?_
  obtain ⟨o2, G2, K2, L2⟩ := orE H
  refine c_seqJ (fun a w => some (Sum.inl ()) = some o2 ∧ Fr 73 [] [(2, .bool false)] a ∧ Stw ⟨Y, [], w0⟩ [(b1, [.int .i64 p0.1, .int .i64 p0.2.1, .int .i64 p0.2.2.1, .int .i64 p0.2.2.2.1, .int .i64 p0.2.2.2.2.1, .int .i64 p0.2.2.2.2.2.1, .int .i64 p0.2.2.2.2.2.2.1, .int .i64 p0.2.2.2.2.2.2.2.1, .int .i64 p0.2.2.2.2.2.2.2.2.1, v1])] [] w) ?_ ?_
  ·
   have H := G2
   clear G2 K2
   refine c_seq ?_
   refine reg_list ?_
   refine ls hF hW rfl ((y_assign hF rfl).q) (fun a w hF hW => ?_)
   refine ls_nil ?_
   refine c_then ?_
   refine wp_block ?_
   refine c_loopW H (fun s a w => Fr 73 [] [(1, .pointer (some ⟨b1, 0, none⟩)), (2, .bool false), (3, .int .i64 s)] a ∧ Stw ⟨Y, [], w0⟩ [(b1, [.int .i64 p0.1, .int .i64 p0.2.1, .int .i64 p0.2.2.1, .int .i64 p0.2.2.2.1, .int .i64 p0.2.2.2.2.1, .int .i64 p0.2.2.2.2.2.1, .int .i64 p0.2.2.2.2.2.2.1, .int .i64 p0.2.2.2.2.2.2.2.1, .int .i64 p0.2.2.2.2.2.2.2.2.1, v1])] [] w) ⟨hF.re ⟨rfl, rfl, rfl, trivial⟩, hW⟩ (fun s o a w H L3 hR => ?_)
   obtain ⟨x4, rfl⟩ : ∃ x, x = s := ⟨s, rfl⟩
   obtain ⟨hF, hW⟩ := hR
   have hF : Fr 73 [] [(1, .pointer (some ⟨b1, 0, none⟩)), (2, .bool false), (3, .int .i64 x4)] a := hF
   have hW : Stw ⟨Y, [], w0⟩ [(b1, [.int .i64 p0.1, .int .i64 p0.2.1, .int .i64 p0.2.2.1, .int .i64 p0.2.2.2.1, .int .i64 p0.2.2.2.2.1, .int .i64 p0.2.2.2.2.2.1, .int .i64 p0.2.2.2.2.2.2.1, .int .i64 p0.2.2.2.2.2.2.2.1, .int .i64 p0.2.2.2.2.2.2.2.2.1, v1])] [] w := hW
   rw [r16_Right_l1] at H
   refine c_seq ?_
   refine c_seq ?_
   refine reg_list ?_
   refine ls hF hW rfl ((y_move hF rfl).q) (fun a w hF hW => ?_)
   refine ls hF hW rfl ((y_fieldAddr u24_ rfl rfl rfl T22 hF rfl 9 rfl).q) (fun a w hF hW => ?_)
   refine ls hF hW rfl ((y_load (v := v1) 0 hF rfl rfl T22 rfl).q) (fun a w hF hW => ?_)
   refine ls hF hW rfl ((y_len (r := R42) (l := p0.2.2.2.2.2.2.2.2.2) u22_ rfl hF rfl (rdc_hide EX42 h1 (rdc_ro h_v1))).q) (fun a w hF hW => ?_)
   refine ls hF hW rfl ((y_lss hF rfl rfl).q) (fun a w hF hW => ?_)
   refine ls_nil ?_
   refine c_then ?_
   refine c_cond hF rfl (fun hb => ?_) (fun hb => ?_)
   ·
    have H := iteT (of_decide_eq_true hb) H
    rw [hb] at hF
    clear hb
    refine wp_skip ?_
    refine c_then ?_
    refine c_seq ?_
    refine wp_block ?_
    obtain ⟨o4, G4, K4⟩ := bindE H
    refine c_seqJ (fun a w => ∃ x5 : Bool, some (x5) = some o4 ∧ Fr 73 [] [(1, .pointer (some ⟨b1, 0, none⟩)), (2, .bool false), (3, .int .i64 x4), (72, .bool x5)] a ∧ Stw ⟨Y, [], w0⟩ [(b1, [.int .i64 p0.1, .int .i64 p0.2.1, .int .i64 p0.2.2.1, .int .i64 p0.2.2.2.1, .int .i64 p0.2.2.2.2.1, .int .i64 p0.2.2.2.2.2.1, .int .i64 p0.2.2.2.2.2.2.1, .int .i64 p0.2.2.2.2.2.2.2.1, .int .i64 p0.2.2.2.2.2.2.2.2.1, v1])] [] w) ?_ ?_
    ·
     have H := G4
     clear G4 K4
     refine reg_list ?_
     refine ls hF hW rfl ((y_fieldAddr u24_ rfl rfl rfl T22 hF rfl 9 rfl).q) (fun a w hF hW => ?_)
     refine ls hF hW rfl ((y_load (v := v1) 0 hF rfl rfl T22 rfl).q) (fun a w hF hW => ?_)
     refine ls hF hW rfl ((y_move hF rfl).q) (fun a w hF hW => ?_)
     obtain ⟨x6, h4, H⟩ := bindE H
     obtain ⟨v4, h5, h6⟩ := ix_ex h1 h4
     have h7 : EE42 v4 = [.int .i64 x6.1, .int .i64 x6.2.1.1, .int .i64 x6.2.1.2.1.1, .int .i64 x6.2.1.2.1.2.1.1, .int .i64 x6.2.1.2.1.2.1.2.1, .int .i64 x6.2.1.2.1.2.1.2.2.1, .int .i64 x6.2.1.2.1.2.1.2.2.2, .int .i64 x6.2.1.2.1.2.2.1, .int .i64 x6.2.1.2.1.2.2.2.1, .int .i64 x6.2.1.2.1.2.2.2.2.1, .int .i64 x6.2.1.2.1.2.2.2.2.2, (v4.2.1.2.2.1), .bool x6.2.2] := congrArg (fun q : Int × (Int × (Int × (Int × Int × Int × Int) × (Int × Int × Int × Int)) × (List (Int × Int × Int))) × Bool => ([.int .i64 q.1, .int .i64 q.2.1.1, .int .i64 q.2.1.2.1.1, .int .i64 q.2.1.2.1.2.1.1, .int .i64 q.2.1.2.1.2.1.2.1, .int .i64 q.2.1.2.1.2.1.2.2.1, .int .i64 q.2.1.2.1.2.1.2.2.2, .int .i64 q.2.1.2.1.2.2.1, .int .i64 q.2.1.2.1.2.2.2.1, .int .i64 q.2.1.2.1.2.2.2.2.1, .int .i64 q.2.1.2.1.2.2.2.2.2, (v4.2.1.2.2.1), .bool q.2.2] : List Value)) h6
     refine ls hF hW rfl ((y_index (r := RX42) L22 hF rfl rfl (rdc_ro h_v1) h5).q) (fun a w hF hW => ?_)
     refine ls hF hW rfl ((y_fieldAddr u42_ rfl rfl rfl T3 hF rfl (voff v1 + (x4).toNat * 13) rfl).q) (fun a w hF hW => ?_)
     refine ls hF hW rfl ((y_load_el (y := Value.int .i64 x6.1) (j := 0) (i := x4) (enc := EE42) hF rfl rfl (rdc_ro h_v1) h5 FE42 T3 (by rw [h7]; rfl)).q) (fun a w hF hW => ?_)
     refine ls hF hW rfl ((y_lss hF rfl rfl).q) (fun a w hF hW => ?_)
     refine ls hF hW rfl ((y_move hF rfl).q) (fun a w hF hW => ?_)
     rcases Bool.eq_false_or_eq_true (decide (x6.1 < 1)) with hb | hb
     ·
      have H := iteT (of_decide_eq_true hb) H
      rw [hb] at hF
      clear hb
      refine lsn hF rfl rfl rfl rfl rfl rfl rfl (fun a hF => ?_)
      refine lsn hF rfl rfl rfl rfl rfl rfl rfl (fun a hF => ?_)
      refine lsn hF rfl rfl rfl rfl rfl rfl rfl (fun a hF => ?_)
      refine lsn hF rfl rfl rfl rfl rfl rfl rfl (fun a hF => ?_)
      refine lsn hF rfl rfl rfl rfl rfl rfl rfl (fun a hF => ?_)
      refine lsn hF rfl rfl rfl rfl rfl rfl rfl (fun a hF => ?_)
      refine lsn hF rfl rfl rfl rfl rfl rfl rfl (fun a hF => ?_)
      refine ls hF hW rfl ((y_pick_t hF rfl rfl rfl).q) (fun a w hF hW => ?_)
      refine ls hF hW rfl ((y_move hF rfl).q) (fun a w hF hW => ?_)
      refine lsn hF rfl rfl rfl rfl rfl rfl rfl (fun a hF => ?_)
      refine lsn hF rfl rfl rfl rfl rfl rfl rfl (fun a hF => ?_)
      refine lsn hF rfl rfl rfl rfl rfl rfl rfl (fun a hF => ?_)
      refine lsn hF rfl rfl rfl rfl rfl rfl rfl (fun a hF => ?_)
      refine lsn hF rfl rfl rfl rfl rfl rfl rfl (fun a hF => ?_)
      refine lsn hF rfl rfl rfl rfl rfl rfl rfl (fun a hF => ?_)
      refine lsn hF rfl rfl rfl rfl rfl rfl rfl (fun a hF => ?_)
      refine lsn hF rfl rfl rfl rfl rfl rfl rfl (fun a hF => ?_)
      refine ls hF hW rfl ((y_pick_t hF rfl rfl rfl).q) (fun a w hF hW => ?_)
      refine ls_nil ?_
      refine c_then ?_
      exact ⟨_, H, hF.re ⟨rfl, rfl, rfl, rfl, trivial⟩, hW⟩
     ·
      have H := iteF (of_decide_eq_false hb) H
      rw [hb] at hF
      clear hb
      refine ls_w hF hW (wanted_y hF rfl rfl rfl rfl) rfl (Nat.le_of_ble_eq_true rfl) ((y_fieldAddr u24_ rfl rfl rfl T22 hF rfl 9 rfl).q) (fun a w hF hW => ?_)
      refine ls_w hF hW (wanted_y hF rfl rfl rfl rfl) rfl (Nat.le_of_ble_eq_true rfl) ((y_load (v := v1) 0 hF rfl rfl T22 rfl).q) (fun a w hF hW => ?_)
      refine ls_w hF hW (wanted_y hF rfl rfl rfl rfl) rfl (Nat.le_of_ble_eq_true rfl) ((y_move hF rfl).q) (fun a w hF hW => ?_)
      obtain ⟨x7, h8, H⟩ := bindE H
      obtain ⟨v5, h9, h10⟩ := ix_ex h1 h8
      have h11 : EE42 v5 = [.int .i64 x7.1, .int .i64 x7.2.1.1, .int .i64 x7.2.1.2.1.1, .int .i64 x7.2.1.2.1.2.1.1, .int .i64 x7.2.1.2.1.2.1.2.1, .int .i64 x7.2.1.2.1.2.1.2.2.1, .int .i64 x7.2.1.2.1.2.1.2.2.2, .int .i64 x7.2.1.2.1.2.2.1, .int .i64 x7.2.1.2.1.2.2.2.1, .int .i64 x7.2.1.2.1.2.2.2.2.1, .int .i64 x7.2.1.2.1.2.2.2.2.2, (v5.2.1.2.2.1), .bool x7.2.2] := congrArg (fun q : Int × (Int × (Int × (Int × Int × Int × Int) × (Int × Int × Int × Int)) × (List (Int × Int × Int))) × Bool => ([.int .i64 q.1, .int .i64 q.2.1.1, .int .i64 q.2.1.2.1.1, .int .i64 q.2.1.2.1.2.1.1, .int .i64 q.2.1.2.1.2.1.2.1, .int .i64 q.2.1.2.1.2.1.2.2.1, .int .i64 q.2.1.2.1.2.1.2.2.2, .int .i64 q.2.1.2.1.2.2.1, .int .i64 q.2.1.2.1.2.2.2.1, .int .i64 q.2.1.2.1.2.2.2.2.1, .int .i64 q.2.1.2.1.2.2.2.2.2, (v5.2.1.2.2.1), .bool q.2.2] : List Value)) h10
      refine ls_w hF hW (wanted_y hF rfl rfl rfl rfl) rfl (Nat.le_of_ble_eq_true rfl) ((y_index (r := RX42) L22 hF rfl rfl (rdc_ro h_v1) h9).q) (fun a w hF hW => ?_)
      refine ls_w hF hW (wanted_y hF rfl rfl rfl rfl) rfl (Nat.le_of_ble_eq_true rfl) ((y_fieldAddr u42_ rfl rfl rfl T3 hF rfl (voff v1 + (x4).toNat * 13) rfl).q) (fun a w hF hW => ?_)
      refine ls_w hF hW (wanted_y hF rfl rfl rfl rfl) rfl (Nat.le_of_ble_eq_true rfl) ((y_load_el (y := Value.int .i64 x7.1) (j := 0) (i := x4) (enc := EE42) hF rfl rfl (rdc_ro h_v1) h9 FE42 T3 (by rw [h11]; rfl)).q) (fun a w hF hW => ?_)
      refine ls_w hF hW (wanted_y hF rfl rfl rfl rfl) rfl (Nat.le_of_ble_eq_true rfl) ((y_gtr hF rfl rfl).q) (fun a w hF hW => ?_)
      refine ls hF hW rfl ((y_pick_f hF rfl rfl rfl).q) (fun a w hF hW => ?_)
      refine ls hF hW rfl ((y_move hF rfl).q) (fun a w hF hW => ?_)
      rcases Bool.eq_false_or_eq_true (decide (5 < x7.1)) with hb | hb
      ·
       have H := iteT (of_decide_eq_true hb) H
       rw [hb] at hF
       clear hb
       refine lsn hF rfl rfl rfl rfl rfl rfl rfl (fun a hF => ?_)
       refine lsn hF rfl rfl rfl rfl rfl rfl rfl (fun a hF => ?_)
       refine lsn hF rfl rfl rfl rfl rfl rfl rfl (fun a hF => ?_)
       refine lsn hF rfl rfl rfl rfl rfl rfl rfl (fun a hF => ?_)
       refine lsn hF rfl rfl rfl rfl rfl rfl rfl (fun a hF => ?_)
       refine lsn hF rfl rfl rfl rfl rfl rfl rfl (fun a hF => ?_)
       refine lsn hF rfl rfl rfl rfl rfl rfl rfl (fun a hF => ?_)
       refine lsn hF rfl rfl rfl rfl rfl rfl rfl (fun a hF => ?_)
       refine ls hF hW rfl ((y_pick_t hF rfl rfl rfl).q) (fun a w hF hW => ?_)
       refine ls_nil ?_
       refine c_then ?_
       exact ⟨_, H, hF.re ⟨rfl, rfl, rfl, rfl, trivial⟩, hW⟩
      ·
       have H := iteF (of_decide_eq_false hb) H
       rw [hb] at hF
       clear hb
       refine ls_w hF hW (wanted_y hF rfl rfl rfl rfl) rfl (Nat.le_of_ble_eq_true rfl) ((y_fieldAddr u24_ rfl rfl rfl T22 hF rfl 9 rfl).q) (fun a w hF hW => ?_)
       refine ls_w hF hW (wanted_y hF rfl rfl rfl rfl) rfl (Nat.le_of_ble_eq_true rfl) ((y_load (v := v1) 0 hF rfl rfl T22 rfl).q) (fun a w hF hW => ?_)
       refine ls_w hF hW (wanted_y hF rfl rfl rfl rfl) rfl (Nat.le_of_ble_eq_true rfl) ((y_move hF rfl).q) (fun a w hF hW => ?_)
       obtain ⟨x8, h12, H⟩ := bindE H
       obtain ⟨v6, h13, h14⟩ := ix_ex h1 h12
       have h15 : EE42 v6 = [.int .i64 x8.1, .int .i64 x8.2.1.1, .int .i64 x8.2.1.2.1.1, .int .i64 x8.2.1.2.1.2.1.1, .int .i64 x8.2.1.2.1.2.1.2.1, .int .i64 x8.2.1.2.1.2.1.2.2.1, .int .i64 x8.2.1.2.1.2.1.2.2.2, .int .i64 x8.2.1.2.1.2.2.1, .int .i64 x8.2.1.2.1.2.2.2.1, .int .i64 x8.2.1.2.1.2.2.2.2.1, .int .i64 x8.2.1.2.1.2.2.2.2.2, (v6.2.1.2.2.1), .bool x8.2.2] := congrArg (fun q : Int × (Int × (Int × (Int × Int × Int × Int) × (Int × Int × Int × Int)) × (List (Int × Int × Int))) × Bool => ([.int .i64 q.1, .int .i64 q.2.1.1, .int .i64 q.2.1.2.1.1, .int .i64 q.2.1.2.1.2.1.1, .int .i64 q.2.1.2.1.2.1.2.1, .int .i64 q.2.1.2.1.2.1.2.2.1, .int .i64 q.2.1.2.1.2.1.2.2.2, .int .i64 q.2.1.2.1.2.2.1, .int .i64 q.2.1.2.1.2.2.2.1, .int .i64 q.2.1.2.1.2.2.2.2.1, .int .i64 q.2.1.2.1.2.2.2.2.2, (v6.2.1.2.2.1), .bool q.2.2] : List Value)) h14
       refine ls_w hF hW (wanted_y hF rfl rfl rfl rfl) rfl (Nat.le_of_ble_eq_true rfl) ((y_index (r := RX42) L22 hF rfl rfl (rdc_ro h_v1) h13).q) (fun a w hF hW => ?_)
       refine ls_w hF hW (wanted_y hF rfl rfl rfl rfl) rfl (Nat.le_of_ble_eq_true rfl) ((y_fieldAddr u42_ rfl rfl rfl T40 hF rfl (voff v1 + (x4).toNat * 13 + 1) rfl).q) (fun a w hF hW => ?_)
       refine ls_w hF hW (wanted_y hF rfl rfl rfl rfl) rfl (Nat.le_of_ble_eq_true rfl) ((y_load_el (y := Value.agg #[.int .i64 x8.2.1.1, .int .i64 x8.2.1.2.1.1, .int .i64 x8.2.1.2.1.2.1.1, .int .i64 x8.2.1.2.1.2.1.2.1, .int .i64 x8.2.1.2.1.2.1.2.2.1, .int .i64 x8.2.1.2.1.2.1.2.2.2, .int .i64 x8.2.1.2.1.2.2.1, .int .i64 x8.2.1.2.1.2.2.2.1, .int .i64 x8.2.1.2.1.2.2.2.2.1, .int .i64 x8.2.1.2.1.2.2.2.2.2, (v6.2.1.2.2.1)]) (j := 1) (i := x4) (enc := EE42) hF rfl rfl (rdc_ro h_v1) h13 FE42 T40 (by rw [h15]; rfl)).q) (fun a w hF hW => ?_)
       refine ls_g (wanted_y hF rfl rfl rfl rfl) ?_
       obtain ⟨x9, h16, H⟩ := bindE H
       refine ls hF hW rfl (y_call (v := Value.bool x9) hF H22 rfl (fun w hW => r10_Right_c any w ((v6.2.1.2.2.1)) x8.2.1 8 _ h16 (((rdc_at (rdc_ro h_v1) h13 (Path.snd (Path.fst (Path.snd (Path.snd Path.here)))) (congrArg (fun q : Int × (Int × (Int × (Int × Int × Int × Int) × (Int × Int × Int × Int)) × (List (Int × Int × Int))) × Bool => q.2.1.2.2) h14)) : Rdc _ _ _ _ _ _) w hW).nx)) (fun a w hF hW => ?_)
       refine ls_w hF hW (wanted_y hF rfl rfl rfl rfl) rfl (Nat.le_of_ble_eq_true rfl) ((y_not hF rfl).q) (fun a w hF hW => ?_)
       refine ls hF hW rfl ((y_pick_f hF rfl rfl rfl).q) (fun a w hF hW => ?_)
       refine ls_nil ?_
       refine c_then ?_
       exact ⟨_, H, hF.re ⟨rfl, rfl, rfl, rfl, trivial⟩, hW⟩
    rintro a w ⟨x5, hj, hF, hW⟩
    have hj := Option.some.inj hj
    subst hj
    have H := K4
    clear G4 K4
    refine c_cond hF rfl (fun hb => ?_) (fun hb => ?_)
    ·
     have H := iteT hb H
     rw [hb] at hF
     clear hb
     refine c_seq ?_
     refine reg_list ?_
     refine ls hF hW rfl ((y_assign hF rfl).q) (fun a w hF hW => ?_)
     refine ls_nil ?_
     refine c_then ?_
     refine wp_ret ?_
     refine r_block ?_
     refine r_then ?_
     refine r_then ?_
     refine r_block ?_
     refine r_then ?_
     have H := L3 _ H
     have H := L2 _ H
     have H := Option.some.inj H
     subst H
     refine post1 (.inl rfl) hF hW rfl (rv_tmp hF rfl) ?_
     exact ⟨rfl, hW.done⟩
    ·
     have H := iteF (by rw [hb]; decide) H
     rw [hb] at hF
     clear hb
     refine wp_skip ?_
     refine b_normal ?_
     refine c_then ?_
     refine reg_list ?_
     refine ls hF hW rfl ((y_move hF rfl).q) (fun a w hF hW => ?_)
     refine ls hF hW rfl ((y_add hF rfl rfl rfl).q) (fun a w hF hW => ?_)
     refine ls hF hW rfl ((y_assign hF rfl).q) (fun a w hF hW => ?_)
     refine ls_nil ?_
     refine c_then ?_
     exact ⟨_, H, hF.re ⟨rfl, rfl, rfl, trivial⟩, hW⟩
   ·
    have H := iteF (of_decide_eq_false hb) H
    rw [hb] at hF
    clear hb
    refine wp_exit ?_
    refine e_then ?_
    refine e_then ?_
    refine e_block ?_
    refine c_then ?_
    have H := L3 _ H
    exact ⟨H, hF.re ⟨rfl, trivial⟩, hW⟩
  rintro a w ⟨hj, hF, hW⟩
  have H := K2 _ hj
  clear hj G2 K2 L2
  refine c_seq ?_
  refine reg_list ?_
  refine ls hF hW rfl ((y_assign hF rfl).q) (fun a w hF hW => ?_)
  refine ls_nil ?_
  refine c_then ?_
  refine wp_ret ?_
  have H := Option.some.inj H
  subst H
  refine post1 (.inl rfl) hF hW rfl (rv_tmp hF rfl) ?_
  exact ⟨rfl, hW.done⟩

end Go.Proofs.Ytnlllglfmipllaa
