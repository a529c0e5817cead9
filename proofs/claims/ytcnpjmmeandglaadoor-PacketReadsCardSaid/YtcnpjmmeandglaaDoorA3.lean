/- The functions of layer 7, lifted. Conditions: none. -/
import Derived.Test.YtcnpjmmeandglaaDoorA2
namespace Go.Proofs.YtcnpjmmeandglaaDoor
open Go Go.RowKit
set_option linter.unusedVariables false
set_option linter.unusedSimpArgs false
set_option maxRecDepth 20000
noncomputable def L07_PacketBack (p0 : Int × Int × Int × Int) (p1 : Int) (p2 : Int) (p3 : Int) : Option Bool := (packet_Right p0).bind fun x1 => (if (!x1) = true then ((packet_Code p0).bind fun x3 => (if x3 = ([] : List UInt8) then (L07_awake).bind fun x4 => some x4 else some false)).bind fun x2 => some x2 else (packet_Text p0).bind fun x5 => (packet_Parse x5).bind fun x6 => (packet_Code p0).bind fun x7 => (if x6.2 ≠ 0 then some (true, (octet_Open x7).1, (octet_Open x7).2) else (if (!(decide (x6.1.1 = p0.1 ∧ x6.1.2.1 = p0.2.1 ∧ x6.1.2.2.1 = p0.2.2.1 ∧ x6.1.2.2.2 = p0.2.2.2))) = true then some (true, (octet_Open x7).1, (octet_Open x7).2) else (packet_Read (octet_Open x7)).bind fun x11 => (if (!(decide (x11.1.1 = p0.1 ∧ x11.1.2.1 = p0.2.1 ∧ x11.1.2.2.1 = p0.2.2.1 ∧ x11.1.2.2.2 = p0.2.2.2))) = true then some (true, x11.2.1, x11.2.2) else (octet_Reader_End x11.2).bind fun x12 => some (decide (x12.1 ≠ 0), x12.2.1, x12.2.2)))).bind fun (x8, x9, x10) => (if x8 = true then some false else (packet_With p0 p1 p2).bind fun x13 => ((packet_Right x13).bind fun x15 => (if (!x15) = true then some true else (if p3 ≠ p1 then (packet_Get x13 p3).bind fun x16 => (packet_Get p0 p3).bind fun x17 => some (decide (x16 ≠ x17)) else some false))).bind fun x14 => (if x14 = true then some false else (if p1 < 0 then some true else (if 4 ≤ p1 then some true else (if p2 < 0 then some true else (packet_Top p1).bind fun x19 => some (decide (x19 < p2))))).bind fun x18 => (if x18 = true then (if x13.1 = p0.1 ∧ x13.2.1 = p0.2.1 ∧ x13.2.2.1 = p0.2.2.1 ∧ x13.2.2.2 = p0.2.2.2 then (L07_awake).bind fun x21 => some x21 else some false).bind fun x20 => some x20 else ((packet_Get x13 p1).bind fun x23 => (if x23 = p2 then (ix ([p0.1, p0.2.1, p0.2.2.1, p0.2.2.2] : List Int) p1).bind fun x24 => (packet_With x13 p1 x24).bind fun x25 => (if x25.1 = p0.1 ∧ x25.2.1 = p0.2.1 ∧ x25.2.2.1 = p0.2.2.1 ∧ x25.2.2.2 = p0.2.2.2 then (L07_awake).bind fun x26 => some x26 else some false) else some false)).bind fun x22 => some x22))))
theorem L07_PacketBack_c (Y : Nat → Prop) (w0 : World)  (p0 : Int × Int × Int × Int) (p1 : Int) (p2 : Int) (p3 : Int) (r : Bool) (H : L07_PacketBack p0 p1 p2 p3 = some r) (hG : Gk [] w0) :
    Calls Tryd.prog 5 #[.agg #[.int .i64 p0.1, .int .i64 p0.2.1, .int .i64 p0.2.2.1, .int .i64 p0.2.2.2], .int .i64 p1, .int .i64 p2, .int .i64 p3] w0 fun e w' => e = .returned (.bool r) ∧ Below w0.heap.size w0 w' := by
  refine enter Tryd.func5 rfl Tryd.ntmps5 rfl (fun a hF => ?_)
  have hW := Stw.start Y w0
  unfold L07_PacketBack at H
  refine c_seq ?_
  refine reg_list ?_
  refine l_box (cs := [.int .i64 p0.1, .int .i64 p0.2.1, .int .i64 p0.2.2.1, .int .i64 p0.2.2.2]) hF hW rfl rfl rfl (fun b1 a w hF hW => ?_)
  refine ls hF hW rfl ((y_assign hF rfl).q) (fun a w hF hW => ?_)
  refine ls_nil ?_
  refine c_then ?_
  refine c_seq ?_
  refine c_seq ?_
  refine reg_list ?_
  refine ls hF hW rfl ((y_load (v := Value.agg #[.int .i64 p0.1, .int .i64 p0.2.1, .int .i64 p0.2.2.1, .int .i64 p0.2.2.2]) 0 hF rfl rfl T23 rfl).q) (fun a w hF hW => ?_)
  obtain ⟨x1, h1, H⟩ := bindE H
  refine ls hF hW rfl (y_call (v := Value.bool x1) hF H10 rfl (fun w hW => packet_Right_c any w p0 _ h1)) (fun a w hF hW => ?_)
  refine ls hF hW rfl ((y_not hF rfl).q) (fun a w hF hW => ?_)
  refine ls_nil ?_
  refine c_then ?_
  refine c_cond hF rfl (fun hb => ?_) (fun hb => ?_)
  ·
    have H := iteT hb H
    rw [hb] at hF
    clear hb
    obtain ⟨o1, G1, K1⟩ := bindE H
    refine c_seqJ (fun a w => ∃ x2 : Bool, some (x2) = some o1 ∧ Fr 110 [] [(1, .int .i64 p1), (2, .int .i64 p2), (3, .int .i64 p3), (4, .pointer (some ⟨b1, 0, none⟩)), (8, .bool x2)] a ∧ Stw ⟨Y, [], w0⟩ [(b1, [.int .i64 p0.1, .int .i64 p0.2.1, .int .i64 p0.2.2.1, .int .i64 p0.2.2.2])] [] w) ?_ ?_
    ·
      have H := G1
      clear G1 K1
      refine reg_list ?_
      refine ls hF hW rfl ((y_load (v := Value.agg #[.int .i64 p0.1, .int .i64 p0.2.1, .int .i64 p0.2.2.1, .int .i64 p0.2.2.2]) 0 hF rfl rfl T23 rfl).q) (fun a w hF hW => ?_)
      obtain ⟨x3, h2, H⟩ := bindE H
      refine ls hF hW rfl (y_call (v := Value.string (bs x3)) hF H15 rfl (fun w hW => packet_Code_c any w p0 _ h2)) (fun a w hF hW => ?_)
      refine ls hF hW rfl ((y_seq (l := x3) (m := ([] : List UInt8)) hF rfl rfl).q) (fun a w hF hW => ?_)
      refine ls hF hW rfl ((y_move hF rfl).q) (fun a w hF hW => ?_)
      rcases Bool.eq_false_or_eq_true (decide (x3 = ([] : List UInt8))) with hb | hb
      ·
        have H := iteT (of_decide_eq_true hb) H
        rw [hb] at hF
        clear hb
        refine ls_g (wanted_y hF rfl rfl rfl rfl) ?_
        obtain ⟨x4, h3, H⟩ := bindE H
        refine ls hF hW rfl (y_call (v := Value.bool x4) hF H19 rfl (fun w hW => L07_awake_c any w _ h3 (hG.go0 hW))) (fun a w hF hW => ?_)
        refine ls hF hW rfl ((y_pick_t hF rfl rfl rfl).q) (fun a w hF hW => ?_)
        refine ls hF hW rfl ((y_assign hF rfl).q) (fun a w hF hW => ?_)
        refine ls_nil ?_
        refine c_then ?_
        exact ⟨_, H, hF.re ⟨rfl, rfl, rfl, rfl, rfl, trivial⟩, hW⟩
      ·
        have H := iteF (of_decide_eq_false hb) H
        rw [hb] at hF
        clear hb
        refine ls_skip hF (wanted_n hF rfl rfl rfl rfl rfl) rfl rfl (fun a hF => ?_)
        refine ls hF hW rfl ((y_pick_f hF rfl rfl rfl).q) (fun a w hF hW => ?_)
        refine ls hF hW rfl ((y_assign hF rfl).q) (fun a w hF hW => ?_)
        refine ls_nil ?_
        refine c_then ?_
        exact ⟨_, H, hF.re ⟨rfl, rfl, rfl, rfl, rfl, trivial⟩, hW⟩
    rintro a w ⟨x2, hj, hF, hW⟩
    have hj := Option.some.inj hj
    subst hj
    have H := K1
    clear G1 K1
    refine wp_ret ?_
    refine r_then ?_
    have H := Option.some.inj H
    subst H
    refine post1 (.inl rfl) hF hW rfl (rv_tmp hF rfl) ?_
    exact ⟨rfl, hW.done⟩
  ·
    have H := iteF (by rw [hb]; decide) H
    rw [hb] at hF
    clear hb
    refine wp_skip ?_
    refine c_then ?_
    refine c_seq ?_
    refine reg_list ?_
    refine ls hF hW rfl ((y_load (v := Value.agg #[.int .i64 p0.1, .int .i64 p0.2.1, .int .i64 p0.2.2.1, .int .i64 p0.2.2.2]) 0 hF rfl rfl T23 rfl).q) (fun a w hF hW => ?_)
    obtain ⟨x5, h4, H⟩ := bindE H
    refine ls hF hW rfl (y_call (v := Value.string (bs x5)) hF H17 rfl (fun w hW => packet_Text_c any w p0 _ h4 (hG.go0 hW))) (fun a w hF hW => ?_)
    obtain ⟨x6, h5, H⟩ := bindE H
    refine ls hF hW rfl (y_call (v := Value.tuple #[.agg #[.int .i64 x6.1.1, .int .i64 x6.1.2.1, .int .i64 x6.1.2.2.1, .int .i64 x6.1.2.2.2], .int .i64 x6.2]) hF H27 rfl (fun w hW => packet_Parse_c any w x5 _ h5 (hG.go0 hW))) (fun a w hF hW => ?_)
    refine ls hF hW rfl ((y_move hF rfl).q) (fun a w hF hW => ?_)
    refine ls hF hW rfl ((y_extract (v := Value.agg #[.int .i64 x6.1.1, .int .i64 x6.1.2.1, .int .i64 x6.1.2.2.1, .int .i64 x6.1.2.2.2]) hF rfl rfl).q) (fun a w hF hW => ?_)
    refine ls hF hW rfl ((y_extract (v := Value.int .i64 x6.2) hF rfl rfl).q) (fun a w hF hW => ?_)
    refine l_alloc (cs := [.int .i64 0, .int .i64 0, .int .i64 0, .int .i64 0]) hF hW rfl Z23 rfl (fun b2 a w hF hW => ?_)
    refine l_store (vs := [.int .i64 x6.1.1, .int .i64 x6.1.2.1, .int .i64 x6.1.2.2.1, .int .i64 x6.1.2.2.2]) (M' := [(b2, [.int .i64 x6.1.1, .int .i64 x6.1.2.1, .int .i64 x6.1.2.2.1, .int .i64 x6.1.2.2.2]), (b1, [.int .i64 p0.1, .int .i64 p0.2.1, .int .i64 p0.2.2.1, .int .i64 p0.2.2.2])]) 0 hF hW rfl rfl rfl T23 rfl rfl rfl rfl rfl (fun w hW => ?_)
    refine ls hF hW rfl ((y_assign hF rfl).q) (fun a w hF hW => ?_)
    refine ls_nil ?_
    refine c_then ?_
    refine c_seq ?_
    refine reg_list ?_
    refine ls hF hW rfl ((y_load (v := Value.agg #[.int .i64 p0.1, .int .i64 p0.2.1, .int .i64 p0.2.2.1, .int .i64 p0.2.2.2]) 1 hF rfl rfl T23 rfl).q) (fun a w hF hW => ?_)
    obtain ⟨x7, h6, H⟩ := bindE H
    refine ls hF hW rfl (y_call (v := Value.string (bs x7)) hF H15 rfl (fun w hW => packet_Code_c any w p0 _ h6)) (fun a w hF hW => ?_)
    refine l_callG (Ml := []) (Zl := []) (M := [(b2, [.int .i64 x6.1.1, .int .i64 x6.1.2.1, .int .i64 x6.1.2.2.1, .int .i64 x6.1.2.2.2]), (b1, [.int .i64 p0.1, .int .i64 p0.2.1, .int .i64 p0.2.2.1, .int .i64 p0.2.2.2])]) (Z := []) (β := Nat) (rv := fun x => .pointer (some ⟨x, 0, none⟩)) (MM := fun x => [(x, [.string (bs ((octet_Open x7).1)), .int .i64 ((octet_Open x7).2)])]) (ZZ := fun x => []) hF hW H20 rfl rfl (fun hL => octet_Open_c _ w x7 _ rfl) (fun x a w hF hW => ?_)
    obtain ⟨b3, rfl⟩ : ∃ y, y = x := ⟨x, rfl⟩
    have hW : Stw ⟨Y, [], w0⟩ [(b3, [.string (bs ((octet_Open x7).1)), .int .i64 ((octet_Open x7).2)]), (b2, [.int .i64 x6.1.1, .int .i64 x6.1.2.1, .int .i64 x6.1.2.2.1, .int .i64 x6.1.2.2.2]), (b1, [.int .i64 p0.1, .int .i64 p0.2.1, .int .i64 p0.2.2.1, .int .i64 p0.2.2.2])] [] w := hW
    refine ls hF hW rfl ((y_assign hF rfl).q) (fun a w hF hW => ?_)
    refine ls_nil ?_
    refine c_then ?_
    refine c_seq ?_
    obtain ⟨o2, G2, K2⟩ := bindE H
    refine c_seqJ (fun a w => ∃ x8 : Bool, ∃ x9 : List UInt8, ∃ x10 : Int, some ((x8, x9, x10)) = some o2 ∧ Fr 110 [] [(1, .int .i64 p1), (2, .int .i64 p2), (3, .int .i64 p3), (4, .pointer (some ⟨b1, 0, none⟩)), (8, .bool false), (48, .bool x8)] a ∧ Stw ⟨Y, [], w0⟩ [(b3, [.string (bs x9), .int .i64 x10]), (b2, [.int .i64 x6.1.1, .int .i64 x6.1.2.1, .int .i64 x6.1.2.2.1, .int .i64 x6.1.2.2.2]), (b1, [.int .i64 p0.1, .int .i64 p0.2.1, .int .i64 p0.2.2.1, .int .i64 p0.2.2.2])] [] w) ?_ ?_
    ·
      have H := G2
      clear G2 K2
      refine reg_plan [(true, 0), (true, 1), (true, 2), (true, 3), (true, 4), (true, 5), (true, 6), (true, 7), (true, 8), (true, 10), (false, 9), (true, 11), (true, 12), (true, 13), (true, 14), (false, 15), (true, 16), (true, 17)] (CN ⟨Y, [], w0⟩ [(none, b2, [.int .i64 x6.1.1, .int .i64 x6.1.2.1, .int .i64 x6.1.2.2.1, .int .i64 x6.1.2.2.2]), (none, b1, [.int .i64 p0.1, .int .i64 p0.2.1, .int .i64 p0.2.2.1, .int .i64 p0.2.2.2])] []) (fun ch a d v w h => by cases d <;> exact h) MO (by kernel_rfl) hW (fun w hW => ⟨_, _, hW, (all_cons (fun _ => (.tail _ (.head _))) (all_cons (fun _ => (.tail _ (.tail _ (.head _)))) all_nil)), all_nil⟩) (fun w hW => ?_)
      refine pl_t (R := []) hF rfl rfl (yC fun M Z hN hZ => y_move hF rfl) rfl rfl (fun a hF => ?_)
      refine pl_t (R := []) hF rfl rfl (yC fun M Z hN hZ => y_neq hF rfl rfl) rfl rfl (fun a hF => ?_)
      refine pl_t (R := []) hF rfl rfl (yC fun M Z hN hZ => y_move hF rfl) rfl rfl (fun a hF => ?_)
      rcases Bool.eq_false_or_eq_true (decide (x6.2 ≠ 0)) with hb | hb
      ·
        have H := iteT (of_decide_eq_true hb) H
        rw [hb] at hF
        clear hb
        refine pl_skip hF rfl (wanted_n hF rfl rfl rfl rfl rfl) rfl rfl rfl (fun a hF => ?_)
        refine pl_skip hF rfl (wanted_n hF rfl rfl rfl rfl rfl) rfl rfl rfl (fun a hF => ?_)
        refine pl_skip hF rfl (wanted_n hF rfl rfl rfl rfl rfl) rfl rfl rfl (fun a hF => ?_)
        refine pl_t (R := []) hF rfl rfl (yC fun M Z hN hZ => y_pick_t hF rfl rfl rfl) rfl rfl (fun a hF => ?_)
        refine pl_t (R := []) hF rfl rfl (yC fun M Z hN hZ => y_move hF rfl) rfl rfl (fun a hF => ?_)
        refine pl_skip hF rfl (wanted_n hF rfl rfl rfl rfl rfl) rfl rfl rfl (fun a hF => ?_)
        refine pl_skip hF rfl (wanted_n hF rfl rfl rfl rfl rfl) rfl rfl rfl (fun a hF => ?_)
        refine pl_f rfl ?_
        refine ls_skip hF (wanted_n hF rfl rfl rfl rfl rfl) rfl rfl (fun a hF => ?_)
        refine pl_next (N2 := []) (NZ2 := []) (N3 := [(none, b2, [.int .i64 x6.1.1, .int .i64 x6.1.2.1, .int .i64 x6.1.2.2.1, .int .i64 x6.1.2.2.2]), (none, b1, [.int .i64 p0.1, .int .i64 p0.2.1, .int .i64 p0.2.2.1, .int .i64 p0.2.2.2])]) (NZ3 := []) hW rfl rfl (all_cons (fun _ => (.tail _ (.head _))) (all_cons (fun _ => (.tail _ (.tail _ (.head _)))) all_nil)) all_nil ?_
        refine pl_skip hF rfl (wanted_n hF rfl rfl rfl rfl rfl) rfl rfl rfl (fun a hF => ?_)
        refine pl_t (R := []) hF rfl rfl (yC fun M Z hN hZ => y_pick_t hF rfl rfl rfl) rfl rfl (fun a hF => ?_)
        refine pl_t (R := []) hF rfl rfl (yC fun M Z hN hZ => y_move hF rfl) rfl rfl (fun a hF => ?_)
        refine pl_skip hF rfl (wanted_n hF rfl rfl rfl rfl rfl) rfl rfl rfl (fun a hF => ?_)
        refine pl_f rfl ?_
        refine ls_skip hF (wanted_n hF rfl rfl rfl rfl rfl) rfl rfl (fun a hF => ?_)
        refine pl_next (N2 := []) (NZ2 := []) (N3 := [(none, b2, [.int .i64 x6.1.1, .int .i64 x6.1.2.1, .int .i64 x6.1.2.2.1, .int .i64 x6.1.2.2.2]), (none, b1, [.int .i64 p0.1, .int .i64 p0.2.1, .int .i64 p0.2.2.1, .int .i64 p0.2.2.2])]) (NZ3 := []) hW rfl rfl (all_cons (fun _ => (.tail _ (.head _))) (all_cons (fun _ => (.tail _ (.tail _ (.head _)))) all_nil)) all_nil ?_
        refine pl_skip hF rfl (wanted_n hF rfl rfl rfl rfl rfl) rfl rfl rfl (fun a hF => ?_)
        refine pl_t (R := []) hF rfl rfl (yC fun M Z hN hZ => y_pick_t hF rfl rfl rfl) rfl rfl (fun a hF => ?_)
        refine pl_end ?_
        refine c_then ?_
        have hW := hW.frontM (i := 2) rfl rfl
        have hW := hW.frontM (i := 2) rfl rfl
        have hW := hW.frontM (i := 2) rfl rfl
        exact ⟨_, _, _, H, hF.re ⟨rfl, rfl, rfl, rfl, rfl, rfl, trivial⟩, hW⟩
      ·
        have H := iteF (of_decide_eq_false hb) H
        rw [hb] at hF
        clear hb
        refine pl_w (R := []) hF rfl (wanted_y hF rfl rfl rfl rfl) rfl rfl (yC fun M Z hN hZ => y_load_m (cs := [.int .i64 x6.1.1, .int .i64 x6.1.2.1, .int .i64 x6.1.2.2.1, .int .i64 x6.1.2.2.2]) (v := Value.agg #[.int .i64 x6.1.1, .int .i64 x6.1.2.1, .int .i64 x6.1.2.2.1, .int .i64 x6.1.2.2.2]) hF rfl (hN (none, b2, [.int .i64 x6.1.1, .int .i64 x6.1.2.1, .int .i64 x6.1.2.2.1, .int .i64 x6.1.2.2.2]) (.head _) rfl) T23 rfl) rfl rfl (fun a hF => ?_)
        refine pl_w (R := []) hF rfl (wanted_y hF rfl rfl rfl rfl) rfl rfl (yC fun M Z hN hZ => y_load_m (cs := [.int .i64 p0.1, .int .i64 p0.2.1, .int .i64 p0.2.2.1, .int .i64 p0.2.2.2]) (v := Value.agg #[.int .i64 p0.1, .int .i64 p0.2.1, .int .i64 p0.2.2.1, .int .i64 p0.2.2.2]) hF rfl (hN (none, b1, [.int .i64 p0.1, .int .i64 p0.2.1, .int .i64 p0.2.2.1, .int .i64 p0.2.2.2]) (.tail _ (.head _)) rfl) T23 rfl) rfl rfl (fun a hF => ?_)
        refine pl_w (R := []) hF rfl (wanted_y hF rfl rfl rfl rfl) rfl rfl (yC fun M Z hN hZ => y_nea (t := decide (x6.1.1 = p0.1 ∧ x6.1.2.1 = p0.2.1 ∧ x6.1.2.2.1 = p0.2.2.1 ∧ x6.1.2.2.2 = p0.2.2.2)) G23 (Q23 _ _ _ _ _ _ _ _) hF rfl rfl) rfl rfl (fun a hF => ?_)
        refine pl_t (R := []) hF rfl rfl (yC fun M Z hN hZ => y_pick_f hF rfl rfl rfl) rfl rfl (fun a hF => ?_)
        refine pl_t (R := []) hF rfl rfl (yC fun M Z hN hZ => y_move hF rfl) rfl rfl (fun a hF => ?_)
        rcases Bool.eq_false_or_eq_true (!(decide (x6.1.1 = p0.1 ∧ x6.1.2.1 = p0.2.1 ∧ x6.1.2.2.1 = p0.2.2.1 ∧ x6.1.2.2.2 = p0.2.2.2))) with hb | hb
        ·
          have H := iteT hb H
          rw [hb] at hF
          clear hb
          refine pl_skip hF rfl (wanted_n hF rfl rfl rfl rfl rfl) rfl rfl rfl (fun a hF => ?_)
          refine pl_skip hF rfl (wanted_n hF rfl rfl rfl rfl rfl) rfl rfl rfl (fun a hF => ?_)
          refine pl_f rfl ?_
          refine ls_skip hF (wanted_n hF rfl rfl rfl rfl rfl) rfl rfl (fun a hF => ?_)
          refine pl_next (N2 := []) (NZ2 := []) (N3 := [(none, b2, [.int .i64 x6.1.1, .int .i64 x6.1.2.1, .int .i64 x6.1.2.2.1, .int .i64 x6.1.2.2.2]), (none, b1, [.int .i64 p0.1, .int .i64 p0.2.1, .int .i64 p0.2.2.1, .int .i64 p0.2.2.2])]) (NZ3 := []) hW rfl rfl (all_cons (fun _ => (.tail _ (.head _))) (all_cons (fun _ => (.tail _ (.tail _ (.head _)))) all_nil)) all_nil ?_
          refine pl_skip hF rfl (wanted_n hF rfl rfl rfl rfl rfl) rfl rfl rfl (fun a hF => ?_)
          refine pl_t (R := []) hF rfl rfl (yC fun M Z hN hZ => y_pick_t hF rfl rfl rfl) rfl rfl (fun a hF => ?_)
          refine pl_t (R := []) hF rfl rfl (yC fun M Z hN hZ => y_move hF rfl) rfl rfl (fun a hF => ?_)
          refine pl_skip hF rfl (wanted_n hF rfl rfl rfl rfl rfl) rfl rfl rfl (fun a hF => ?_)
          refine pl_f rfl ?_
          refine ls_skip hF (wanted_n hF rfl rfl rfl rfl rfl) rfl rfl (fun a hF => ?_)
          refine pl_next (N2 := []) (NZ2 := []) (N3 := [(none, b2, [.int .i64 x6.1.1, .int .i64 x6.1.2.1, .int .i64 x6.1.2.2.1, .int .i64 x6.1.2.2.2]), (none, b1, [.int .i64 p0.1, .int .i64 p0.2.1, .int .i64 p0.2.2.1, .int .i64 p0.2.2.2])]) (NZ3 := []) hW rfl rfl (all_cons (fun _ => (.tail _ (.head _))) (all_cons (fun _ => (.tail _ (.tail _ (.head _)))) all_nil)) all_nil ?_
          refine pl_skip hF rfl (wanted_n hF rfl rfl rfl rfl rfl) rfl rfl rfl (fun a hF => ?_)
          refine pl_t (R := []) hF rfl rfl (yC fun M Z hN hZ => y_pick_t hF rfl rfl rfl) rfl rfl (fun a hF => ?_)
          refine pl_end ?_
          refine c_then ?_
          have hW := hW.frontM (i := 2) rfl rfl
          have hW := hW.frontM (i := 2) rfl rfl
          have hW := hW.frontM (i := 2) rfl rfl
          exact ⟨_, _, _, H, hF.re ⟨rfl, rfl, rfl, rfl, rfl, rfl, trivial⟩, hW⟩
        ·
          have H := iteF (by rw [hb]; decide) H
          rw [hb] at hF
          clear hb
          refine pl_w (R := []) hF rfl (wanted_y hF rfl rfl rfl rfl) rfl rfl (yC fun M Z hN hZ => y_move hF rfl) rfl rfl (fun a hF => ?_)
          refine pl_w (R := []) hF rfl (wanted_y hF rfl rfl rfl rfl) rfl rfl (yC fun M Z hN hZ => y_load_m (cs := [.int .i64 p0.1, .int .i64 p0.2.1, .int .i64 p0.2.2.1, .int .i64 p0.2.2.2]) (v := Value.agg #[.int .i64 p0.1, .int .i64 p0.2.1, .int .i64 p0.2.2.1, .int .i64 p0.2.2.2]) hF rfl (hN (none, b1, [.int .i64 p0.1, .int .i64 p0.2.1, .int .i64 p0.2.2.1, .int .i64 p0.2.2.2]) (.tail _ (.head _)) rfl) T23 rfl) rfl rfl (fun a hF => ?_)
          refine pl_f rfl ?_
          refine ls_g (wanted_y hF rfl rfl rfl rfl) ?_
          obtain ⟨x11, h7, H⟩ := bindE H
          refine l_callG (Ml := [(b3, [.string (bs ((octet_Open x7).1)), .int .i64 ((octet_Open x7).2)])]) (Zl := []) (M := [(b2, [.int .i64 x6.1.1, .int .i64 x6.1.2.1, .int .i64 x6.1.2.2.1, .int .i64 x6.1.2.2.2]), (b1, [.int .i64 p0.1, .int .i64 p0.2.1, .int .i64 p0.2.2.1, .int .i64 p0.2.2.2])]) (Z := []) (β := Unit) (rv := fun x => .agg #[.int .i64 x11.1.1, .int .i64 x11.1.2.1, .int .i64 x11.1.2.2.1, .int .i64 x11.1.2.2.2]) (MM := fun x => [(b3, [.string (bs x11.2.1), .int .i64 x11.2.2])]) (ZZ := fun x => []) hF hW H21 rfl rfl (fun hL => packet_Read_c _ _ w b3 (octet_Open x7) _ h7 hL) (fun x a w hF hW => ?_)
          have hW : Stw ⟨Y, [], w0⟩ [(b3, [.string (bs x11.2.1), .int .i64 x11.2.2]), (b2, [.int .i64 x6.1.1, .int .i64 x6.1.2.1, .int .i64 x6.1.2.2.1, .int .i64 x6.1.2.2.2]), (b1, [.int .i64 p0.1, .int .i64 p0.2.1, .int .i64 p0.2.2.1, .int .i64 p0.2.2.2])] [] w := hW
          refine pl_next (N2 := []) (NZ2 := []) (N3 := [(none, b2, [.int .i64 x6.1.1, .int .i64 x6.1.2.1, .int .i64 x6.1.2.2.1, .int .i64 x6.1.2.2.2]), (none, b1, [.int .i64 p0.1, .int .i64 p0.2.1, .int .i64 p0.2.2.1, .int .i64 p0.2.2.2])]) (NZ3 := []) hW rfl rfl (all_cons (fun _ => (.tail _ (.head _))) (all_cons (fun _ => (.tail _ (.tail _ (.head _)))) all_nil)) all_nil ?_
          refine pl_w (R := []) hF rfl (wanted_y hF rfl rfl rfl rfl) rfl rfl (yC fun M Z hN hZ => y_nea (t := decide (x11.1.1 = p0.1 ∧ x11.1.2.1 = p0.2.1 ∧ x11.1.2.2.1 = p0.2.2.1 ∧ x11.1.2.2.2 = p0.2.2.2)) G23 (Q23 _ _ _ _ _ _ _ _) hF rfl rfl) rfl rfl (fun a hF => ?_)
          refine pl_t (R := []) hF rfl rfl (yC fun M Z hN hZ => y_pick_f hF rfl rfl rfl) rfl rfl (fun a hF => ?_)
          refine pl_t (R := []) hF rfl rfl (yC fun M Z hN hZ => y_move hF rfl) rfl rfl (fun a hF => ?_)
          rcases Bool.eq_false_or_eq_true (!(decide (x11.1.1 = p0.1 ∧ x11.1.2.1 = p0.2.1 ∧ x11.1.2.2.1 = p0.2.2.1 ∧ x11.1.2.2.2 = p0.2.2.2))) with hb | hb
          ·
            have H := iteT hb H
            rw [hb] at hF
            clear hb
            refine pl_skip hF rfl (wanted_n hF rfl rfl rfl rfl rfl) rfl rfl rfl (fun a hF => ?_)
            refine pl_f rfl ?_
            refine ls_skip hF (wanted_n hF rfl rfl rfl rfl rfl) rfl rfl (fun a hF => ?_)
            refine pl_next (N2 := []) (NZ2 := []) (N3 := [(none, b2, [.int .i64 x6.1.1, .int .i64 x6.1.2.1, .int .i64 x6.1.2.2.1, .int .i64 x6.1.2.2.2]), (none, b1, [.int .i64 p0.1, .int .i64 p0.2.1, .int .i64 p0.2.2.1, .int .i64 p0.2.2.2])]) (NZ3 := []) hW rfl rfl (all_cons (fun _ => (.tail _ (.head _))) (all_cons (fun _ => (.tail _ (.tail _ (.head _)))) all_nil)) all_nil ?_
            refine pl_skip hF rfl (wanted_n hF rfl rfl rfl rfl rfl) rfl rfl rfl (fun a hF => ?_)
            refine pl_t (R := []) hF rfl rfl (yC fun M Z hN hZ => y_pick_t hF rfl rfl rfl) rfl rfl (fun a hF => ?_)
            refine pl_end ?_
            refine c_then ?_
            have hW := hW.frontM (i := 2) rfl rfl
            have hW := hW.frontM (i := 2) rfl rfl
            have hW := hW.frontM (i := 2) rfl rfl
            exact ⟨_, _, _, H, hF.re ⟨rfl, rfl, rfl, rfl, rfl, rfl, trivial⟩, hW⟩
          ·
            have H := iteF (by rw [hb]; decide) H
            rw [hb] at hF
            clear hb
            refine pl_w (R := []) hF rfl (wanted_y hF rfl rfl rfl rfl) rfl rfl (yC fun M Z hN hZ => y_move hF rfl) rfl rfl (fun a hF => ?_)
            refine pl_f rfl ?_
            refine ls_g (wanted_y hF rfl rfl rfl rfl) ?_
            obtain ⟨x12, h8, H⟩ := bindE H
            refine l_callG (Ml := [(b3, [.string (bs x11.2.1), .int .i64 x11.2.2])]) (Zl := []) (M := [(b2, [.int .i64 x6.1.1, .int .i64 x6.1.2.1, .int .i64 x6.1.2.2.1, .int .i64 x6.1.2.2.2]), (b1, [.int .i64 p0.1, .int .i64 p0.2.1, .int .i64 p0.2.2.1, .int .i64 p0.2.2.2])]) (Z := []) (β := Unit) (rv := fun x => .int .i64 x12.1) (MM := fun x => [(b3, [.string (bs x12.2.1), .int .i64 x12.2.2])]) (ZZ := fun x => []) hF hW H25 rfl rfl (fun hL => octet_Reader_End_c _ _ w b3 x11.2 _ h8 hL) (fun x a w hF hW => ?_)
            have hW : Stw ⟨Y, [], w0⟩ [(b3, [.string (bs x12.2.1), .int .i64 x12.2.2]), (b2, [.int .i64 x6.1.1, .int .i64 x6.1.2.1, .int .i64 x6.1.2.2.1, .int .i64 x6.1.2.2.2]), (b1, [.int .i64 p0.1, .int .i64 p0.2.1, .int .i64 p0.2.2.1, .int .i64 p0.2.2.2])] [] w := hW
            refine pl_next (N2 := []) (NZ2 := []) (N3 := [(none, b2, [.int .i64 x6.1.1, .int .i64 x6.1.2.1, .int .i64 x6.1.2.2.1, .int .i64 x6.1.2.2.2]), (none, b1, [.int .i64 p0.1, .int .i64 p0.2.1, .int .i64 p0.2.2.1, .int .i64 p0.2.2.2])]) (NZ3 := []) hW rfl rfl (all_cons (fun _ => (.tail _ (.head _))) (all_cons (fun _ => (.tail _ (.tail _ (.head _)))) all_nil)) all_nil ?_
            refine pl_w (R := []) hF rfl (wanted_y hF rfl rfl rfl rfl) rfl rfl (yC fun M Z hN hZ => y_neq hF rfl rfl) rfl rfl (fun a hF => ?_)
            refine pl_t (R := []) hF rfl rfl (yC fun M Z hN hZ => y_pick_f hF rfl rfl rfl) rfl rfl (fun a hF => ?_)
            refine pl_end ?_
            refine c_then ?_
            have hW := hW.frontM (i := 2) rfl rfl
            have hW := hW.frontM (i := 2) rfl rfl
            have hW := hW.frontM (i := 2) rfl rfl
            exact ⟨_, _, _, H, hF.re ⟨rfl, rfl, rfl, rfl, rfl, rfl, trivial⟩, hW⟩
    rintro a w ⟨x8, x9, x10, hj, hF, hW⟩
    have hj := Option.some.inj hj
    subst hj
    have H := K2
    clear G2 K2
    refine c_cond hF rfl (fun hb => ?_) (fun hb => ?_)
    ·
      have H := iteT hb H
      rw [hb] at hF
      clear hb
      refine c_seq ?_
      refine reg_list ?_
      refine ls hF hW rfl ((y_assign hF rfl).q) (fun a w hF hW => ?_)
      refine ls_nil ?_
      refine c_then ?_
      refine wp_ret ?_
      refine r_then ?_
      have H := Option.some.inj H
      subst H
      refine post1 (.inl rfl) hF hW rfl (rv_tmp hF rfl) ?_
      exact ⟨rfl, hW.done⟩
    ·
      have H := iteF (by rw [hb]; decide) H
      rw [hb] at hF
      clear hb
      refine wp_skip ?_
      refine c_then ?_
      refine c_seq ?_
      refine reg_list ?_
      refine ls hF hW rfl ((y_load (v := Value.agg #[.int .i64 p0.1, .int .i64 p0.2.1, .int .i64 p0.2.2.1, .int .i64 p0.2.2.2]) 2 hF rfl rfl T23 rfl).q) (fun a w hF hW => ?_)
      refine ls hF hW rfl ((y_move hF rfl).q) (fun a w hF hW => ?_)
      refine ls hF hW rfl ((y_move hF rfl).q) (fun a w hF hW => ?_)
      obtain ⟨x13, h9, H⟩ := bindE H
      refine ls hF hW rfl (y_call (v := Value.agg #[.int .i64 x13.1, .int .i64 x13.2.1, .int .i64 x13.2.2.1, .int .i64 x13.2.2.2]) hF H12 rfl (fun w hW => packet_With_c any w p0 p1 p2 _ h9)) (fun a w hF hW => ?_)
      refine l_alloc (cs := [.int .i64 0, .int .i64 0, .int .i64 0, .int .i64 0]) hF hW rfl Z23 rfl (fun b4 a w hF hW => ?_)
      refine l_store (vs := [.int .i64 x13.1, .int .i64 x13.2.1, .int .i64 x13.2.2.1, .int .i64 x13.2.2.2]) (M' := [(b4, [.int .i64 x13.1, .int .i64 x13.2.1, .int .i64 x13.2.2.1, .int .i64 x13.2.2.2]), (b3, [.string (bs x9), .int .i64 x10]), (b2, [.int .i64 x6.1.1, .int .i64 x6.1.2.1, .int .i64 x6.1.2.2.1, .int .i64 x6.1.2.2.2]), (b1, [.int .i64 p0.1, .int .i64 p0.2.1, .int .i64 p0.2.2.1, .int .i64 p0.2.2.2])]) 0 hF hW rfl rfl rfl T23 rfl rfl rfl rfl rfl (fun w hW => ?_)
      refine ls_nil ?_
      refine c_then ?_
      refine c_seq ?_
      obtain ⟨o3, G3, K3⟩ := bindE H
      refine c_seqJ (fun a w => ∃ x14 : Bool, some (x14) = some o3 ∧ Fr 110 [] [(1, .int .i64 p1), (2, .int .i64 p2), (4, .pointer (some ⟨b1, 0, none⟩)), (8, .bool false), (12, .pointer (some ⟨b4, 0, none⟩)), (69, .bool x14)] a ∧ Stw ⟨Y, [], w0⟩ [(b4, [.int .i64 x13.1, .int .i64 x13.2.1, .int .i64 x13.2.2.1, .int .i64 x13.2.2.2]), (b3, [.string (bs x9), .int .i64 x10]), (b2, [.int .i64 x6.1.1, .int .i64 x6.1.2.1, .int .i64 x6.1.2.2.1, .int .i64 x6.1.2.2.2]), (b1, [.int .i64 p0.1, .int .i64 p0.2.1, .int .i64 p0.2.2.1, .int .i64 p0.2.2.2])] [] w) ?_ ?_
      ·
        have H := G3
        clear G3 K3
        refine reg_quiet hW MO (by kernel_rfl) ?_
        refine qs hF rfl ((y_load (v := Value.agg #[.int .i64 x13.1, .int .i64 x13.2.1, .int .i64 x13.2.2.1, .int .i64 x13.2.2.2]) 0 hF rfl rfl T23 rfl).q) (fun a hF => ?_)
        obtain ⟨x15, h10, H⟩ := bindE H
        refine qs hF rfl (y_call (v := Value.bool x15) hF H10 rfl (fun w hW => packet_Right_c any w x13 _ h10)) (fun a hF => ?_)
        refine qs hF rfl ((y_not hF rfl).q) (fun a hF => ?_)
        refine qs hF rfl ((y_move hF rfl).q) (fun a hF => ?_)
        rcases Bool.eq_false_or_eq_true (!x15) with hb | hb
        ·
          have H := iteT hb H
          rw [hb] at hF
          clear hb
          refine qs_skip hF (wanted_n hF rfl rfl rfl rfl rfl) rfl rfl (fun a hF => ?_)
          refine qs_skip hF (wanted_n hF rfl rfl rfl rfl rfl) rfl rfl (fun a hF => ?_)
          refine qs_skip hF (wanted_n hF rfl rfl rfl rfl rfl) rfl rfl (fun a hF => ?_)
          refine qs_skip hF (wanted_n hF rfl rfl rfl rfl rfl) rfl rfl (fun a hF => ?_)
          refine qs_skip hF (wanted_undef hF rfl rfl rfl rfl) rfl rfl (fun a hF => ?_)
          refine qs_skip hF (wanted_undef hF rfl rfl rfl rfl) rfl rfl (fun a hF => ?_)
          refine qs_skip hF (wanted_undef hF rfl rfl rfl rfl) rfl rfl (fun a hF => ?_)
          refine qs_skip hF (wanted_undef hF rfl rfl rfl rfl) rfl rfl (fun a hF => ?_)
          refine qs_skip hF (wanted_undef hF rfl rfl rfl rfl) rfl rfl (fun a hF => ?_)
          refine qs_skip hF (wanted_undef hF rfl rfl rfl rfl) rfl rfl (fun a hF => ?_)
          refine qs_skip hF (wanted_undef hF rfl rfl rfl rfl) rfl rfl (fun a hF => ?_)
          refine qs_skip hF (wanted_n hF rfl rfl rfl rfl rfl) rfl rfl (fun a hF => ?_)
          refine qs hF rfl ((y_pick_t hF rfl rfl rfl).q) (fun a hF => ?_)
          refine quiet_end (fun w hW => ?_)
          refine c_then ?_
          have hW := hW.frontM (i := 3) rfl rfl
          have hW := hW.frontM (i := 3) rfl rfl
          have hW := hW.frontM (i := 3) rfl rfl
          have hW := hW.frontM (i := 3) rfl rfl
          exact ⟨_, H, hF.re ⟨rfl, rfl, rfl, rfl, rfl, rfl, trivial⟩, hW⟩
        ·
          have H := iteF (by rw [hb]; decide) H
          rw [hb] at hF
          clear hb
          refine qs_w hF (wanted_y hF rfl rfl rfl rfl) rfl (Nat.le_of_ble_eq_true rfl) ((y_move hF rfl).q) (fun a hF => ?_)
          refine qs_w hF (wanted_y hF rfl rfl rfl rfl) rfl (Nat.le_of_ble_eq_true rfl) ((y_move hF rfl).q) (fun a hF => ?_)
          refine qs_w hF (wanted_y hF rfl rfl rfl rfl) rfl (Nat.le_of_ble_eq_true rfl) ((y_neq hF rfl rfl).q) (fun a hF => ?_)
          refine qs_w hF (wanted_y hF rfl rfl rfl rfl) rfl (Nat.le_of_ble_eq_true rfl) ((y_move hF rfl).q) (fun a hF => ?_)
          rcases Bool.eq_false_or_eq_true (decide (p3 ≠ p1)) with hb | hb
          ·
            have H := iteT (of_decide_eq_true hb) H
            rw [hb] at hF
            clear hb
            refine qs_w hF (wanted_y hF rfl rfl rfl rfl) rfl (Nat.le_of_ble_eq_true rfl) ((y_load (v := Value.agg #[.int .i64 x13.1, .int .i64 x13.2.1, .int .i64 x13.2.2.1, .int .i64 x13.2.2.2]) 0 hF rfl rfl T23 rfl).q) (fun a hF => ?_)
            refine qs_w hF (wanted_y hF rfl rfl rfl rfl) rfl (Nat.le_of_ble_eq_true rfl) ((y_move hF rfl).q) (fun a hF => ?_)
            obtain ⟨x16, h11, H⟩ := bindE H
            refine qs_w hF (wanted_y hF rfl rfl rfl rfl) rfl (Nat.le_of_ble_eq_true rfl) (y_call (v := Value.int .i64 x16) hF H14 rfl (fun w hW => packet_Get_c any w x13 p3 _ h11)) (fun a hF => ?_)
            refine qs_w hF (wanted_y hF rfl rfl rfl rfl) rfl (Nat.le_of_ble_eq_true rfl) ((y_load (v := Value.agg #[.int .i64 p0.1, .int .i64 p0.2.1, .int .i64 p0.2.2.1, .int .i64 p0.2.2.2]) 3 hF rfl rfl T23 rfl).q) (fun a hF => ?_)
            refine qs_w hF (wanted_y hF rfl rfl rfl rfl) rfl (Nat.le_of_ble_eq_true rfl) ((y_move hF rfl).q) (fun a hF => ?_)
            obtain ⟨x17, h12, H⟩ := bindE H
            refine qs_w hF (wanted_y hF rfl rfl rfl rfl) rfl (Nat.le_of_ble_eq_true rfl) (y_call (v := Value.int .i64 x17) hF H14 rfl (fun w hW => packet_Get_c any w p0 p3 _ h12)) (fun a hF => ?_)
            refine qs_w hF (wanted_y hF rfl rfl rfl rfl) rfl (Nat.le_of_ble_eq_true rfl) ((y_neq hF rfl rfl).q) (fun a hF => ?_)
            refine qs_w hF (wanted_y hF rfl rfl rfl rfl) rfl (Nat.le_of_ble_eq_true rfl) ((y_pick_t hF rfl rfl rfl).q) (fun a hF => ?_)
            refine qs hF rfl ((y_pick_f hF rfl rfl rfl).q) (fun a hF => ?_)
            refine quiet_end (fun w hW => ?_)
            refine c_then ?_
            have hW := hW.frontM (i := 3) rfl rfl
            have hW := hW.frontM (i := 3) rfl rfl
            have hW := hW.frontM (i := 3) rfl rfl
            have hW := hW.frontM (i := 3) rfl rfl
            exact ⟨_, H, hF.re ⟨rfl, rfl, rfl, rfl, rfl, rfl, trivial⟩, hW⟩
          ·
            have H := iteF (of_decide_eq_false hb) H
            rw [hb] at hF
            clear hb
            refine qs_skip hF (wanted_n hF rfl rfl rfl rfl rfl) rfl rfl (fun a hF => ?_)
            refine qs_skip hF (wanted_n hF rfl rfl rfl rfl rfl) rfl rfl (fun a hF => ?_)
            refine qs_skip hF (wanted_n hF rfl rfl rfl rfl rfl) rfl rfl (fun a hF => ?_)
            refine qs_skip hF (wanted_n hF rfl rfl rfl rfl rfl) rfl rfl (fun a hF => ?_)
            refine qs_skip hF (wanted_n hF rfl rfl rfl rfl rfl) rfl rfl (fun a hF => ?_)
            refine qs_skip hF (wanted_n hF rfl rfl rfl rfl rfl) rfl rfl (fun a hF => ?_)
            refine qs_skip hF (wanted_n hF rfl rfl rfl rfl rfl) rfl rfl (fun a hF => ?_)
            refine qs_w hF (wanted_y hF rfl rfl rfl rfl) rfl (Nat.le_of_ble_eq_true rfl) ((y_pick_f hF rfl rfl rfl).q) (fun a hF => ?_)
            refine qs hF rfl ((y_pick_f hF rfl rfl rfl).q) (fun a hF => ?_)
            refine quiet_end (fun w hW => ?_)
            refine c_then ?_
            have hW := hW.frontM (i := 3) rfl rfl
            have hW := hW.frontM (i := 3) rfl rfl
            have hW := hW.frontM (i := 3) rfl rfl
            have hW := hW.frontM (i := 3) rfl rfl
            exact ⟨_, H, hF.re ⟨rfl, rfl, rfl, rfl, rfl, rfl, trivial⟩, hW⟩
      rintro a w ⟨x14, hj, hF, hW⟩
      have hj := Option.some.inj hj
      subst hj
      have H := K3
      clear G3 K3
      refine c_cond hF rfl (fun hb => ?_) (fun hb => ?_)
      ·
        have H := iteT hb H
        rw [hb] at hF
        clear hb
        refine c_seq ?_
        refine reg_list ?_
        refine ls hF hW rfl ((y_assign hF rfl).q) (fun a w hF hW => ?_)
        refine ls_nil ?_
        refine c_then ?_
        refine wp_ret ?_
        refine r_then ?_
        have H := Option.some.inj H
        subst H
        refine post1 (.inl rfl) hF hW rfl (rv_tmp hF rfl) ?_
        exact ⟨rfl, hW.done⟩
      ·
        have H := iteF (by rw [hb]; decide) H
        rw [hb] at hF
        clear hb
        refine wp_skip ?_
        refine c_then ?_
        refine c_seq ?_
        obtain ⟨o4, G4, K4⟩ := bindE H
        refine c_seqJ (fun a w => ∃ x18 : Bool, some (x18) = some o4 ∧ Fr 110 [] [(1, .int .i64 p1), (2, .int .i64 p2), (4, .pointer (some ⟨b1, 0, none⟩)), (8, .bool false), (12, .pointer (some ⟨b4, 0, none⟩)), (85, .bool x18)] a ∧ Stw ⟨Y, [], w0⟩ [(b4, [.int .i64 x13.1, .int .i64 x13.2.1, .int .i64 x13.2.2.1, .int .i64 x13.2.2.2]), (b3, [.string (bs x9), .int .i64 x10]), (b2, [.int .i64 x6.1.1, .int .i64 x6.1.2.1, .int .i64 x6.1.2.2.1, .int .i64 x6.1.2.2.2]), (b1, [.int .i64 p0.1, .int .i64 p0.2.1, .int .i64 p0.2.2.1, .int .i64 p0.2.2.2])] [] w) ?_ ?_
        ·
          have H := G4
          clear G4 K4
          refine reg_list ?_
          refine ls hF hW rfl ((y_move hF rfl).q) (fun a w hF hW => ?_)
          refine ls hF hW rfl ((y_lss hF rfl rfl).q) (fun a w hF hW => ?_)
          refine ls hF hW rfl ((y_move hF rfl).q) (fun a w hF hW => ?_)
          rcases Bool.eq_false_or_eq_true (decide (p1 < 0)) with hb | hb
          ·
            have H := iteT (of_decide_eq_true hb) H
            rw [hb] at hF
            clear hb
            refine ls_skip hF (wanted_n hF rfl rfl rfl rfl rfl) rfl rfl (fun a hF => ?_)
            refine ls_skip hF (wanted_n hF rfl rfl rfl rfl rfl) rfl rfl (fun a hF => ?_)
            refine ls hF hW rfl ((y_pick_t hF rfl rfl rfl).q) (fun a w hF hW => ?_)
            refine ls hF hW rfl ((y_move hF rfl).q) (fun a w hF hW => ?_)
            refine ls_skip hF (wanted_n hF rfl rfl rfl rfl rfl) rfl rfl (fun a hF => ?_)
            refine ls_skip hF (wanted_n hF rfl rfl rfl rfl rfl) rfl rfl (fun a hF => ?_)
            refine ls hF hW rfl ((y_pick_t hF rfl rfl rfl).q) (fun a w hF hW => ?_)
            refine ls hF hW rfl ((y_move hF rfl).q) (fun a w hF hW => ?_)
            refine ls_skip hF (wanted_n hF rfl rfl rfl rfl rfl) rfl rfl (fun a hF => ?_)
            refine ls_skip hF (wanted_n hF rfl rfl rfl rfl rfl) rfl rfl (fun a hF => ?_)
            refine ls_skip hF (wanted_n hF rfl rfl rfl rfl rfl) rfl rfl (fun a hF => ?_)
            refine ls_skip hF (wanted_n hF rfl rfl rfl rfl rfl) rfl rfl (fun a hF => ?_)
            refine ls hF hW rfl ((y_pick_t hF rfl rfl rfl).q) (fun a w hF hW => ?_)
            refine ls_nil ?_
            refine c_then ?_
            have hW := hW.frontM (i := 3) rfl rfl
            have hW := hW.frontM (i := 3) rfl rfl
            have hW := hW.frontM (i := 3) rfl rfl
            have hW := hW.frontM (i := 3) rfl rfl
            exact ⟨_, H, hF.re ⟨rfl, rfl, rfl, rfl, rfl, rfl, trivial⟩, hW⟩
          ·
            have H := iteF (of_decide_eq_false hb) H
            rw [hb] at hF
            clear hb
            refine ls_w hF hW (wanted_y hF rfl rfl rfl rfl) rfl (Nat.le_of_ble_eq_true rfl) ((y_move hF rfl).q) (fun a w hF hW => ?_)
            refine ls_w hF hW (wanted_y hF rfl rfl rfl rfl) rfl (Nat.le_of_ble_eq_true rfl) ((y_geq hF rfl rfl).q) (fun a w hF hW => ?_)
            refine ls hF hW rfl ((y_pick_f hF rfl rfl rfl).q) (fun a w hF hW => ?_)
            refine ls hF hW rfl ((y_move hF rfl).q) (fun a w hF hW => ?_)
            rcases Bool.eq_false_or_eq_true (decide (4 ≤ p1)) with hb | hb
            ·
              have H := iteT (of_decide_eq_true hb) H
              rw [hb] at hF
              clear hb
              refine ls_skip hF (wanted_n hF rfl rfl rfl rfl rfl) rfl rfl (fun a hF => ?_)
              refine ls_skip hF (wanted_n hF rfl rfl rfl rfl rfl) rfl rfl (fun a hF => ?_)
              refine ls hF hW rfl ((y_pick_t hF rfl rfl rfl).q) (fun a w hF hW => ?_)
              refine ls hF hW rfl ((y_move hF rfl).q) (fun a w hF hW => ?_)
              refine ls_skip hF (wanted_n hF rfl rfl rfl rfl rfl) rfl rfl (fun a hF => ?_)
              refine ls_skip hF (wanted_n hF rfl rfl rfl rfl rfl) rfl rfl (fun a hF => ?_)
              refine ls_skip hF (wanted_n hF rfl rfl rfl rfl rfl) rfl rfl (fun a hF => ?_)
              refine ls_skip hF (wanted_n hF rfl rfl rfl rfl rfl) rfl rfl (fun a hF => ?_)
              refine ls hF hW rfl ((y_pick_t hF rfl rfl rfl).q) (fun a w hF hW => ?_)
              refine ls_nil ?_
              refine c_then ?_
              have hW := hW.frontM (i := 3) rfl rfl
              have hW := hW.frontM (i := 3) rfl rfl
              have hW := hW.frontM (i := 3) rfl rfl
              have hW := hW.frontM (i := 3) rfl rfl
              exact ⟨_, H, hF.re ⟨rfl, rfl, rfl, rfl, rfl, rfl, trivial⟩, hW⟩
            ·
              have H := iteF (of_decide_eq_false hb) H
              rw [hb] at hF
              clear hb
              refine ls_w hF hW (wanted_y hF rfl rfl rfl rfl) rfl (Nat.le_of_ble_eq_true rfl) ((y_move hF rfl).q) (fun a w hF hW => ?_)
              refine ls_w hF hW (wanted_y hF rfl rfl rfl rfl) rfl (Nat.le_of_ble_eq_true rfl) ((y_lss hF rfl rfl).q) (fun a w hF hW => ?_)
              refine ls hF hW rfl ((y_pick_f hF rfl rfl rfl).q) (fun a w hF hW => ?_)
              refine ls hF hW rfl ((y_move hF rfl).q) (fun a w hF hW => ?_)
              rcases Bool.eq_false_or_eq_true (decide (p2 < 0)) with hb | hb
              ·
                have H := iteT (of_decide_eq_true hb) H
                rw [hb] at hF
                clear hb
                refine ls_skip hF (wanted_n hF rfl rfl rfl rfl rfl) rfl rfl (fun a hF => ?_)
                refine ls_skip hF (wanted_n hF rfl rfl rfl rfl rfl) rfl rfl (fun a hF => ?_)
                refine ls_skip hF (wanted_n hF rfl rfl rfl rfl rfl) rfl rfl (fun a hF => ?_)
                refine ls_skip hF (wanted_n hF rfl rfl rfl rfl rfl) rfl rfl (fun a hF => ?_)
                refine ls hF hW rfl ((y_pick_t hF rfl rfl rfl).q) (fun a w hF hW => ?_)
                refine ls_nil ?_
                refine c_then ?_
                have hW := hW.frontM (i := 3) rfl rfl
                have hW := hW.frontM (i := 3) rfl rfl
                have hW := hW.frontM (i := 3) rfl rfl
                have hW := hW.frontM (i := 3) rfl rfl
                exact ⟨_, H, hF.re ⟨rfl, rfl, rfl, rfl, rfl, rfl, trivial⟩, hW⟩
              ·
                have H := iteF (of_decide_eq_false hb) H
                rw [hb] at hF
                clear hb
                refine ls_w hF hW (wanted_y hF rfl rfl rfl rfl) rfl (Nat.le_of_ble_eq_true rfl) ((y_move hF rfl).q) (fun a w hF hW => ?_)
                refine ls_w hF hW (wanted_y hF rfl rfl rfl rfl) rfl (Nat.le_of_ble_eq_true rfl) ((y_move hF rfl).q) (fun a w hF hW => ?_)
                refine ls_g (wanted_y hF rfl rfl rfl rfl) ?_
                obtain ⟨x19, h13, H⟩ := bindE H
                refine ls hF hW rfl (y_call (v := Value.int .i64 x19) hF H8 rfl (fun w hW => packet_Top_c any w p1 _ h13)) (fun a w hF hW => ?_)
                refine ls_w hF hW (wanted_y hF rfl rfl rfl rfl) rfl (Nat.le_of_ble_eq_true rfl) ((y_gtr hF rfl rfl).q) (fun a w hF hW => ?_)
                refine ls hF hW rfl ((y_pick_f hF rfl rfl rfl).q) (fun a w hF hW => ?_)
                refine ls_nil ?_
                refine c_then ?_
                have hW := hW.frontM (i := 3) rfl rfl
                have hW := hW.frontM (i := 3) rfl rfl
                have hW := hW.frontM (i := 3) rfl rfl
                have hW := hW.frontM (i := 3) rfl rfl
                exact ⟨_, H, hF.re ⟨rfl, rfl, rfl, rfl, rfl, rfl, trivial⟩, hW⟩
        rintro a w ⟨x18, hj, hF, hW⟩
        have hj := Option.some.inj hj
        subst hj
        have H := K4
        clear G4 K4
        refine c_cond hF rfl (fun hb => ?_) (fun hb => ?_)
        ·
          have H := iteT hb H
          rw [hb] at hF
          clear hb
          obtain ⟨o5, G5, K5⟩ := bindE H
          refine c_seqJ (fun a w => ∃ x20 : Bool, some (x20) = some o5 ∧ Fr 110 [] [(1, .int .i64 p1), (2, .int .i64 p2), (4, .pointer (some ⟨b1, 0, none⟩)), (8, .bool x20), (12, .pointer (some ⟨b4, 0, none⟩))] a ∧ Stw ⟨Y, [], w0⟩ [(b4, [.int .i64 x13.1, .int .i64 x13.2.1, .int .i64 x13.2.2.1, .int .i64 x13.2.2.2]), (b3, [.string (bs x9), .int .i64 x10]), (b2, [.int .i64 x6.1.1, .int .i64 x6.1.2.1, .int .i64 x6.1.2.2.1, .int .i64 x6.1.2.2.2]), (b1, [.int .i64 p0.1, .int .i64 p0.2.1, .int .i64 p0.2.2.1, .int .i64 p0.2.2.2])] [] w) ?_ ?_
          ·
            have H := G5
            clear G5 K5
            refine reg_list ?_
            refine ls hF hW rfl ((y_load (v := Value.agg #[.int .i64 x13.1, .int .i64 x13.2.1, .int .i64 x13.2.2.1, .int .i64 x13.2.2.2]) 0 hF rfl rfl T23 rfl).q) (fun a w hF hW => ?_)
            refine ls hF hW rfl ((y_load (v := Value.agg #[.int .i64 p0.1, .int .i64 p0.2.1, .int .i64 p0.2.2.1, .int .i64 p0.2.2.2]) 3 hF rfl rfl T23 rfl).q) (fun a w hF hW => ?_)
            refine ls hF hW rfl ((y_eqa (t := decide (x13.1 = p0.1 ∧ x13.2.1 = p0.2.1 ∧ x13.2.2.1 = p0.2.2.1 ∧ x13.2.2.2 = p0.2.2.2)) G23 (Q23 _ _ _ _ _ _ _ _) hF rfl rfl).q) (fun a w hF hW => ?_)
            refine ls hF hW rfl ((y_move hF rfl).q) (fun a w hF hW => ?_)
            rcases Bool.eq_false_or_eq_true (decide (x13.1 = p0.1 ∧ x13.2.1 = p0.2.1 ∧ x13.2.2.1 = p0.2.2.1 ∧ x13.2.2.2 = p0.2.2.2)) with hb | hb
            ·
              have H := iteT (of_decide_eq_true hb) H
              rw [hb] at hF
              clear hb
              refine ls_g (wanted_y hF rfl rfl rfl rfl) ?_
              obtain ⟨x21, h14, H⟩ := bindE H
              refine ls hF hW rfl (y_call (v := Value.bool x21) hF H19 rfl (fun w hW => L07_awake_c any w _ h14 (hG.go0 hW))) (fun a w hF hW => ?_)
              refine ls hF hW rfl ((y_pick_t hF rfl rfl rfl).q) (fun a w hF hW => ?_)
              refine ls hF hW rfl ((y_assign hF rfl).q) (fun a w hF hW => ?_)
              refine ls_nil ?_
              refine c_then ?_
              have hW := hW.frontM (i := 3) rfl rfl
              have hW := hW.frontM (i := 3) rfl rfl
              have hW := hW.frontM (i := 3) rfl rfl
              have hW := hW.frontM (i := 3) rfl rfl
              exact ⟨_, H, hF.re ⟨rfl, rfl, rfl, rfl, rfl, trivial⟩, hW⟩
            ·
              have H := iteF (of_decide_eq_false hb) H
              rw [hb] at hF
              clear hb
              refine ls_skip hF (wanted_n hF rfl rfl rfl rfl rfl) rfl rfl (fun a hF => ?_)
              refine ls hF hW rfl ((y_pick_f hF rfl rfl rfl).q) (fun a w hF hW => ?_)
              refine ls hF hW rfl ((y_assign hF rfl).q) (fun a w hF hW => ?_)
              refine ls_nil ?_
              refine c_then ?_
              have hW := hW.frontM (i := 3) rfl rfl
              have hW := hW.frontM (i := 3) rfl rfl
              have hW := hW.frontM (i := 3) rfl rfl
              have hW := hW.frontM (i := 3) rfl rfl
              exact ⟨_, H, hF.re ⟨rfl, rfl, rfl, rfl, rfl, trivial⟩, hW⟩
          rintro a w ⟨x20, hj, hF, hW⟩
          have hj := Option.some.inj hj
          subst hj
          have H := K5
          clear G5 K5
          refine wp_ret ?_
          refine r_then ?_
          have H := Option.some.inj H
          subst H
          refine post1 (.inl rfl) hF hW rfl (rv_tmp hF rfl) ?_
          exact ⟨rfl, hW.done⟩
        ·
          have H := iteF (by rw [hb]; decide) H
          rw [hb] at hF
          clear hb
          refine wp_skip ?_
          refine c_then ?_
          obtain ⟨o6, G6, K6⟩ := bindE H
          refine c_seqJ (fun a w => ∃ x22 : Bool, some (x22) = some o6 ∧ Fr 110 [] [(8, .bool x22)] a ∧ Stw ⟨Y, [], w0⟩ [(b4, [.int .i64 x13.1, .int .i64 x13.2.1, .int .i64 x13.2.2.1, .int .i64 x13.2.2.2]), (b3, [.string (bs x9), .int .i64 x10]), (b2, [.int .i64 x6.1.1, .int .i64 x6.1.2.1, .int .i64 x6.1.2.2.1, .int .i64 x6.1.2.2.2]), (b1, [.int .i64 p0.1, .int .i64 p0.2.1, .int .i64 p0.2.2.1, .int .i64 p0.2.2.2])] [] w) ?_ ?_
          ·
            have H := G6
            clear G6 K6
            refine reg_quiet hW MO (by kernel_rfl) ?_
            refine qs hF rfl ((y_load (v := Value.agg #[.int .i64 x13.1, .int .i64 x13.2.1, .int .i64 x13.2.2.1, .int .i64 x13.2.2.2]) 0 hF rfl rfl T23 rfl).q) (fun a hF => ?_)
            refine qs hF rfl ((y_move hF rfl).q) (fun a hF => ?_)
            obtain ⟨x23, h15, H⟩ := bindE H
            refine qs hF rfl (y_call (v := Value.int .i64 x23) hF H14 rfl (fun w hW => packet_Get_c any w x13 p1 _ h15)) (fun a hF => ?_)
            refine qs hF rfl ((y_move hF rfl).q) (fun a hF => ?_)
            refine qs hF rfl ((y_eql hF rfl rfl).q) (fun a hF => ?_)
            refine qs hF rfl ((y_move hF rfl).q) (fun a hF => ?_)
            rcases Bool.eq_false_or_eq_true (decide (x23 = p2)) with hb | hb
            ·
              have H := iteT (of_decide_eq_true hb) H
              rw [hb] at hF
              clear hb
              refine qs_w hF (wanted_y hF rfl rfl rfl rfl) rfl (Nat.le_of_ble_eq_true rfl) ((y_load (v := Value.agg #[.int .i64 x13.1, .int .i64 x13.2.1, .int .i64 x13.2.2.1, .int .i64 x13.2.2.2]) 0 hF rfl rfl T23 rfl).q) (fun a hF => ?_)
              refine qs_w hF (wanted_y hF rfl rfl rfl rfl) rfl (Nat.le_of_ble_eq_true rfl) ((y_move hF rfl).q) (fun a hF => ?_)
              refine qs_w hF (wanted_y hF rfl rfl rfl rfl) rfl (Nat.le_of_ble_eq_true rfl) ((y_move hF rfl).q) (fun a hF => ?_)
              obtain ⟨x24, h16, H⟩ := bindE H
              refine qs_w hF (wanted_y hF rfl rfl rfl rfl) rfl (Nat.le_of_ble_eq_true rfl) ((y_indexP (0 + (p1).toNat * 1) Ar23 hF rfl rfl rfl h16 rfl).q) (fun a hF => ?_)
              refine qs_w hF (wanted_y hF rfl rfl rfl rfl) rfl (Nat.le_of_ble_eq_true rfl) ((y_load (v := Value.int .i64 x24) 3 hF rfl rfl T3 (rdv_dyn (base := 0) (m := 4) (l := [p0.1, p0.2.1, p0.2.2.1, p0.2.2.2]) (enc := Value.int .i64) rfl h16)).q) (fun a hF => ?_)
              obtain ⟨x25, h17, H⟩ := bindE H
              refine qs_w hF (wanted_y hF rfl rfl rfl rfl) rfl (Nat.le_of_ble_eq_true rfl) (y_call (v := Value.agg #[.int .i64 x25.1, .int .i64 x25.2.1, .int .i64 x25.2.2.1, .int .i64 x25.2.2.2]) hF H12 rfl (fun w hW => packet_With_c any w x13 p1 x24 _ h17)) (fun a hF => ?_)
              refine qs_w hF (wanted_y hF rfl rfl rfl rfl) rfl (Nat.le_of_ble_eq_true rfl) ((y_load (v := Value.agg #[.int .i64 p0.1, .int .i64 p0.2.1, .int .i64 p0.2.2.1, .int .i64 p0.2.2.2]) 3 hF rfl rfl T23 rfl).q) (fun a hF => ?_)
              refine qs_w hF (wanted_y hF rfl rfl rfl rfl) rfl (Nat.le_of_ble_eq_true rfl) ((y_eqa (t := decide (x25.1 = p0.1 ∧ x25.2.1 = p0.2.1 ∧ x25.2.2.1 = p0.2.2.1 ∧ x25.2.2.2 = p0.2.2.2)) G23 (Q23 _ _ _ _ _ _ _ _) hF rfl rfl).q) (fun a hF => ?_)
              refine qs hF rfl ((y_pick_t hF rfl rfl rfl).q) (fun a hF => ?_)
              refine qs hF rfl ((y_move hF rfl).q) (fun a hF => ?_)
              rcases Bool.eq_false_or_eq_true (decide (x25.1 = p0.1 ∧ x25.2.1 = p0.2.1 ∧ x25.2.2.1 = p0.2.2.1 ∧ x25.2.2.2 = p0.2.2.2)) with hb | hb
              ·
                have H := iteT (of_decide_eq_true hb) H
                rw [hb] at hF
                clear hb
                obtain ⟨x26, h18, H⟩ := bindE H
                refine qs_w hF (wanted_y hF rfl rfl rfl rfl) rfl (Nat.le_of_ble_eq_true rfl) (y_call (v := Value.bool x26) hF H19 rfl (fun w hW => L07_awake_c any w _ h18 (hG.go0 hW))) (fun a hF => ?_)
                refine qs hF rfl ((y_pick_t hF rfl rfl rfl).q) (fun a hF => ?_)
                refine qs hF rfl ((y_assign hF rfl).q) (fun a hF => ?_)
                refine quiet_end (fun w hW => ?_)
                refine c_then ?_
                have hW := hW.frontM (i := 3) rfl rfl
                have hW := hW.frontM (i := 3) rfl rfl
                have hW := hW.frontM (i := 3) rfl rfl
                have hW := hW.frontM (i := 3) rfl rfl
                exact ⟨_, H, hF.re ⟨rfl, trivial⟩, hW⟩
              ·
                have H := iteF (of_decide_eq_false hb) H
                rw [hb] at hF
                clear hb
                refine qs_skip hF (wanted_n hF rfl rfl rfl rfl rfl) rfl rfl (fun a hF => ?_)
                refine qs hF rfl ((y_pick_f hF rfl rfl rfl).q) (fun a hF => ?_)
                refine qs hF rfl ((y_assign hF rfl).q) (fun a hF => ?_)
                refine quiet_end (fun w hW => ?_)
                refine c_then ?_
                have hW := hW.frontM (i := 3) rfl rfl
                have hW := hW.frontM (i := 3) rfl rfl
                have hW := hW.frontM (i := 3) rfl rfl
                have hW := hW.frontM (i := 3) rfl rfl
                exact ⟨_, H, hF.re ⟨rfl, trivial⟩, hW⟩
            ·
              have H := iteF (of_decide_eq_false hb) H
              rw [hb] at hF
              clear hb
              refine qs_skip hF (wanted_n hF rfl rfl rfl rfl rfl) rfl rfl (fun a hF => ?_)
              refine qs_skip hF (wanted_n hF rfl rfl rfl rfl rfl) rfl rfl (fun a hF => ?_)
              refine qs_skip hF (wanted_n hF rfl rfl rfl rfl rfl) rfl rfl (fun a hF => ?_)
              refine qs_skip hF (wanted_n hF rfl rfl rfl rfl rfl) rfl rfl (fun a hF => ?_)
              refine qs_skip hF (wanted_n hF rfl rfl rfl rfl rfl) rfl rfl (fun a hF => ?_)
              refine qs_skip hF (wanted_n hF rfl rfl rfl rfl rfl) rfl rfl (fun a hF => ?_)
              refine qs_skip hF (wanted_n hF rfl rfl rfl rfl rfl) rfl rfl (fun a hF => ?_)
              refine qs_skip hF (wanted_n hF rfl rfl rfl rfl rfl) rfl rfl (fun a hF => ?_)
              refine qs hF rfl ((y_pick_f hF rfl rfl rfl).q) (fun a hF => ?_)
              refine qs hF rfl ((y_move hF rfl).q) (fun a hF => ?_)
              refine qs_skip hF (wanted_n hF rfl rfl rfl rfl rfl) rfl rfl (fun a hF => ?_)
              refine qs hF rfl ((y_pick_f hF rfl rfl rfl).q) (fun a hF => ?_)
              refine qs hF rfl ((y_assign hF rfl).q) (fun a hF => ?_)
              refine quiet_end (fun w hW => ?_)
              refine c_then ?_
              have hW := hW.frontM (i := 3) rfl rfl
              have hW := hW.frontM (i := 3) rfl rfl
              have hW := hW.frontM (i := 3) rfl rfl
              have hW := hW.frontM (i := 3) rfl rfl
              exact ⟨_, H, hF.re ⟨rfl, trivial⟩, hW⟩
          rintro a w ⟨x22, hj, hF, hW⟩
          have hj := Option.some.inj hj
          subst hj
          have H := K6
          clear G6 K6
          refine wp_ret ?_
          have H := Option.some.inj H
          subst H
          refine post1 (.inl rfl) hF hW rfl (rv_tmp hF rfl) ?_
          exact ⟨rfl, hW.done⟩

end Go.Proofs.YtcnpjmmeandglaaDoor
