/- The functions of layer 34, lifted. Conditions: none. -/
import Derived.Test.YtglegnicihnlmaaRows
import Derived.Test.YtglegnicihnlmaaQT
import Derived.Test.YtglegnicihnlmaaOT
import Derived.Test.YtglegnicihnlmaaOD
import Derived.Test.YtglegnicihnlmaaOC
namespace Go.Proofs.Ytglegnicihnlmaa
open Go Go.RowKit
set_option linter.unusedVariables false
set_option linter.unusedSimpArgs false
set_option maxRecDepth 20000
abbrev R30 : Rp (Int × Bool × List UInt8) := (Rp.pair (Rp.int .i64) (Rp.pair Rp.bool Rp.str))
abbrev R32 : Rp (Int × Int × (Int × Bool × List UInt8)) := (Rp.pair (Rp.int .i64) (Rp.pair (Rp.int .i64) R30))
theorem B46 : Bt Try.prog 46 [.slice none 0 0, .int .i64 0] [(0, 1), (1, 1)] := ⟨⟨.agg #[.slice none 0 0, .int .i64 0], by kernel_rfl, rfl⟩, ⟨_, Try.underlying46, fun w => by kernel_rfl⟩⟩
abbrev R38 : Rp (Int × Bool × List UInt8) := (Rp.pair (Rp.int .i64) (Rp.pair Rp.bool Rp.str))
def channel_New  : ((List (Int × Bool × List UInt8)) × Int) := (([] : List (Int × Bool × List UInt8)), 0)
theorem channel_New_c (Y : Nat → Prop) (w0 : World)   (r : ((List (Int × Bool × List UInt8)) × Int)) (H : channel_New  = r)  :
    Calls Try.prog 4 #[] w0 fun e w' => ∃ x : Nat × Value, e = .returned (.pointer (some ⟨x.1, 0, none⟩)) ∧ Stw ⟨Y, [], w0⟩ [(x.1, [x.2, .int .i64 r.2])] [row (x.2) 38 R38 r.1] w' := by
  refine enter Try.func4 rfl Try.ntmps4 rfl (fun a hF => ?_)
  have hW := Stw.start Y w0
  unfold channel_New at H
  refine c_seq ?_
  refine reg_list ?_
  refine ls hF hW rfl ((y_assign hF rfl).q) (fun a w hF hW => ?_)
  refine ls_nil ?_
  refine c_then ?_
  refine c_seq ?_
  refine reg_list ?_
  refine ls hF hW rfl ((y_build (v := Value.agg #[.slice none 0 0, .int .i64 0]) B46 hF rfl rfl rfl).q) (fun a w hF hW => ?_)
  refine l_box (cs := [.slice none 0 0, .int .i64 0]) hF hW rfl rfl rfl (fun b1 a w hF hW => ?_)
  refine ls hF hW rfl ((y_assign hF rfl).q) (fun a w hF hW => ?_)
  refine ls_nil ?_
  refine c_then ?_
  refine wp_ret ?_
  subst H
  refine post1 (.inl rfl) hF hW rfl (rv_tmp hF rfl) ?_
  have hW := hW.nilRow 38 R38
  exact ⟨(b1, (Value.slice none 0 0)), rfl, hW⟩

theorem H4 : Has Try.prog 4 := ⟨fun args w => run_callFunc_body Try.func4 rfl (by decide) args w⟩
theorem B28 : Bt Try.prog 28 [.slice none 0 0, .int .i64 0] [(0, 1), (1, 1)] := ⟨⟨.agg #[.slice none 0 0, .int .i64 0], by kernel_rfl, rfl⟩, ⟨_, Try.underlying28, fun w => by kernel_rfl⟩⟩
theorem L22 : Et Try.prog 22 32 5 48 := Et.of Try.underlying22 (by kernel_rfl) (by kernel_rfl) (by kernel_rfl) (by decide)
theorem T30 : Ty Try.prog 30 true 3 := ⟨by kernel_rfl, by kernel_rfl⟩
theorem T9 : Ty Try.prog 9 false 1 := ⟨by kernel_rfl, by kernel_rfl⟩
def E30 (a : Int × Bool × List UInt8) : List Value := [.int .i64 a.1, .bool a.2.1, .string (bs a.2.2)]
theorem F30 : Fl R30 E30 := (Fl.pair Fl.int (Fl.pair Fl.bool Fl.str))
def E32 (a : Int × Int × (Int × Bool × List UInt8)) : List Value := [.int .i64 a.1, .int .i64 a.2.1, .int .i64 a.2.2.1, .bool a.2.2.2.1, .string (bs a.2.2.2.2)]
theorem F32 : Fl R32 E32 := (Fl.pair Fl.int (Fl.pair Fl.int F30))
theorem B38 : Bt Try.prog 38 [.int .i64 0, .bool false, .string (bs ([] : List UInt8))] [(0, 1), (1, 1), (2, 1)] := ⟨⟨.agg #[.int .i64 0, .bool false, .string (bs ([] : List UInt8))], by kernel_rfl, rfl⟩, ⟨_, Try.underlying38, fun w => by kernel_rfl⟩⟩
theorem T44 : Ty Try.prog 44 false 1 := ⟨by kernel_rfl, by kernel_rfl⟩
theorem T3 : Ty Try.prog 3 false 1 := ⟨by kernel_rfl, by kernel_rfl⟩
theorem MO : Try.prog.follows .mixedOrders = true := by kernel_rfl
theorem T38 : Ty Try.prog 38 true 3 := ⟨by kernel_rfl, by kernel_rfl⟩
theorem Z38 : (Try.prog.info? 38).bind (·.zero) = some (.agg #[.int .i64 0, .bool false, .string (bs ([] : List UInt8))]) := by kernel_rfl
def E38 (a : Int × Bool × List UInt8) : List Value := [.int .i64 a.1, .bool a.2.1, .string (bs a.2.2)]
theorem F38 : Fl R38 E38 := (Fl.pair Fl.int (Fl.pair Fl.bool Fl.str))
theorem L44 : Et Try.prog 44 38 3 32 := Et.of Try.underlying44 (by kernel_rfl) (by kernel_rfl) (by kernel_rfl) (by decide)
noncomputable def channel_Channel_Send (p0 : (List (Int × Bool × List UInt8)) × Int) (p1 : Int × Bool × List UInt8) : Option (Int × ((List (Int × Bool × List UInt8)) × Int)) := (if 256 ≤ (p0.1.length : Int) then some (6, (p0.1, w64 (p0.2 + 1))) else (app p0.1 ([p1] : List (Int × Bool × List UInt8))).bind fun x1 => some (0, (x1, p0.2)))
theorem channel_Channel_Send_c (Y : Nat → Prop) (X : List Nat) (w0 : World) (q_p0 : Nat) (v1 : Value) (p0 : (List (Int × Bool × List UInt8)) × Int) (p1 : Int × Bool × List UInt8) (r : Int × ((List (Int × Bool × List UInt8)) × Int)) (H : channel_Channel_Send p0 p1 = some r) (hL : Stw ⟨Y, X, w0⟩ [(q_p0, [v1, .int .i64 p0.2])] [row v1 38 R38 p0.1] w0) :
    Calls Try.prog 15 #[.pointer (some ⟨q_p0, 0, none⟩), .agg #[.int .i64 p1.1, .bool p1.2.1, .string (bs p1.2.2)]] w0 fun e w' => ∃ x : Value, e = .returned (.int .i64 r.1) ∧ Stw ⟨Y, X, w0⟩ [(q_p0, [x, .int .i64 r.2.2])] [row (x) 38 R38 r.2.1] w' := by
  refine enter Try.func15 rfl Try.ntmps15 rfl (fun a hF => ?_)
  have hW := hL
  unfold channel_Channel_Send at H
  refine c_seq ?_
  refine reg_list ?_
  refine l_box (cs := [.int .i64 p1.1, .bool p1.2.1, .string (bs p1.2.2)]) hF hW rfl rfl rfl (fun b1 a w hF hW => ?_)
  refine ls hF hW rfl ((y_assign hF rfl).q) (fun a w hF hW => ?_)
  refine ls_nil ?_
  refine c_then ?_
  refine c_seq ?_
  refine c_seq ?_
  refine reg_list ?_
  refine ls hF hW rfl ((y_move hF rfl).q) (fun a w hF hW => ?_)
  refine ls hF hW rfl ((y_peq_some_nil Try.underlying23 hF rfl rfl).q) (fun a w hF hW => ?_)
  refine ls_nil ?_
  refine c_then ?_
  refine c_cond_f hF rfl ?_
  refine wp_skip ?_
  refine c_then ?_
  refine c_seq ?_
  refine c_seq ?_
  refine reg_list ?_
  refine ls hF hW rfl ((y_move hF rfl).q) (fun a w hF hW => ?_)
  refine ls hF hW rfl ((y_nilCheck hF rfl).q) (fun a w hF hW => ?_)
  refine ls hF hW rfl ((y_fieldAddr Try.underlying46 rfl rfl rfl T44 hF rfl 0 rfl).q) (fun a w hF hW => ?_)
  refine ls hF hW rfl ((y_load (v := v1) 1 hF rfl rfl T44 rfl).q) (fun a w hF hW => ?_)
  refine ls hF hW rfl ((y_len (r := R38) (l := p0.1) Try.underlying44 rfl hF rfl (rdc_row 0 rfl)).q) (fun a w hF hW => ?_)
  refine ls hF hW rfl ((y_geq hF rfl rfl).q) (fun a w hF hW => ?_)
  refine ls_nil ?_
  refine c_then ?_
  refine c_cond hF rfl (fun hb => ?_) (fun hb => ?_)
  ·
    have H := iteT (of_decide_eq_true hb) H
    rw [hb] at hF
    clear hb
    refine c_seq ?_
    refine reg_list ?_
    refine ls hF hW rfl ((y_move hF rfl).q) (fun a w hF hW => ?_)
    refine ls hF hW rfl ((y_nilCheck hF rfl).q) (fun a w hF hW => ?_)
    refine ls hF hW rfl ((y_fieldAddr Try.underlying46 rfl rfl rfl T3 hF rfl 1 rfl).q) (fun a w hF hW => ?_)
    refine ls hF hW rfl ((y_load (v := Value.int .i64 p0.2) 1 hF rfl rfl T3 rfl).q) (fun a w hF hW => ?_)
    refine ls hF hW rfl ((y_add hF rfl rfl rfl).q) (fun a w hF hW => ?_)
    refine ls hF hW rfl ((y_nilCheck hF rfl).q) (fun a w hF hW => ?_)
    refine ls hF hW rfl ((y_fieldAddr Try.underlying46 rfl rfl rfl T3 hF rfl 1 rfl).q) (fun a w hF hW => ?_)
    refine l_store (vs := [.int .i64 (w64 (p0.2 + 1))]) (M' := [(b1, [.int .i64 p1.1, .bool p1.2.1, .string (bs p1.2.2)]), (q_p0, [v1, .int .i64 (w64 (p0.2 + 1))])]) 1 hF hW rfl rfl rfl T3 rfl rfl rfl rfl rfl (fun w hW => ?_)
    refine ls_nil ?_
    refine c_then ?_
    refine c_seq ?_
    refine reg_list ?_
    refine ls hF hW rfl ((y_assign hF rfl).q) (fun a w hF hW => ?_)
    refine ls_nil ?_
    refine c_then ?_
    refine wp_ret ?_
    refine r_then ?_
    have H := Option.some.inj H
    subst H
    refine post1 (.inl rfl) hF hW rfl (rv_tmp hF rfl) ?_
    have hW := hW.frontM (i := 1) rfl rfl
    have hW := hW.sub (M' := [(q_p0, [v1, .int .i64 (w64 (p0.2 + 1))])]) (Z' := [row v1 38 R38 p0.1]) (List.Sublist.cons_cons _ (List.nil_sublist _)) (List.Sublist.refl _)
    exact ⟨(v1), rfl, hW⟩
  ·
    have H := iteF (of_decide_eq_false hb) H
    rw [hb] at hF
    clear hb
    refine wp_skip ?_
    refine c_then ?_
    refine c_seq ?_
    refine reg_plan [(true, 0), (true, 1), (true, 2), (true, 3), (true, 4), (true, 5), (false, 6), (false, 7), (true, 8), (true, 9), (false, 10)] (CN ⟨Y, X, w0⟩ [(some 7, q_p0, [v1, .int .i64 p0.2]), (some 6, b1, [.int .i64 p1.1, .bool p1.2.1, .string (bs p1.2.2)])] []) (fun ch a d v w h => by cases d <;> exact h) MO (by kernel_rfl) hW (fun w hW => ⟨_, _, hW, (all_cons (fun _ => (.tail _ (.head _))) (all_cons (fun _ => (.head _)) all_nil)), all_nil⟩) (fun w hW => ?_)
    refine pl_t (R := []) hF rfl rfl (yC fun M Z hN hZ => y_move hF rfl) rfl rfl (fun a hF => ?_)
    refine pl_t (R := []) hF rfl rfl (yC fun M Z hN hZ => y_move hF rfl) rfl rfl (fun a hF => ?_)
    refine pl_t (R := []) hF rfl rfl (yC fun M Z hN hZ => y_nilCheck hF rfl) rfl rfl (fun a hF => ?_)
    refine pl_t (R := []) hF rfl rfl (yC fun M Z hN hZ => y_fieldAddr Try.underlying46 rfl rfl rfl T44 hF rfl 0 rfl) rfl rfl (fun a hF => ?_)
    refine pl_t (R := [7]) hF rfl rfl (yC fun M Z hN hZ => y_load_m (cs := [v1, .int .i64 p0.2]) (v := v1) hF rfl (hN ((some 7), q_p0, [v1, .int .i64 p0.2]) (.head _) rfl) T44 rfl) (by kernel_rfl) rfl (fun a hF => ?_)
    refine pl_t (R := [6]) hF rfl rfl (yC fun M Z hN hZ => y_load_m (cs := [.int .i64 p1.1, .bool p1.2.1, .string (bs p1.2.2)]) (v := Value.agg #[.int .i64 p1.1, .bool p1.2.1, .string (bs p1.2.2)]) hF rfl (hN ((some 6), b1, [.int .i64 p1.1, .bool p1.2.1, .string (bs p1.2.2)]) (.tail _ (.head _)) rfl) T38 rfl) (by kernel_rfl) rfl (fun a hF => ?_)
    refine pl_f rfl ?_
    refine l_lit (z := Value.agg #[.int .i64 0, .bool false, .string (bs ([] : List UInt8))]) (cs := [.int .i64 p1.1, .bool p1.2.1, .string (bs p1.2.2)]) R38 ([p1] : List (Int × Bool × List UInt8)) hF hW rfl L44 Z38 rfl rfl rfl rfl rfl rfl (F38.repL _ _ ([p1] : List (Int × Bool × List UInt8))) (fun v2 a w hF hW => ?_)
    refine pl_next (N2 := []) (NZ2 := []) (N3 := [(some 7, q_p0, [v1, .int .i64 p0.2]), (some 6, b1, [.int .i64 p1.1, .bool p1.2.1, .string (bs p1.2.2)])]) (NZ3 := []) hW rfl rfl (all_cons (fun _ => (.tail _ (.head _))) (all_cons (fun h => rel_dead (by kernel_rfl) h) all_nil)) all_nil ?_
    refine pl_f rfl ?_
    obtain ⟨x1, h1, H⟩ := bindE H
    refine l_append (r := R38) (i := 1) hF hW rfl L44 rfl rfl rfl rfl (src_row hW 0 rfl) h1 rfl (fun v3 a w hF hW => ?_)
    have hW : Stw ⟨Y, X, w0⟩ [(b1, [.int .i64 p1.1, .bool p1.2.1, .string (bs p1.2.2)]), (q_p0, [v1, .int .i64 p0.2])] [row v3 38 R38 x1, row v2 38 R38 ([p1] : List (Int × Bool × List UInt8))] w := hW
    refine pl_next (N2 := []) (NZ2 := []) (N3 := [(some 7, q_p0, [v1, .int .i64 p0.2]), (some 6, b1, [.int .i64 p1.1, .bool p1.2.1, .string (bs p1.2.2)])]) (NZ3 := []) hW rfl rfl (all_cons (fun h => rel_dead (by kernel_rfl) h) (all_cons (fun h => rel_dead (by kernel_rfl) h) all_nil)) all_nil ?_
    refine pl_t (R := []) hF rfl rfl (yC fun M Z hN hZ => y_nilCheck hF rfl) rfl rfl (fun a hF => ?_)
    refine pl_t (R := []) hF rfl rfl (yC fun M Z hN hZ => y_fieldAddr Try.underlying46 rfl rfl rfl T44 hF rfl 0 rfl) rfl rfl (fun a hF => ?_)
    refine pl_f rfl ?_
    refine l_store1 (M' := [(b1, [.int .i64 p1.1, .bool p1.2.1, .string (bs p1.2.2)]), (q_p0, [v3, .int .i64 p0.2])]) 1 hF hW rfl rfl rfl T44 (hW.one (k := 0) rfl) rfl rfl (fun w hW => ?_)
    refine pl_next (N2 := []) (NZ2 := []) (N3 := [(some 7, q_p0, [v1, .int .i64 p0.2]), (some 6, b1, [.int .i64 p1.1, .bool p1.2.1, .string (bs p1.2.2)])]) (NZ3 := []) hW rfl rfl (all_cons (fun h => rel_dead (by kernel_rfl) h) (all_cons (fun h => rel_dead (by kernel_rfl) h) all_nil)) all_nil ?_
    refine pl_end ?_
    refine c_then ?_
    refine c_seq ?_
    refine reg_list ?_
    refine ls hF hW rfl ((y_assign hF rfl).q) (fun a w hF hW => ?_)
    refine ls_nil ?_
    refine c_then ?_
    refine wp_ret ?_
    have H := Option.some.inj H
    subst H
    refine post1 (.inl rfl) hF hW rfl (rv_tmp hF rfl) ?_
    have hW := hW.frontM (i := 1) rfl rfl
    have hW := hW.sub (M' := [(q_p0, [v3, .int .i64 p0.2])]) (Z' := [row v3 38 R38 x1]) (List.Sublist.cons_cons _ (List.nil_sublist _)) (List.Sublist.cons_cons _ (List.nil_sublist _))
    exact ⟨(v3), rfl, hW⟩

theorem H15 : Has Try.prog 15 := ⟨fun args w => run_callFunc_body Try.func15 rfl (by decide) args w⟩
noncomputable def channel_Channel_Look (p0 : (List (Int × Bool × List UInt8)) × Int) (p1 : Int) : Option ((Int × Bool × List UInt8) × Int) := (if (decide (p1 < 0) || decide ((p0.1.length : Int) ≤ p1)) = true then some ((0, false, ([] : List UInt8)), 7) else (ix p0.1 p1).bind fun x1 => some (x1, 0))
theorem channel_Channel_Look_c (Y : Nat → Prop) (w0 : World) (q_p0 : Nat) (v1 : Value) (p0 : (List (Int × Bool × List UInt8)) × Int) (p1 : Int) (r : (Int × Bool × List UInt8) × Int) (H : channel_Channel_Look p0 p1 = some r) (h_v1 : Sl w0 (NX []) R38 v1 p0.1) (a_q_p0 : At ⟨Y, [], w0⟩ q_p0 0 [v1, .int .i64 p0.2]) :
    Calls Try.prog 13 #[.pointer (some ⟨q_p0, 0, none⟩), .int .i64 p1] w0 fun e w' => e = .returned (.tuple #[.agg #[.int .i64 r.1.1, .bool r.1.2.1, .string (bs r.1.2.2)], .int .i64 r.2]) ∧ Below w0.heap.size w0 w' := by
  refine enter Try.func13 rfl Try.ntmps13 rfl (fun a hF => ?_)
  have hW := Stw.start Y w0
  unfold channel_Channel_Look at H
  refine c_seq ?_
  refine reg_list ?_
  refine l_alloc (cs := [.int .i64 0, .bool false, .string (bs ([] : List UInt8))]) hF hW rfl Z38 rfl (fun b1 a w hF hW => ?_)
  refine ls hF hW rfl ((y_assign hF rfl).q) (fun a w hF hW => ?_)
  refine ls_nil ?_
  refine c_then ?_
  refine c_seq ?_
  refine c_seq ?_
  refine reg_list ?_
  refine ls hF hW rfl ((y_move hF rfl).q) (fun a w hF hW => ?_)
  refine ls hF hW rfl ((y_peq_some_nil Try.underlying23 hF rfl rfl).q) (fun a w hF hW => ?_)
  refine ls_nil ?_
  refine c_then ?_
  refine c_cond_f hF rfl ?_
  refine wp_skip ?_
  refine c_then ?_
  refine c_seq ?_
  refine c_seqJ (fun a w => Fr 28 [] [(0, .pointer (some ⟨q_p0, 0, none⟩)), (1, .int .i64 p1), (4, .pointer (some ⟨b1, 0, none⟩)), (5, .int .i64 0), (19, .bool (decide (p1 < 0) || decide ((p0.1.length : Int) ≤ p1)))] a ∧ Stw ⟨Y, [], w0⟩ [(b1, [.int .i64 0, .bool false, .string (bs ([] : List UInt8))])] [] w) ?_ ?_
  ·
    refine reg_list ?_
    refine ls hF hW rfl ((y_move hF rfl).q) (fun a w hF hW => ?_)
    refine ls hF hW rfl ((y_lss hF rfl rfl).q) (fun a w hF hW => ?_)
    refine ls hF hW rfl ((y_move hF rfl).q) (fun a w hF hW => ?_)
    rcases Bool.eq_false_or_eq_true (decide (p1 < 0)) with hb0 | hb0
    ·
      rw [hb0] at hF
      refine ls_skip hF (wanted_n hF rfl rfl rfl rfl rfl) rfl rfl (fun a hF => ?_)
      refine ls_skip hF (wanted_n hF rfl rfl rfl rfl rfl) rfl rfl (fun a hF => ?_)
      refine ls_skip hF (wanted_n hF rfl rfl rfl rfl rfl) rfl rfl (fun a hF => ?_)
      refine ls_skip hF (wanted_n hF rfl rfl rfl rfl rfl) rfl rfl (fun a hF => ?_)
      refine ls_skip hF (wanted_n hF rfl rfl rfl rfl rfl) rfl rfl (fun a hF => ?_)
      refine ls_skip hF (wanted_n hF rfl rfl rfl rfl rfl) rfl rfl (fun a hF => ?_)
      refine ls_skip hF (wanted_n hF rfl rfl rfl rfl rfl) rfl rfl (fun a hF => ?_)
      refine ls hF hW rfl ((y_pick_t hF rfl rfl rfl).q) (fun a w hF hW => ?_)
      refine ls_nil ?_
      refine c_then ?_
      exact ⟨hF.re ⟨rfl, rfl, rfl, rfl, (by show some (Value.bool true) = some (Value.bool (decide (p1 < 0) || decide ((p0.1.length : Int) ≤ p1))); try rw [hb0]; all_goals simp only [Bool.not_true, Bool.not_false, Bool.true_and, Bool.false_and, Bool.true_or, Bool.false_or, Bool.and_true, Bool.or_false, cond_true, cond_false]), trivial⟩, hW⟩
    ·
      rw [hb0] at hF
      refine ls_w hF hW (wanted_y hF rfl rfl rfl rfl) rfl (Nat.le_of_ble_eq_true rfl) ((y_move hF rfl).q) (fun a w hF hW => ?_)
      refine ls_w hF hW (wanted_y hF rfl rfl rfl rfl) rfl (Nat.le_of_ble_eq_true rfl) ((y_move hF rfl).q) (fun a w hF hW => ?_)
      refine ls_w hF hW (wanted_y hF rfl rfl rfl rfl) rfl (Nat.le_of_ble_eq_true rfl) ((y_nilCheck hF rfl).q) (fun a w hF hW => ?_)
      refine ls_w hF hW (wanted_y hF rfl rfl rfl rfl) rfl (Nat.le_of_ble_eq_true rfl) ((y_fieldAddr Try.underlying46 rfl rfl rfl T44 hF rfl 0 rfl).q) (fun a w hF hW => ?_)
      refine ls_w hF hW (wanted_y hF rfl rfl rfl rfl) rfl (Nat.le_of_ble_eq_true rfl) ((y_load_at (y := v1) (j := 0) hF rfl (Nat.zero_add _).symm a_q_p0 T44 rfl).q) (fun a w hF hW => ?_)
      refine ls_w hF hW (wanted_y hF rfl rfl rfl rfl) rfl (Nat.le_of_ble_eq_true rfl) ((y_len (r := R38) (l := p0.1) Try.underlying44 rfl hF rfl (rdc_ro h_v1)).q) (fun a w hF hW => ?_)
      refine ls_w hF hW (wanted_y hF rfl rfl rfl rfl) rfl (Nat.le_of_ble_eq_true rfl) ((y_geq hF rfl rfl).q) (fun a w hF hW => ?_)
      refine ls hF hW rfl ((y_pick_f hF rfl rfl rfl).q) (fun a w hF hW => ?_)
      refine ls_nil ?_
      refine c_then ?_
      exact ⟨hF.re ⟨rfl, rfl, rfl, rfl, (by show some (Value.bool (decide ((p0.1.length : Int) ≤ p1))) = some (Value.bool (decide (p1 < 0) || decide ((p0.1.length : Int) ≤ p1))); try rw [hb0]; all_goals simp only [Bool.not_true, Bool.not_false, Bool.true_and, Bool.false_and, Bool.true_or, Bool.false_or, Bool.and_true, Bool.or_false, cond_true, cond_false]), trivial⟩, hW⟩
  rintro a w ⟨hF, hW⟩
  refine c_cond hF rfl (fun hb => ?_) (fun hb => ?_)
  ·
    have H := iteT hb H
    rw [hb] at hF
    clear hb
    refine c_seq ?_
    refine reg_list ?_
    refine ls hF hW rfl ((y_build (v := Value.agg #[.int .i64 0, .bool false, .string (bs ([] : List UInt8))]) B38 hF rfl rfl rfl).q) (fun a w hF hW => ?_)
    refine l_store (vs := [.int .i64 0, .bool false, .string (bs ([] : List UInt8))]) (M' := [(b1, [.int .i64 0, .bool false, .string (bs ([] : List UInt8))])]) 0 hF hW rfl rfl rfl T38 rfl rfl rfl rfl rfl (fun w hW => ?_)
    refine ls hF hW rfl ((y_assign hF rfl).q) (fun a w hF hW => ?_)
    refine ls_nil ?_
    refine c_then ?_
    refine wp_ret ?_
    refine r_then ?_
    have H := Option.some.inj H
    subst H
    refine post2 (.inl rfl) hF hW rfl (rv_cell 0 hF rfl rfl T38 rfl) (rv_tmp hF rfl) ?_
    exact ⟨rfl, hW.done⟩
  ·
    have H := iteF (by rw [hb]; decide) H
    rw [hb] at hF
    clear hb
    refine wp_skip ?_
    refine c_then ?_
    refine c_seq ?_
    refine reg_list ?_
    refine ls hF hW rfl ((y_move hF rfl).q) (fun a w hF hW => ?_)
    refine ls hF hW rfl ((y_nilCheck hF rfl).q) (fun a w hF hW => ?_)
    refine ls hF hW rfl ((y_fieldAddr Try.underlying46 rfl rfl rfl T44 hF rfl 0 rfl).q) (fun a w hF hW => ?_)
    refine ls hF hW rfl ((y_load_at (y := v1) (j := 0) hF rfl (Nat.zero_add _).symm a_q_p0 T44 rfl).q) (fun a w hF hW => ?_)
    refine ls hF hW rfl ((y_move hF rfl).q) (fun a w hF hW => ?_)
    obtain ⟨x1, h1, H⟩ := bindE H
    refine ls hF hW rfl ((y_index (r := R38) L44 hF rfl rfl (rdc_ro h_v1) h1).q) (fun a w hF hW => ?_)
    refine ls hF hW rfl ((y_load_el (y := Value.agg #[.int .i64 x1.1, .bool x1.2.1, .string (bs x1.2.2)]) (j := 0) (i := p1) hF rfl rfl (rdc_ro h_v1) h1 F38.to T38 rfl).q) (fun a w hF hW => ?_)
    refine l_store (vs := [.int .i64 x1.1, .bool x1.2.1, .string (bs x1.2.2)]) (M' := [(b1, [.int .i64 x1.1, .bool x1.2.1, .string (bs x1.2.2)])]) 0 hF hW rfl rfl rfl T38 rfl rfl rfl rfl rfl (fun w hW => ?_)
    refine ls hF hW rfl ((y_assign hF rfl).q) (fun a w hF hW => ?_)
    refine ls_nil ?_
    refine c_then ?_
    refine wp_ret ?_
    have H := Option.some.inj H
    subst H
    refine post2 (.inl rfl) hF hW rfl (rv_cell 0 hF rfl rfl T38 rfl) (rv_tmp hF rfl) ?_
    exact ⟨rfl, hW.done⟩

theorem H13 : Has Try.prog 13 := ⟨fun args w => run_callFunc_body Try.func13 rfl (by decide) args w⟩
noncomputable def slices_Delete_channel_Flight_channel_Flight (p0 : List (Int × Bool × List UInt8)) (p1 : Int) (p2 : Int) : Option (List (Int × Bool × List UInt8)) := (subl p0 p1 p2).bind fun x1 => (if p1 = p2 then some p0 else (subl p0 0 p1).bind fun x2 => (subl p0 p2 (p0.length : Int)).bind fun x3 => (spl p0 (x2.length : Int) x3).bind fun x4 => (subl x4 0 ((x2.length : Int) + (x3.length : Int))).bind fun x5 => (subl x4 (x5.length : Int) (p0.length : Int)).bind fun x6 => (spl x4 (x5.length : Int) (List.replicate (x6.length) ((0, false, ([] : List UInt8)) : Int × Bool × List UInt8))).bind fun x7 => some x5)
theorem slices_Delete_channel_Flight_channel_Flight_c (Y : Nat → Prop) (X : List Nat) (w0 : World) (v1 : Value) (p0 : List (Int × Bool × List UInt8)) (p1 : Int) (p2 : Int) (r : (List (Int × Bool × List UInt8))) (H : slices_Delete_channel_Flight_channel_Flight p0 p1 p2 = some r) (hL : Stw ⟨Y, X, w0⟩ [] [row v1 38 R38 p0] w0) :
    Calls Try.prog 27 #[v1, .int .i64 p1, .int .i64 p2] w0 fun e w' => ∃ x : Value, e = .returned (x) ∧ Stw ⟨Y, X, w0⟩ [] [row (x) 38 R38 r] w' := by
  refine enter Try.func27 rfl Try.ntmps27 rfl (fun a hF => ?_)
  have hW := hL
  unfold slices_Delete_channel_Flight_channel_Flight at H
  refine c_seq ?_
  refine reg_list ?_
  refine ls hF hW rfl ((y_assign hF rfl).q) (fun a w hF hW => ?_)
  refine ls_nil ?_
  refine c_then ?_
  refine c_seq ?_
  refine reg_list ?_
  refine ls hF hW rfl ((y_move hF rfl).q) (fun a w hF hW => ?_)
  refine ls hF hW rfl ((y_move hF rfl).q) (fun a w hF hW => ?_)
  refine ls hF hW rfl ((y_move hF rfl).q) (fun a w hF hW => ?_)
  refine ls hF hW rfl ((y_move hF rfl).q) (fun a w hF hW => ?_)
  refine ls hF hW rfl ((y_len (r := R38) (l := p0) Try.underlying44 rfl hF rfl (rdc_row 0 rfl)).q) (fun a w hF hW => ?_)
  obtain ⟨x1, h1, H⟩ := bindE H
  refine ls hF hW rfl ((y_slice3 (r := R38) L44 hF rfl rfl rfl rfl rfl (rdc_row 0 rfl) h1).q) (fun a w hF hW => ?_)
  refine ls_nil ?_
  refine c_then ?_
  refine c_seq ?_
  refine c_seq ?_
  refine reg_list ?_
  refine ls hF hW rfl ((y_move hF rfl).q) (fun a w hF hW => ?_)
  refine ls hF hW rfl ((y_move hF rfl).q) (fun a w hF hW => ?_)
  refine ls hF hW rfl ((y_eql hF rfl rfl).q) (fun a w hF hW => ?_)
  refine ls_nil ?_
  refine c_then ?_
  refine c_cond hF rfl (fun hb => ?_) (fun hb => ?_)
  ·
    have H := iteT (of_decide_eq_true hb) H
    rw [hb] at hF
    clear hb
    refine c_seq ?_
    refine reg_list ?_
    refine ls hF hW rfl ((y_move hF rfl).q) (fun a w hF hW => ?_)
    refine ls hF hW rfl ((y_assign hF rfl).q) (fun a w hF hW => ?_)
    refine ls_nil ?_
    refine c_then ?_
    refine wp_ret ?_
    refine r_then ?_
    have H := Option.some.inj H
    subst H
    refine post1 (.inl rfl) hF hW rfl (rv_tmp hF rfl) ?_
    exact ⟨(v1), rfl, hW⟩
  ·
    have H := iteF (of_decide_eq_false hb) H
    rw [hb] at hF
    clear hb
    refine wp_skip ?_
    refine c_then ?_
    refine c_seq ?_
    refine reg_list ?_
    refine ls hF hW rfl ((y_move hF rfl).q) (fun a w hF hW => ?_)
    refine ls hF hW rfl ((y_len (r := R38) (l := p0) Try.underlying44 rfl hF rfl (rdc_row 0 rfl)).q) (fun a w hF hW => ?_)
    refine ls hF hW rfl ((y_assign hF rfl).q) (fun a w hF hW => ?_)
    refine ls_nil ?_
    refine c_then ?_
    refine c_seq ?_
    refine reg_tail 6 hW MO (by kernel_rfl) ?_
    refine qs hF rfl ((y_move hF rfl).q) (fun a hF => ?_)
    refine qs hF rfl ((y_move hF rfl).q) (fun a hF => ?_)
    obtain ⟨x2, h2, H⟩ := bindE H
    refine qs hF rfl ((y_slice (r := R38) L44 hF rfl rfl rfl (rdc_row 0 rfl) h2).q) (fun a hF => ?_)
    refine qs hF rfl ((y_move hF rfl).q) (fun a hF => ?_)
    refine qs hF rfl ((y_move hF rfl).q) (fun a hF => ?_)
    obtain ⟨x3, h3, H⟩ := bindE H
    refine qs hF rfl ((y_slice (r := R38) L44 hF rfl rfl rfl (rdc_row 0 rfl) h3).q) (fun a hF => ?_)
    refine quiet_end (fun w hW => ?_)
    obtain ⟨x4, h4, H⟩ := bindE H
    obtain ⟨x5, h5, H⟩ := bindE H
    refine l_append_in (r := R38) (v := v1) (k := 0) hF hW rfl L44 rfl rfl rfl rfl h2 (Src.sub (src_row hW 0 rfl) h3) h4 (fun a w hF hW => ?_)
    have hW : Stw ⟨Y, X, w0⟩ [] [row v1 38 R38 x4] w := hW
    refine ls hF hW rfl ((y_assign hF rfl).q) (fun a w hF hW => ?_)
    refine ls_nil ?_
    refine c_then ?_
    refine c_seq ?_
    refine reg_list ?_
    refine ls hF hW rfl ((y_move hF rfl).q) (fun a w hF hW => ?_)
    refine ls hF hW rfl ((y_move hF rfl).q) (fun a w hF hW => ?_)
    refine ls hF hW rfl ((y_len (r := R38) (l := x5) Try.underlying44 rfl hF rfl (rdc_sub (rdc_row 0 rfl) h5)).q) (fun a w hF hW => ?_)
    refine ls hF hW rfl ((y_move hF rfl).q) (fun a w hF hW => ?_)
    obtain ⟨x6, h6, H⟩ := bindE H
    refine ls hF hW rfl ((y_slice_ext (r := R38) L44 hF rfl rfl rfl (rdc_row 0 rfl) h6).q) (fun a w hF hW => ?_)
    obtain ⟨x7, h7, H⟩ := bindE H
    refine l_clear (r := R38) (v := v1) (k := 0) ((0, false, ([] : List UInt8)) : Int × Bool × List UInt8) hF hW L44 Z38 rfl rfl rfl h6 (fun w A => F38.mk' w A ((0, false, ([] : List UInt8)) : Int × Bool × List UInt8)) h7 (fun w hW => ?_)
    have h8 := spl_pre h7 (Int.le_of_eq (sub0_len h5).symm) h5
    have hW : Stw ⟨Y, X, w0⟩ [] [row v1 38 R38 x7] w := hW
    refine ls_nil ?_
    refine c_then ?_
    refine c_seq ?_
    refine reg_list ?_
    refine ls hF hW rfl ((y_move hF rfl).q) (fun a w hF hW => ?_)
    refine ls hF hW rfl ((y_assign hF rfl).q) (fun a w hF hW => ?_)
    refine ls_nil ?_
    refine c_then ?_
    refine wp_ret ?_
    have H := Option.some.inj H
    subst H
    refine post1 (.inl rfl) hF hW rfl (rv_tmp hF rfl) ?_
    have hW := hW.subRow (k := 0) rfl rfl h8
    exact ⟨((slSub v1 (0 : Int) ((x2.length : Int) + (x3.length : Int)) 3)), rfl, hW⟩

theorem H27 : Has Try.prog 27 := ⟨fun args w => run_callFunc_body Try.func27 rfl (by decide) args w⟩
noncomputable def channel_Channel_Take (p0 : (List (Int × Bool × List UInt8)) × Int) (p1 : Int) : Option ((Int × Bool × List UInt8) × Int × ((List (Int × Bool × List UInt8)) × Int)) := (channel_Channel_Look p0 p1).bind fun x1 => (if x1.2 = 0 then (slices_Delete_channel_Flight_channel_Flight p0.1 p1 (w64 (p1 + 1))).bind fun x3 => some x3 else some p0.1).bind fun x2 => some (x1.1, x1.2, (x2, p0.2))
theorem channel_Channel_Take_c (Y : Nat → Prop) (X : List Nat) (w0 : World) (q_p0 : Nat) (v1 : Value) (p0 : (List (Int × Bool × List UInt8)) × Int) (p1 : Int) (r : (Int × Bool × List UInt8) × Int × ((List (Int × Bool × List UInt8)) × Int)) (H : channel_Channel_Take p0 p1 = some r) (hL : Stw ⟨Y, X, w0⟩ [(q_p0, [v1, .int .i64 p0.2])] [row v1 38 R38 p0.1] w0) :
    Calls Try.prog 16 #[.pointer (some ⟨q_p0, 0, none⟩), .int .i64 p1] w0 fun e w' => ∃ x : Value, e = .returned (.tuple #[.agg #[.int .i64 r.1.1, .bool r.1.2.1, .string (bs r.1.2.2)], .int .i64 r.2.1]) ∧ Stw ⟨Y, X, w0⟩ [(q_p0, [x, .int .i64 r.2.2.2])] [row (x) 38 R38 r.2.2.1] w' := by
  refine enter Try.func16 rfl Try.ntmps16 rfl (fun a hF => ?_)
  have hW := hL
  unfold channel_Channel_Take at H
  refine c_seq ?_
  refine reg_list ?_
  refine l_alloc (cs := [.int .i64 0, .bool false, .string (bs ([] : List UInt8))]) hF hW rfl Z38 rfl (fun b1 a w hF hW => ?_)
  refine ls hF hW rfl ((y_assign hF rfl).q) (fun a w hF hW => ?_)
  refine ls_nil ?_
  refine c_then ?_
  refine c_seq ?_
  refine reg_list ?_
  refine ls hF hW rfl ((y_move hF rfl).q) (fun a w hF hW => ?_)
  refine ls hF hW rfl ((y_move hF rfl).q) (fun a w hF hW => ?_)
  obtain ⟨x1, h1, H⟩ := bindE H
  refine ls hF hW rfl (y_call (v := Value.tuple #[.agg #[.int .i64 x1.1.1, .bool x1.1.2.1, .string (bs x1.1.2.2)], .int .i64 x1.2]) hF H13 rfl (fun w hW => channel_Channel_Look_c any w q_p0 (v1) p0 p1 _ h1 (((rdc_row 0 rfl) : Rdc _ _ _ _ _ _) w hW).nx (at_M hW 1 rfl))) (fun a w hF hW => ?_)
  refine ls hF hW rfl ((y_move hF rfl).q) (fun a w hF hW => ?_)
  refine ls hF hW rfl ((y_extract (v := Value.agg #[.int .i64 x1.1.1, .bool x1.1.2.1, .string (bs x1.1.2.2)]) hF rfl rfl).q) (fun a w hF hW => ?_)
  refine ls hF hW rfl ((y_extract (v := Value.int .i64 x1.2) hF rfl rfl).q) (fun a w hF hW => ?_)
  refine l_alloc (cs := [.int .i64 0, .bool false, .string (bs ([] : List UInt8))]) hF hW rfl Z38 rfl (fun b2 a w hF hW => ?_)
  refine l_store (vs := [.int .i64 x1.1.1, .bool x1.1.2.1, .string (bs x1.1.2.2)]) (M' := [(b2, [.int .i64 x1.1.1, .bool x1.1.2.1, .string (bs x1.1.2.2)]), (b1, [.int .i64 0, .bool false, .string (bs ([] : List UInt8))]), (q_p0, [v1, .int .i64 p0.2])]) 0 hF hW rfl rfl rfl T38 rfl rfl rfl rfl rfl (fun w hW => ?_)
  refine ls hF hW rfl ((y_assign hF rfl).q) (fun a w hF hW => ?_)
  refine ls_nil ?_
  refine c_then ?_
  obtain ⟨o1, G1, K1⟩ := bindE H
  refine c_seqJ (fun a w => ∃ x2 : List (Int × Bool × List UInt8), ∃ v2 : Value, some (x2) = some o1 ∧ Fr 29 [] [(4, .pointer (some ⟨b1, 0, none⟩)), (5, .int .i64 0), (6, .pointer (some ⟨b2, 0, none⟩)), (7, .int .i64 x1.2)] a ∧ Stw ⟨Y, X, w0⟩ [(b2, [.int .i64 x1.1.1, .bool x1.1.2.1, .string (bs x1.1.2.2)]), (b1, [.int .i64 0, .bool false, .string (bs ([] : List UInt8))]), (q_p0, [v2, .int .i64 p0.2])] [row v2 38 R38 x2] w) ?_ ?_
  ·
    have H := G1
    clear G1 K1
    refine c_seq ?_
    refine reg_list ?_
    refine ls hF hW rfl ((y_move hF rfl).q) (fun a w hF hW => ?_)
    refine ls hF hW rfl ((y_eql hF rfl rfl).q) (fun a w hF hW => ?_)
    refine ls_nil ?_
    refine c_then ?_
    refine c_cond hF rfl (fun hb => ?_) (fun hb => ?_)
    ·
      have H := iteT (of_decide_eq_true hb) H
      rw [hb] at hF
      clear hb
      refine reg_list ?_
      refine ls hF hW rfl ((y_move hF rfl).q) (fun a w hF hW => ?_)
      refine ls hF hW rfl ((y_move hF rfl).q) (fun a w hF hW => ?_)
      refine ls hF hW rfl ((y_nilCheck hF rfl).q) (fun a w hF hW => ?_)
      refine ls hF hW rfl ((y_fieldAddr Try.underlying46 rfl rfl rfl T44 hF rfl 0 rfl).q) (fun a w hF hW => ?_)
      refine ls hF hW rfl ((y_load (v := v1) 2 hF rfl rfl T44 rfl).q) (fun a w hF hW => ?_)
      refine ls hF hW rfl ((y_move hF rfl).q) (fun a w hF hW => ?_)
      refine ls hF hW rfl ((y_move hF rfl).q) (fun a w hF hW => ?_)
      refine ls hF hW rfl ((y_add hF rfl rfl rfl).q) (fun a w hF hW => ?_)
      obtain ⟨x3, h2, H⟩ := bindE H
      refine l_callG (Ml := []) (Zl := [row v1 38 R38 p0.1]) (M := [(b2, [.int .i64 x1.1.1, .bool x1.1.2.1, .string (bs x1.1.2.2)]), (b1, [.int .i64 0, .bool false, .string (bs ([] : List UInt8))]), (q_p0, [v1, .int .i64 p0.2])]) (Z := []) (β := Value) (rv := fun x => x) (MM := fun x => []) (ZZ := fun x => [row x 38 R38 x3]) hF hW H27 rfl rfl (fun hL => slices_Delete_channel_Flight_channel_Flight_c _ _ w (v1) p0.1 p1 (w64 (p1 + 1)) _ h2 hL) (fun x a w hF hW => ?_)
      obtain ⟨v3, rfl⟩ : ∃ y, y = x := ⟨x, rfl⟩
      have hW : Stw ⟨Y, X, w0⟩ [(b2, [.int .i64 x1.1.1, .bool x1.1.2.1, .string (bs x1.1.2.2)]), (b1, [.int .i64 0, .bool false, .string (bs ([] : List UInt8))]), (q_p0, [v1, .int .i64 p0.2])] [row v3 38 R38 x3] w := hW
      refine ls hF hW rfl ((y_nilCheck hF rfl).q) (fun a w hF hW => ?_)
      refine ls hF hW rfl ((y_fieldAddr Try.underlying46 rfl rfl rfl T44 hF rfl 0 rfl).q) (fun a w hF hW => ?_)
      refine l_store1 (M' := [(b2, [.int .i64 x1.1.1, .bool x1.1.2.1, .string (bs x1.1.2.2)]), (b1, [.int .i64 0, .bool false, .string (bs ([] : List UInt8))]), (q_p0, [v3, .int .i64 p0.2])]) 2 hF hW rfl rfl rfl T44 (hW.one (k := 0) rfl) rfl rfl (fun w hW => ?_)
      refine ls_nil ?_
      refine c_then ?_
      have hW := hW.frontM (i := 2) rfl rfl
      have hW := hW.frontM (i := 2) rfl rfl
      have hW := hW.frontM (i := 2) rfl rfl
      exact ⟨_, (v3), H, hF.re ⟨rfl, rfl, rfl, rfl, trivial⟩, hW⟩
    ·
      have H := iteF (of_decide_eq_false hb) H
      rw [hb] at hF
      clear hb
      refine wp_skip ?_
      refine c_then ?_
      have hW := hW.frontM (i := 2) rfl rfl
      have hW := hW.frontM (i := 2) rfl rfl
      have hW := hW.frontM (i := 2) rfl rfl
      exact ⟨_, (v1), H, hF.re ⟨rfl, rfl, rfl, rfl, trivial⟩, hW⟩
  rintro a w ⟨x2, v2, hj, hF, hW⟩
  have hj := Option.some.inj hj
  subst hj
  have H := K1
  clear G1 K1
  refine c_seq ?_
  refine reg_list ?_
  refine ls hF hW rfl ((y_load (v := Value.agg #[.int .i64 x1.1.1, .bool x1.1.2.1, .string (bs x1.1.2.2)]) 0 hF rfl rfl T38 rfl).q) (fun a w hF hW => ?_)
  refine ls hF hW rfl ((y_move hF rfl).q) (fun a w hF hW => ?_)
  refine l_store (vs := [.int .i64 x1.1.1, .bool x1.1.2.1, .string (bs x1.1.2.2)]) (M' := [(b2, [.int .i64 x1.1.1, .bool x1.1.2.1, .string (bs x1.1.2.2)]), (b1, [.int .i64 x1.1.1, .bool x1.1.2.1, .string (bs x1.1.2.2)]), (q_p0, [v2, .int .i64 p0.2])]) 1 hF hW rfl rfl rfl T38 rfl rfl rfl rfl rfl (fun w hW => ?_)
  refine ls hF hW rfl ((y_assign hF rfl).q) (fun a w hF hW => ?_)
  refine ls_nil ?_
  refine c_then ?_
  refine wp_ret ?_
  have H := Option.some.inj H
  subst H
  refine post2 (.inl rfl) hF hW rfl (rv_cell 1 hF rfl rfl T38 rfl) (rv_tmp hF rfl) ?_
  have hW := hW.frontM (i := 2) rfl rfl
  have hW := hW.sub (M' := [(q_p0, [v2, .int .i64 p0.2])]) (Z' := [row v2 38 R38 x2]) (List.Sublist.cons_cons _ (List.nil_sublist _)) (List.Sublist.refl _)
  exact ⟨(v2), rfl, hW⟩

theorem H16 : Has Try.prog 16 := ⟨fun args w => run_callFunc_body Try.func16 rfl (by decide) args w⟩
def channel_Channel_Len_1 (p0 : Int × Bool × List UInt8) : Bool := true
theorem channel_Channel_Len_1_c (Y : Nat → Prop) (w0 : World)  (p0 : Int × Bool × List UInt8) (r : Bool) (H : channel_Channel_Len_1 p0 = r)  :
    Calls Try.prog 23 #[.agg #[.int .i64 p0.1, .bool p0.2.1, .string (bs p0.2.2)]] w0 fun e w' => e = .returned (.bool r) ∧ Below w0.heap.size w0 w' := by
  refine enter Try.func23 rfl Try.ntmps23 rfl (fun a hF => ?_)
  have hW := Stw.start Y w0
  unfold channel_Channel_Len_1 at H
  refine c_seq ?_
  refine reg_list ?_
  refine l_box (cs := [.int .i64 p0.1, .bool p0.2.1, .string (bs p0.2.2)]) hF hW rfl rfl rfl (fun b1 a w hF hW => ?_)
  refine ls hF hW rfl ((y_assign hF rfl).q) (fun a w hF hW => ?_)
  refine ls_nil ?_
  refine c_then ?_
  refine c_seq ?_
  refine reg_list ?_
  refine ls hF hW rfl ((y_assign hF rfl).q) (fun a w hF hW => ?_)
  refine ls_nil ?_
  refine c_then ?_
  refine wp_ret ?_
  subst H
  refine post1 (.inl rfl) hF hW rfl (rv_tmp hF rfl) ?_
  exact ⟨rfl, hW.done⟩

theorem H23 : Has Try.prog 23 := ⟨fun args w => run_callFunc_body Try.func23 rfl (by decide) args w⟩
noncomputable def channel_Channel_find_l1 (p0 : (List (Int × Bool × List UInt8)) × Int) : (Int × Int × Int) → Option ((Int × Int × Int) ⊕ (Int × Int))
  | (x3, x4, x5) => (if x5 < (p0.1.length : Int) then ((ix p0.1 x5).bind fun x8 => (if (!(channel_Channel_Len_1 x8)) = true then some (x3, x4) else (if x4 < 0 then some (w64 (x3 + 1), x5) else some (w64 (x3 + 1), x4)))).bind fun (x6, x7) => some (.inl (x6, x7, w64 (x5 + 1))) else some (.inr (x3, x4)))
noncomputable def channel_Channel_find (p0 : (List (Int × Bool × List UInt8)) × Int) : Option (Int × Int) := (loopW (channel_Channel_find_l1 p0) (0, (-1), 0)).bind fun (x1, x2) => some (x1, x2)
theorem channel_Channel_find_c (Y : Nat → Prop) (w0 : World) (q_p0 : Nat) (v1 : Value) (p0 : (List (Int × Bool × List UInt8)) × Int) (r : Int × Int) (H : channel_Channel_find p0 = some r) (h_v1 : Sl w0 (NX []) R38 v1 p0.1) (a_q_p0 : At ⟨Y, [], w0⟩ q_p0 0 [v1, .int .i64 p0.2]) :
    Calls Try.prog 25 #[.pointer (some ⟨q_p0, 0, none⟩), .func (.func 23) #[] #[]] w0 fun e w' => e = .returned (.tuple #[.int .i64 r.1, .int .i64 r.2]) ∧ Below w0.heap.size w0 w' := by
  refine enter Try.func25 rfl Try.ntmps25 rfl (fun a hF => ?_)
  have hW := Stw.start Y w0
  unfold channel_Channel_find at H
  refine c_seq ?_
  refine reg_list ?_
  refine ls hF hW rfl ((y_assign hF rfl).q) (fun a w hF hW => ?_)
  refine ls hF hW rfl ((y_assign hF rfl).q) (fun a w hF hW => ?_)
  refine ls_nil ?_
  refine c_then ?_
  refine c_seq ?_
  refine reg_list ?_
  refine ls hF hW rfl ((y_assign hF rfl).q) (fun a w hF hW => ?_)
  refine ls hF hW rfl ((y_assign hF rfl).q) (fun a w hF hW => ?_)
  refine ls_nil ?_
  refine c_then ?_
  refine c_seq ?_
  refine c_seq ?_
  refine reg_list ?_
  refine ls hF hW rfl ((y_move hF rfl).q) (fun a w hF hW => ?_)
  refine ls hF hW rfl ((y_peq_some_nil Try.underlying23 hF rfl rfl).q) (fun a w hF hW => ?_)
  refine ls_nil ?_
  refine c_then ?_
  refine c_cond_f hF rfl ?_
  refine wp_skip ?_
  refine c_then ?_
  obtain ⟨o1, G1, K1⟩ := bindE H
  refine c_seqJ (fun a w => ∃ x1 : Int, ∃ x2 : Int, some ((x1, x2)) = some o1 ∧ Fr 36 [] [(4, .int .i64 0), (5, .int .i64 0), (6, .int .i64 x1), (7, .int .i64 x2)] a ∧ Stw ⟨Y, [], w0⟩ [] [] w) ?_ ?_
  ·
    have H := G1
    clear G1 K1
    refine c_seq ?_
    refine reg_list ?_
    refine ls hF hW rfl ((y_move hF rfl).q) (fun a w hF hW => ?_)
    refine ls hF hW rfl ((y_nilCheck hF rfl).q) (fun a w hF hW => ?_)
    refine ls hF hW rfl ((y_fieldAddr Try.underlying46 rfl rfl rfl T44 hF rfl 0 rfl).q) (fun a w hF hW => ?_)
    refine ls hF hW rfl ((y_load_at (y := v1) (j := 0) hF rfl (Nat.zero_add _).symm a_q_p0 T44 rfl).q) (fun a w hF hW => ?_)
    refine ls hF hW rfl ((y_len (r := R38) (l := p0.1) Try.underlying44 rfl hF rfl (rdc_ro h_v1)).q) (fun a w hF hW => ?_)
    refine ls hF hW rfl ((y_move hF rfl).q) (fun a w hF hW => ?_)
    refine ls_nil ?_
    refine c_then ?_
    refine wp_block ?_
    refine c_loopW H (fun s a w => Fr 36 [] [(1, .func (.func 23) #[] #[]), (4, .int .i64 0), (5, .int .i64 0), (6, .int .i64 s.1), (7, .int .i64 s.2.1), (17, v1), (18, .int .i64 (p0.1.length : Int)), (19, .int .i64 s.2.2)] a ∧ Stw ⟨Y, [], w0⟩ [] [] w) ⟨hF.re ⟨rfl, rfl, rfl, rfl, rfl, rfl, rfl, rfl, trivial⟩, hW⟩ (fun s o a w H L2 hR => ?_)
    obtain ⟨x3, x4, x5⟩ := s
    obtain ⟨hF, hW⟩ := hR
    have hF : Fr 36 [] [(1, .func (.func 23) #[] #[]), (4, .int .i64 0), (5, .int .i64 0), (6, .int .i64 x3), (7, .int .i64 x4), (17, v1), (18, .int .i64 (p0.1.length : Int)), (19, .int .i64 x5)] a := hF
    have hW : Stw ⟨Y, [], w0⟩ [] [] w := hW
    rw [channel_Channel_find_l1] at H
    refine c_seq ?_
    refine reg_list ?_
    refine ls hF hW rfl ((y_lss hF rfl rfl).q) (fun a w hF hW => ?_)
    refine ls_nil ?_
    refine c_then ?_
    refine c_seq ?_
    refine c_cond hF rfl (fun hb => ?_) (fun hb => ?_)
    ·
      have H := iteT (of_decide_eq_true hb) H
      rw [hb] at hF
      clear hb
      refine wp_skip ?_
      refine c_then ?_
      obtain ⟨o3, G3, K3⟩ := bindE H
      refine c_seqJ (fun a w => ∃ x6 : Int, ∃ x7 : Int, some ((x6, x7)) = some o3 ∧ Fr 36 [] [(1, .func (.func 23) #[] #[]), (4, .int .i64 0), (5, .int .i64 0), (6, .int .i64 x6), (7, .int .i64 x7), (17, v1), (18, .int .i64 (p0.1.length : Int)), (19, .int .i64 x5)] a ∧ Stw ⟨Y, [], w0⟩ [] [] w) ?_ ?_
      ·
        have H := G3
        clear G3 K3
        refine wp_block ?_
        refine c_seq ?_
        refine reg_list ?_
        refine ls hF hW rfl ((y_move hF rfl).q) (fun a w hF hW => ?_)
        obtain ⟨x8, h1, H⟩ := bindE H
        refine ls hF hW rfl ((y_index (r := R38) L44 hF rfl rfl (rdc_ro h_v1) h1).q) (fun a w hF hW => ?_)
        refine ls hF hW rfl ((y_load_el (y := Value.agg #[.int .i64 x8.1, .bool x8.2.1, .string (bs x8.2.2)]) (j := 0) (i := x5) hF rfl rfl (rdc_ro h_v1) h1 F38.to T38 rfl).q) (fun a w hF hW => ?_)
        refine l_alloc (cs := [.int .i64 0, .bool false, .string (bs ([] : List UInt8))]) hF hW rfl Z38 rfl (fun b1 a w hF hW => ?_)
        refine ls hF hW rfl ((y_assign hF rfl).q) (fun a w hF hW => ?_)
        refine l_store (vs := [.int .i64 x8.1, .bool x8.2.1, .string (bs x8.2.2)]) (M' := [(b1, [.int .i64 x8.1, .bool x8.2.1, .string (bs x8.2.2)])]) 0 hF hW rfl rfl rfl T38 rfl rfl rfl rfl rfl (fun w hW => ?_)
        refine ls_nil ?_
        refine c_then ?_
        refine c_seq ?_
        refine c_seq ?_
        refine reg_list ?_
        refine ls hF hW rfl ((y_move hF rfl).q) (fun a w hF hW => ?_)
        refine ls hF hW rfl ((y_load (v := Value.agg #[.int .i64 x8.1, .bool x8.2.1, .string (bs x8.2.2)]) 0 hF rfl rfl T38 rfl).q) (fun a w hF hW => ?_)
        refine ls hF hW rfl (y_callV (ws := [.agg #[.int .i64 x8.1, .bool x8.2.1, .string (bs x8.2.2)]]) (v := Value.bool (channel_Channel_Len_1 x8)) hF H23 rfl (fun w hW => channel_Channel_Len_1_c any w x8 _ rfl)) (fun a w hF hW => ?_)
        refine ls hF hW rfl ((y_not hF rfl).q) (fun a w hF hW => ?_)
        refine ls_nil ?_
        refine c_then ?_
        refine c_cond hF rfl (fun hb => ?_) (fun hb => ?_)
        ·
          have H := iteT hb H
          rw [hb] at hF
          clear hb
          refine wp_exit ?_
          refine e_then ?_
          refine e_block ?_
          refine c_then ?_
          have hW := hW.sub (M' := []) (Z' := []) (List.nil_sublist _) (List.Sublist.refl _)
          exact ⟨_, _, H, hF.re ⟨rfl, rfl, rfl, rfl, rfl, rfl, rfl, rfl, trivial⟩, hW⟩
        ·
          have H := iteF (by rw [hb]; decide) H
          rw [hb] at hF
          clear hb
          refine wp_skip ?_
          refine c_then ?_
          refine c_seq ?_
          refine reg_list ?_
          refine ls hF hW rfl ((y_move hF rfl).q) (fun a w hF hW => ?_)
          refine ls hF hW rfl ((y_add hF rfl rfl rfl).q) (fun a w hF hW => ?_)
          refine ls hF hW rfl ((y_assign hF rfl).q) (fun a w hF hW => ?_)
          refine ls_nil ?_
          refine c_then ?_
          refine c_seq ?_
          refine reg_list ?_
          refine ls hF hW rfl ((y_move hF rfl).q) (fun a w hF hW => ?_)
          refine ls hF hW rfl ((y_lss hF rfl rfl).q) (fun a w hF hW => ?_)
          refine ls_nil ?_
          refine c_then ?_
          refine c_cond hF rfl (fun hb => ?_) (fun hb => ?_)
          ·
            have H := iteT (of_decide_eq_true hb) H
            rw [hb] at hF
            clear hb
            refine reg_list ?_
            refine ls hF hW rfl ((y_move hF rfl).q) (fun a w hF hW => ?_)
            refine ls hF hW rfl ((y_assign hF rfl).q) (fun a w hF hW => ?_)
            refine ls_nil ?_
            refine b_normal ?_
            refine c_then ?_
            have hW := hW.sub (M' := []) (Z' := []) (List.nil_sublist _) (List.Sublist.refl _)
            exact ⟨_, _, H, hF.re ⟨rfl, rfl, rfl, rfl, rfl, rfl, rfl, rfl, trivial⟩, hW⟩
          ·
            have H := iteF (of_decide_eq_false hb) H
            rw [hb] at hF
            clear hb
            refine wp_skip ?_
            refine b_normal ?_
            refine c_then ?_
            have hW := hW.sub (M' := []) (Z' := []) (List.nil_sublist _) (List.Sublist.refl _)
            exact ⟨_, _, H, hF.re ⟨rfl, rfl, rfl, rfl, rfl, rfl, rfl, rfl, trivial⟩, hW⟩
      rintro a w ⟨x6, x7, hj, hF, hW⟩
      have hj := Option.some.inj hj
      subst hj
      have H := K3
      clear G3 K3
      refine reg_list ?_
      refine ls hF hW rfl ((y_add hF rfl rfl rfl).q) (fun a w hF hW => ?_)
      refine ls hF hW rfl ((y_move hF rfl).q) (fun a w hF hW => ?_)
      refine ls_nil ?_
      refine c_then ?_
      exact ⟨_, H, hF.re ⟨rfl, rfl, rfl, rfl, rfl, rfl, rfl, rfl, trivial⟩, hW⟩
    ·
      have H := iteF (of_decide_eq_false hb) H
      rw [hb] at hF
      clear hb
      refine wp_exit ?_
      refine e_then ?_
      refine e_then ?_
      refine e_block ?_
      refine c_then ?_
      have H := L2 _ H
      exact ⟨_, _, H, hF.re ⟨rfl, rfl, rfl, rfl, trivial⟩, hW⟩
  rintro a w ⟨x1, x2, hj, hF, hW⟩
  have hj := Option.some.inj hj
  subst hj
  have H := K1
  clear G1 K1
  refine c_seq ?_
  refine reg_list ?_
  refine ls hF hW rfl ((y_move hF rfl).q) (fun a w hF hW => ?_)
  refine ls hF hW rfl ((y_move hF rfl).q) (fun a w hF hW => ?_)
  refine ls hF hW rfl ((y_assign hF rfl).q) (fun a w hF hW => ?_)
  refine ls hF hW rfl ((y_assign hF rfl).q) (fun a w hF hW => ?_)
  refine ls_nil ?_
  refine c_then ?_
  refine wp_ret ?_
  have H := Option.some.inj H
  subst H
  refine post2 (.inl rfl) hF hW rfl (rv_tmp hF rfl) (rv_tmp hF rfl) ?_
  exact ⟨rfl, hW.done⟩

theorem H25 : Has Try.prog 25 := ⟨fun args w => run_callFunc_body Try.func25 rfl (by decide) args w⟩
noncomputable def channel_Channel_count (p0 : (List (Int × Bool × List UInt8)) × Int) : Option Int := (channel_Channel_find p0).bind fun x1 => some x1.1
theorem channel_Channel_count_c (Y : Nat → Prop) (w0 : World) (q_p0 : Nat) (v1 : Value) (p0 : (List (Int × Bool × List UInt8)) × Int) (r : Int) (H : channel_Channel_count p0 = some r) (h_v1 : Sl w0 (NX []) R38 v1 p0.1) (a_q_p0 : At ⟨Y, [], w0⟩ q_p0 0 [v1, .int .i64 p0.2]) :
    Calls Try.prog 22 #[.pointer (some ⟨q_p0, 0, none⟩), .func (.func 23) #[] #[]] w0 fun e w' => e = .returned (.int .i64 r) ∧ Below w0.heap.size w0 w' := by
  refine enter Try.func22 rfl Try.ntmps22 rfl (fun a hF => ?_)
  have hW := Stw.start Y w0
  unfold channel_Channel_count at H
  refine c_seq ?_
  refine reg_list ?_
  refine ls hF hW rfl ((y_assign hF rfl).q) (fun a w hF hW => ?_)
  refine ls_nil ?_
  refine c_then ?_
  refine c_seq ?_
  refine reg_list ?_
  refine ls hF hW rfl ((y_move hF rfl).q) (fun a w hF hW => ?_)
  refine ls hF hW rfl ((y_move hF rfl).q) (fun a w hF hW => ?_)
  obtain ⟨x1, h1, H⟩ := bindE H
  refine ls hF hW rfl (y_call (v := Value.tuple #[.int .i64 x1.1, .int .i64 x1.2]) hF H25 rfl (fun w hW => channel_Channel_find_c any w q_p0 (v1) p0 _ h1 (((rdc_ro h_v1) : Rdc _ _ _ _ _ _) w hW).nx (At.re a_q_p0 hW))) (fun a w hF hW => ?_)
  refine ls hF hW rfl ((y_move hF rfl).q) (fun a w hF hW => ?_)
  refine ls hF hW rfl ((y_extract (v := Value.int .i64 x1.1) hF rfl rfl).q) (fun a w hF hW => ?_)
  refine ls hF hW rfl ((y_extract (v := Value.int .i64 x1.2) hF rfl rfl).q) (fun a w hF hW => ?_)
  refine ls hF hW rfl ((y_assign hF rfl).q) (fun a w hF hW => ?_)
  refine ls hF hW rfl ((y_assign hF rfl).q) (fun a w hF hW => ?_)
  refine ls_nil ?_
  refine c_then ?_
  refine c_seq ?_
  refine reg_list ?_
  refine ls hF hW rfl ((y_move hF rfl).q) (fun a w hF hW => ?_)
  refine ls hF hW rfl ((y_assign hF rfl).q) (fun a w hF hW => ?_)
  refine ls_nil ?_
  refine c_then ?_
  refine wp_ret ?_
  have H := Option.some.inj H
  subst H
  refine post1 (.inl rfl) hF hW rfl (rv_tmp hF rfl) ?_
  exact ⟨rfl, hW.done⟩

theorem H22 : Has Try.prog 22 := ⟨fun args w => run_callFunc_body Try.func22 rfl (by decide) args w⟩
noncomputable def channel_Channel_Len (p0 : (List (Int × Bool × List UInt8)) × Int) : Option Int := (channel_Channel_count p0).bind fun x1 => some x1
theorem channel_Channel_Len_c (Y : Nat → Prop) (w0 : World) (q_p0 : Nat) (v1 : Value) (p0 : (List (Int × Bool × List UInt8)) × Int) (r : Int) (H : channel_Channel_Len p0 = some r) (h_v1 : Sl w0 (NX []) R38 v1 p0.1) (a_q_p0 : At ⟨Y, [], w0⟩ q_p0 0 [v1, .int .i64 p0.2]) :
    Calls Try.prog 7 #[.pointer (some ⟨q_p0, 0, none⟩)] w0 fun e w' => e = .returned (.int .i64 r) ∧ Below w0.heap.size w0 w' := by
  refine enter Try.func7 rfl Try.ntmps7 rfl (fun a hF => ?_)
  have hW := Stw.start Y w0
  unfold channel_Channel_Len at H
  refine c_seq ?_
  refine reg_list ?_
  refine ls hF hW rfl ((y_assign hF rfl).q) (fun a w hF hW => ?_)
  refine ls_nil ?_
  refine c_then ?_
  refine c_seq ?_
  refine reg_list ?_
  refine ls hF hW rfl ((y_move hF rfl).q) (fun a w hF hW => ?_)
  obtain ⟨x1, h1, H⟩ := bindE H
  refine ls hF hW rfl (y_call (v := Value.int .i64 x1) hF H22 rfl (fun w hW => channel_Channel_count_c any w q_p0 (v1) p0 _ h1 (((rdc_ro h_v1) : Rdc _ _ _ _ _ _) w hW).nx (At.re a_q_p0 hW))) (fun a w hF hW => ?_)
  refine ls hF hW rfl ((y_assign hF rfl).q) (fun a w hF hW => ?_)
  refine ls_nil ?_
  refine c_then ?_
  refine wp_ret ?_
  have H := Option.some.inj H
  subst H
  refine post1 (.inl rfl) hF hW rfl (rv_tmp hF rfl) ?_
  exact ⟨rfl, hW.done⟩

theorem H7 : Has Try.prog 7 := ⟨fun args w => run_callFunc_body Try.func7 rfl (by decide) args w⟩
def channel_Channel_Of_1 (p0 : Int × Bool × List UInt8) (p1 : Int) : Bool := decide (p0.1 = p1)
theorem channel_Channel_Of_1_c (Y : Nat → Prop) (w0 : World) (q_p1 : Nat) (p0 : Int × Bool × List UInt8) (p1 : Int) (r : Bool) (H : channel_Channel_Of_1 p0 p1 = r) (a_q_p1 : At ⟨Y, [], w0⟩ q_p1 0 [.int .i64 p1]) :
    Calls Try.prog 24 #[.agg #[.int .i64 p0.1, .bool p0.2.1, .string (bs p0.2.2)], .pointer (some ⟨q_p1, 0, none⟩)] w0 fun e w' => e = .returned (.bool r) ∧ Below w0.heap.size w0 w' := by
  refine enter Try.func24 rfl Try.ntmps24 rfl (fun a hF => ?_)
  have hW := Stw.start Y w0
  unfold channel_Channel_Of_1 at H
  refine c_seq ?_
  refine reg_list ?_
  refine l_box (cs := [.int .i64 p0.1, .bool p0.2.1, .string (bs p0.2.2)]) hF hW rfl rfl rfl (fun b1 a w hF hW => ?_)
  refine ls hF hW rfl ((y_assign hF rfl).q) (fun a w hF hW => ?_)
  refine ls_nil ?_
  refine c_then ?_
  refine c_seq ?_
  refine reg_list ?_
  refine ls hF hW rfl ((y_fieldAddr Try.underlying38 rfl rfl rfl T3 hF rfl 0 rfl).q) (fun a w hF hW => ?_)
  refine ls hF hW rfl ((y_load (v := Value.int .i64 p0.1) 0 hF rfl rfl T3 rfl).q) (fun a w hF hW => ?_)
  refine ls hF hW rfl ((y_load_at (y := Value.int .i64 p1) (j := 0) hF rfl (Nat.zero_add _).symm a_q_p1 T3 rfl).q) (fun a w hF hW => ?_)
  refine ls hF hW rfl ((y_eql hF rfl rfl).q) (fun a w hF hW => ?_)
  refine ls hF hW rfl ((y_assign hF rfl).q) (fun a w hF hW => ?_)
  refine ls_nil ?_
  refine c_then ?_
  refine wp_ret ?_
  subst H
  refine post1 (.inl rfl) hF hW rfl (rv_tmp hF rfl) ?_
  exact ⟨rfl, hW.done⟩

theorem H24 : Has Try.prog 24 := ⟨fun args w => run_callFunc_body Try.func24 rfl (by decide) args w⟩
noncomputable def channel_Channel_find_2_l1 (p0 : (List (Int × Bool × List UInt8)) × Int) (p1c0 : Int) : (Int × Int × Int) → Option ((Int × Int × Int) ⊕ (Int × Int))
  | (x3, x4, x5) => (if x5 < (p0.1.length : Int) then ((ix p0.1 x5).bind fun x8 => (if (!(channel_Channel_Of_1 x8 p1c0)) = true then some (x3, x4) else (if x4 < 0 then some (w64 (x3 + 1), x5) else some (w64 (x3 + 1), x4)))).bind fun (x6, x7) => some (.inl (x6, x7, w64 (x5 + 1))) else some (.inr (x3, x4)))
noncomputable def channel_Channel_find_2 (p0 : (List (Int × Bool × List UInt8)) × Int) (p1c0 : Int) : Option (Int × Int) := (loopW (channel_Channel_find_2_l1 p0 p1c0) (0, (-1), 0)).bind fun (x1, x2) => some (x1, x2)
theorem channel_Channel_find_2_c (Y : Nat → Prop) (w0 : World) (q_p0 : Nat) (v1 : Value) (q_p1c0 : Nat) (p0 : (List (Int × Bool × List UInt8)) × Int) (p1c0 : Int) (r : Int × Int) (H : channel_Channel_find_2 p0 p1c0 = some r) (h_v1 : Sl w0 (NX []) R38 v1 p0.1) (a_q_p0 : At ⟨Y, [], w0⟩ q_p0 0 [v1, .int .i64 p0.2]) (a_q_p1c0 : At ⟨Y, [], w0⟩ q_p1c0 0 [.int .i64 p1c0]) :
    Calls Try.prog 25 #[.pointer (some ⟨q_p0, 0, none⟩), .func (.func 24) #[] #[.pointer (some ⟨q_p1c0, 0, none⟩)]] w0 fun e w' => e = .returned (.tuple #[.int .i64 r.1, .int .i64 r.2]) ∧ Below w0.heap.size w0 w' := by
  refine enter Try.func25 rfl Try.ntmps25 rfl (fun a hF => ?_)
  have hW := Stw.start Y w0
  unfold channel_Channel_find_2 at H
  refine c_seq ?_
  refine reg_list ?_
  refine ls hF hW rfl ((y_assign hF rfl).q) (fun a w hF hW => ?_)
  refine ls hF hW rfl ((y_assign hF rfl).q) (fun a w hF hW => ?_)
  refine ls_nil ?_
  refine c_then ?_
  refine c_seq ?_
  refine reg_list ?_
  refine ls hF hW rfl ((y_assign hF rfl).q) (fun a w hF hW => ?_)
  refine ls hF hW rfl ((y_assign hF rfl).q) (fun a w hF hW => ?_)
  refine ls_nil ?_
  refine c_then ?_
  refine c_seq ?_
  refine c_seq ?_
  refine reg_list ?_
  refine ls hF hW rfl ((y_move hF rfl).q) (fun a w hF hW => ?_)
  refine ls hF hW rfl ((y_peq_some_nil Try.underlying23 hF rfl rfl).q) (fun a w hF hW => ?_)
  refine ls_nil ?_
  refine c_then ?_
  refine c_cond_f hF rfl ?_
  refine wp_skip ?_
  refine c_then ?_
  obtain ⟨o1, G1, K1⟩ := bindE H
  refine c_seqJ (fun a w => ∃ x1 : Int, ∃ x2 : Int, some ((x1, x2)) = some o1 ∧ Fr 36 [] [(4, .int .i64 0), (5, .int .i64 0), (6, .int .i64 x1), (7, .int .i64 x2)] a ∧ Stw ⟨Y, [], w0⟩ [] [] w) ?_ ?_
  ·
    have H := G1
    clear G1 K1
    refine c_seq ?_
    refine reg_list ?_
    refine ls hF hW rfl ((y_move hF rfl).q) (fun a w hF hW => ?_)
    refine ls hF hW rfl ((y_nilCheck hF rfl).q) (fun a w hF hW => ?_)
    refine ls hF hW rfl ((y_fieldAddr Try.underlying46 rfl rfl rfl T44 hF rfl 0 rfl).q) (fun a w hF hW => ?_)
    refine ls hF hW rfl ((y_load_at (y := v1) (j := 0) hF rfl (Nat.zero_add _).symm a_q_p0 T44 rfl).q) (fun a w hF hW => ?_)
    refine ls hF hW rfl ((y_len (r := R38) (l := p0.1) Try.underlying44 rfl hF rfl (rdc_ro h_v1)).q) (fun a w hF hW => ?_)
    refine ls hF hW rfl ((y_move hF rfl).q) (fun a w hF hW => ?_)
    refine ls_nil ?_
    refine c_then ?_
    refine wp_block ?_
    refine c_loopW H (fun s a w => Fr 36 [] [(1, .func (.func 24) #[] #[.pointer (some ⟨q_p1c0, 0, none⟩)]), (4, .int .i64 0), (5, .int .i64 0), (6, .int .i64 s.1), (7, .int .i64 s.2.1), (17, v1), (18, .int .i64 (p0.1.length : Int)), (19, .int .i64 s.2.2)] a ∧ Stw ⟨Y, [], w0⟩ [] [] w) ⟨hF.re ⟨rfl, rfl, rfl, rfl, rfl, rfl, rfl, rfl, trivial⟩, hW⟩ (fun s o a w H L2 hR => ?_)
    obtain ⟨x3, x4, x5⟩ := s
    obtain ⟨hF, hW⟩ := hR
    have hF : Fr 36 [] [(1, .func (.func 24) #[] #[.pointer (some ⟨q_p1c0, 0, none⟩)]), (4, .int .i64 0), (5, .int .i64 0), (6, .int .i64 x3), (7, .int .i64 x4), (17, v1), (18, .int .i64 (p0.1.length : Int)), (19, .int .i64 x5)] a := hF
    have hW : Stw ⟨Y, [], w0⟩ [] [] w := hW
    rw [channel_Channel_find_2_l1] at H
    refine c_seq ?_
    refine reg_list ?_
    refine ls hF hW rfl ((y_lss hF rfl rfl).q) (fun a w hF hW => ?_)
    refine ls_nil ?_
    refine c_then ?_
    refine c_seq ?_
    refine c_cond hF rfl (fun hb => ?_) (fun hb => ?_)
    ·
      have H := iteT (of_decide_eq_true hb) H
      rw [hb] at hF
      clear hb
      refine wp_skip ?_
      refine c_then ?_
      obtain ⟨o3, G3, K3⟩ := bindE H
      refine c_seqJ (fun a w => ∃ x6 : Int, ∃ x7 : Int, some ((x6, x7)) = some o3 ∧ Fr 36 [] [(1, .func (.func 24) #[] #[.pointer (some ⟨q_p1c0, 0, none⟩)]), (4, .int .i64 0), (5, .int .i64 0), (6, .int .i64 x6), (7, .int .i64 x7), (17, v1), (18, .int .i64 (p0.1.length : Int)), (19, .int .i64 x5)] a ∧ Stw ⟨Y, [], w0⟩ [] [] w) ?_ ?_
      ·
        have H := G3
        clear G3 K3
        refine wp_block ?_
        refine c_seq ?_
        refine reg_list ?_
        refine ls hF hW rfl ((y_move hF rfl).q) (fun a w hF hW => ?_)
        obtain ⟨x8, h1, H⟩ := bindE H
        refine ls hF hW rfl ((y_index (r := R38) L44 hF rfl rfl (rdc_ro h_v1) h1).q) (fun a w hF hW => ?_)
        refine ls hF hW rfl ((y_load_el (y := Value.agg #[.int .i64 x8.1, .bool x8.2.1, .string (bs x8.2.2)]) (j := 0) (i := x5) hF rfl rfl (rdc_ro h_v1) h1 F38.to T38 rfl).q) (fun a w hF hW => ?_)
        refine l_alloc (cs := [.int .i64 0, .bool false, .string (bs ([] : List UInt8))]) hF hW rfl Z38 rfl (fun b1 a w hF hW => ?_)
        refine ls hF hW rfl ((y_assign hF rfl).q) (fun a w hF hW => ?_)
        refine l_store (vs := [.int .i64 x8.1, .bool x8.2.1, .string (bs x8.2.2)]) (M' := [(b1, [.int .i64 x8.1, .bool x8.2.1, .string (bs x8.2.2)])]) 0 hF hW rfl rfl rfl T38 rfl rfl rfl rfl rfl (fun w hW => ?_)
        refine ls_nil ?_
        refine c_then ?_
        refine c_seq ?_
        refine c_seq ?_
        refine reg_list ?_
        refine ls hF hW rfl ((y_move hF rfl).q) (fun a w hF hW => ?_)
        refine ls hF hW rfl ((y_load (v := Value.agg #[.int .i64 x8.1, .bool x8.2.1, .string (bs x8.2.2)]) 0 hF rfl rfl T38 rfl).q) (fun a w hF hW => ?_)
        refine ls hF hW rfl (y_callV (ws := [.agg #[.int .i64 x8.1, .bool x8.2.1, .string (bs x8.2.2)], .pointer (some ⟨q_p1c0, 0, none⟩)]) (v := Value.bool (channel_Channel_Of_1 x8 p1c0)) hF H24 rfl (fun w hW => channel_Channel_Of_1_c any w q_p1c0 x8 p1c0 _ rfl (At.re a_q_p1c0 hW))) (fun a w hF hW => ?_)
        refine ls hF hW rfl ((y_not hF rfl).q) (fun a w hF hW => ?_)
        refine ls_nil ?_
        refine c_then ?_
        refine c_cond hF rfl (fun hb => ?_) (fun hb => ?_)
        ·
          have H := iteT hb H
          rw [hb] at hF
          clear hb
          refine wp_exit ?_
          refine e_then ?_
          refine e_block ?_
          refine c_then ?_
          have hW := hW.sub (M' := []) (Z' := []) (List.nil_sublist _) (List.Sublist.refl _)
          exact ⟨_, _, H, hF.re ⟨rfl, rfl, rfl, rfl, rfl, rfl, rfl, rfl, trivial⟩, hW⟩
        ·
          have H := iteF (by rw [hb]; decide) H
          rw [hb] at hF
          clear hb
          refine wp_skip ?_
          refine c_then ?_
          refine c_seq ?_
          refine reg_list ?_
          refine ls hF hW rfl ((y_move hF rfl).q) (fun a w hF hW => ?_)
          refine ls hF hW rfl ((y_add hF rfl rfl rfl).q) (fun a w hF hW => ?_)
          refine ls hF hW rfl ((y_assign hF rfl).q) (fun a w hF hW => ?_)
          refine ls_nil ?_
          refine c_then ?_
          refine c_seq ?_
          refine reg_list ?_
          refine ls hF hW rfl ((y_move hF rfl).q) (fun a w hF hW => ?_)
          refine ls hF hW rfl ((y_lss hF rfl rfl).q) (fun a w hF hW => ?_)
          refine ls_nil ?_
          refine c_then ?_
          refine c_cond hF rfl (fun hb => ?_) (fun hb => ?_)
          ·
            have H := iteT (of_decide_eq_true hb) H
            rw [hb] at hF
            clear hb
            refine reg_list ?_
            refine ls hF hW rfl ((y_move hF rfl).q) (fun a w hF hW => ?_)
            refine ls hF hW rfl ((y_assign hF rfl).q) (fun a w hF hW => ?_)
            refine ls_nil ?_
            refine b_normal ?_
            refine c_then ?_
            have hW := hW.sub (M' := []) (Z' := []) (List.nil_sublist _) (List.Sublist.refl _)
            exact ⟨_, _, H, hF.re ⟨rfl, rfl, rfl, rfl, rfl, rfl, rfl, rfl, trivial⟩, hW⟩
          ·
            have H := iteF (of_decide_eq_false hb) H
            rw [hb] at hF
            clear hb
            refine wp_skip ?_
            refine b_normal ?_
            refine c_then ?_
            have hW := hW.sub (M' := []) (Z' := []) (List.nil_sublist _) (List.Sublist.refl _)
            exact ⟨_, _, H, hF.re ⟨rfl, rfl, rfl, rfl, rfl, rfl, rfl, rfl, trivial⟩, hW⟩
      rintro a w ⟨x6, x7, hj, hF, hW⟩
      have hj := Option.some.inj hj
      subst hj
      have H := K3
      clear G3 K3
      refine reg_list ?_
      refine ls hF hW rfl ((y_add hF rfl rfl rfl).q) (fun a w hF hW => ?_)
      refine ls hF hW rfl ((y_move hF rfl).q) (fun a w hF hW => ?_)
      refine ls_nil ?_
      refine c_then ?_
      exact ⟨_, H, hF.re ⟨rfl, rfl, rfl, rfl, rfl, rfl, rfl, rfl, trivial⟩, hW⟩
    ·
      have H := iteF (of_decide_eq_false hb) H
      rw [hb] at hF
      clear hb
      refine wp_exit ?_
      refine e_then ?_
      refine e_then ?_
      refine e_block ?_
      refine c_then ?_
      have H := L2 _ H
      exact ⟨_, _, H, hF.re ⟨rfl, rfl, rfl, rfl, trivial⟩, hW⟩
  rintro a w ⟨x1, x2, hj, hF, hW⟩
  have hj := Option.some.inj hj
  subst hj
  have H := K1
  clear G1 K1
  refine c_seq ?_
  refine reg_list ?_
  refine ls hF hW rfl ((y_move hF rfl).q) (fun a w hF hW => ?_)
  refine ls hF hW rfl ((y_move hF rfl).q) (fun a w hF hW => ?_)
  refine ls hF hW rfl ((y_assign hF rfl).q) (fun a w hF hW => ?_)
  refine ls hF hW rfl ((y_assign hF rfl).q) (fun a w hF hW => ?_)
  refine ls_nil ?_
  refine c_then ?_
  refine wp_ret ?_
  have H := Option.some.inj H
  subst H
  refine post2 (.inl rfl) hF hW rfl (rv_tmp hF rfl) (rv_tmp hF rfl) ?_
  exact ⟨rfl, hW.done⟩

noncomputable def channel_Channel_count_2 (p0 : (List (Int × Bool × List UInt8)) × Int) (p1c0 : Int) : Option Int := (channel_Channel_find_2 p0 p1c0).bind fun x1 => some x1.1
theorem channel_Channel_count_2_c (Y : Nat → Prop) (w0 : World) (q_p0 : Nat) (v1 : Value) (q_p1c0 : Nat) (p0 : (List (Int × Bool × List UInt8)) × Int) (p1c0 : Int) (r : Int) (H : channel_Channel_count_2 p0 p1c0 = some r) (h_v1 : Sl w0 (NX []) R38 v1 p0.1) (a_q_p0 : At ⟨Y, [], w0⟩ q_p0 0 [v1, .int .i64 p0.2]) (a_q_p1c0 : At ⟨Y, [], w0⟩ q_p1c0 0 [.int .i64 p1c0]) :
    Calls Try.prog 22 #[.pointer (some ⟨q_p0, 0, none⟩), .func (.func 24) #[] #[.pointer (some ⟨q_p1c0, 0, none⟩)]] w0 fun e w' => e = .returned (.int .i64 r) ∧ Below w0.heap.size w0 w' := by
  refine enter Try.func22 rfl Try.ntmps22 rfl (fun a hF => ?_)
  have hW := Stw.start Y w0
  unfold channel_Channel_count_2 at H
  refine c_seq ?_
  refine reg_list ?_
  refine ls hF hW rfl ((y_assign hF rfl).q) (fun a w hF hW => ?_)
  refine ls_nil ?_
  refine c_then ?_
  refine c_seq ?_
  refine reg_list ?_
  refine ls hF hW rfl ((y_move hF rfl).q) (fun a w hF hW => ?_)
  refine ls hF hW rfl ((y_move hF rfl).q) (fun a w hF hW => ?_)
  obtain ⟨x1, h1, H⟩ := bindE H
  refine ls hF hW rfl (y_call (v := Value.tuple #[.int .i64 x1.1, .int .i64 x1.2]) hF H25 rfl (fun w hW => channel_Channel_find_2_c any w q_p0 (v1) q_p1c0 p0 p1c0 _ h1 (((rdc_ro h_v1) : Rdc _ _ _ _ _ _) w hW).nx (At.re a_q_p0 hW) (At.re a_q_p1c0 hW))) (fun a w hF hW => ?_)
  refine ls hF hW rfl ((y_move hF rfl).q) (fun a w hF hW => ?_)
  refine ls hF hW rfl ((y_extract (v := Value.int .i64 x1.1) hF rfl rfl).q) (fun a w hF hW => ?_)
  refine ls hF hW rfl ((y_extract (v := Value.int .i64 x1.2) hF rfl rfl).q) (fun a w hF hW => ?_)
  refine ls hF hW rfl ((y_assign hF rfl).q) (fun a w hF hW => ?_)
  refine ls hF hW rfl ((y_assign hF rfl).q) (fun a w hF hW => ?_)
  refine ls_nil ?_
  refine c_then ?_
  refine c_seq ?_
  refine reg_list ?_
  refine ls hF hW rfl ((y_move hF rfl).q) (fun a w hF hW => ?_)
  refine ls hF hW rfl ((y_assign hF rfl).q) (fun a w hF hW => ?_)
  refine ls_nil ?_
  refine c_then ?_
  refine wp_ret ?_
  have H := Option.some.inj H
  subst H
  refine post1 (.inl rfl) hF hW rfl (rv_tmp hF rfl) ?_
  exact ⟨rfl, hW.done⟩

noncomputable def channel_Channel_Of (p0 : (List (Int × Bool × List UInt8)) × Int) (p1 : Int) : Option Int := (channel_Channel_count_2 p0 p1).bind fun x1 => some x1
theorem channel_Channel_Of_c (Y : Nat → Prop) (w0 : World) (q_p0 : Nat) (v1 : Value) (p0 : (List (Int × Bool × List UInt8)) × Int) (p1 : Int) (r : Int) (H : channel_Channel_Of p0 p1 = some r) (h_v1 : Sl w0 (NX []) R38 v1 p0.1) (a_q_p0 : At ⟨Y, [], w0⟩ q_p0 0 [v1, .int .i64 p0.2]) :
    Calls Try.prog 9 #[.pointer (some ⟨q_p0, 0, none⟩), .int .i64 p1] w0 fun e w' => e = .returned (.int .i64 r) ∧ Below w0.heap.size w0 w' := by
  refine enter Try.func9 rfl Try.ntmps9 rfl (fun a hF => ?_)
  have hW := Stw.start Y w0
  unfold channel_Channel_Of at H
  refine c_seq ?_
  refine reg_list ?_
  refine l_box (cs := [.int .i64 p1]) hF hW rfl rfl rfl (fun b1 a w hF hW => ?_)
  refine ls hF hW rfl ((y_assign hF rfl).q) (fun a w hF hW => ?_)
  refine ls_nil ?_
  refine c_then ?_
  refine c_seq ?_
  refine reg_list ?_
  refine ls hF hW rfl ((y_move hF rfl).q) (fun a w hF hW => ?_)
  refine ls hF hW rfl ((y_makeFunc (us := []) (vs := [.pointer (some ⟨b1, 0, none⟩)]) hF rfl rfl).q) (fun a w hF hW => ?_)
  obtain ⟨x1, h1, H⟩ := bindE H
  refine ls hF hW rfl (y_call (v := Value.int .i64 x1) hF H22 rfl (fun w hW => channel_Channel_count_2_c any w q_p0 (v1) b1 p0 p1 _ h1 (((rdc_ro h_v1) : Rdc _ _ _ _ _ _) w hW).nx (At.re a_q_p0 hW) (at_M hW 0 rfl))) (fun a w hF hW => ?_)
  refine ls hF hW rfl ((y_assign hF rfl).q) (fun a w hF hW => ?_)
  refine ls_nil ?_
  refine c_then ?_
  refine wp_ret ?_
  have H := Option.some.inj H
  subst H
  refine post1 (.inl rfl) hF hW rfl (rv_tmp hF rfl) ?_
  exact ⟨rfl, hW.done⟩

theorem H9 : Has Try.prog 9 := ⟨fun args w => run_callFunc_body Try.func9 rfl (by decide) args w⟩
theorem T4 : Ty Try.prog 4 false 1 := ⟨by kernel_rfl, by kernel_rfl⟩
def channel_Channel_Next_1 (p0 : Int × Bool × List UInt8) (p1 : Int) (p2 : Bool) : Bool := (decide (p0.1 = p1) && decide (p0.2.1 = p2))
theorem channel_Channel_Next_1_c (Y : Nat → Prop) (w0 : World) (q_p1 : Nat) (q_p2 : Nat) (p0 : Int × Bool × List UInt8) (p1 : Int) (p2 : Bool) (r : Bool) (H : channel_Channel_Next_1 p0 p1 p2 = r) (a_q_p1 : At ⟨Y, [], w0⟩ q_p1 0 [.int .i64 p1]) (a_q_p2 : At ⟨Y, [], w0⟩ q_p2 0 [.bool p2]) :
    Calls Try.prog 26 #[.agg #[.int .i64 p0.1, .bool p0.2.1, .string (bs p0.2.2)], .pointer (some ⟨q_p1, 0, none⟩), .pointer (some ⟨q_p2, 0, none⟩)] w0 fun e w' => e = .returned (.bool r) ∧ Below w0.heap.size w0 w' := by
  refine enter Try.func26 rfl Try.ntmps26 rfl (fun a hF => ?_)
  have hW := Stw.start Y w0
  unfold channel_Channel_Next_1 at H
  refine c_seq ?_
  refine reg_list ?_
  refine l_box (cs := [.int .i64 p0.1, .bool p0.2.1, .string (bs p0.2.2)]) hF hW rfl rfl rfl (fun b1 a w hF hW => ?_)
  refine ls hF hW rfl ((y_assign hF rfl).q) (fun a w hF hW => ?_)
  refine ls_nil ?_
  refine c_then ?_
  refine c_seqJ (fun a w => Fr 15 [] [(4, .bool (decide (p0.1 = p1) && decide (p0.2.1 = p2)))] a ∧ Stw ⟨Y, [], w0⟩ [(b1, [.int .i64 p0.1, .bool p0.2.1, .string (bs p0.2.2)])] [] w) ?_ ?_
  ·
    refine reg_list ?_
    refine ls hF hW rfl ((y_fieldAddr Try.underlying38 rfl rfl rfl T3 hF rfl 0 rfl).q) (fun a w hF hW => ?_)
    refine ls hF hW rfl ((y_load (v := Value.int .i64 p0.1) 0 hF rfl rfl T3 rfl).q) (fun a w hF hW => ?_)
    refine ls hF hW rfl ((y_load_at (y := Value.int .i64 p1) (j := 0) hF rfl (Nat.zero_add _).symm a_q_p1 T3 rfl).q) (fun a w hF hW => ?_)
    refine ls hF hW rfl ((y_eql hF rfl rfl).q) (fun a w hF hW => ?_)
    refine ls hF hW rfl ((y_move hF rfl).q) (fun a w hF hW => ?_)
    rcases Bool.eq_false_or_eq_true (decide (p0.1 = p1)) with hb0 | hb0
    ·
      rw [hb0] at hF
      refine ls_w hF hW (wanted_y hF rfl rfl rfl rfl) rfl (Nat.le_of_ble_eq_true rfl) ((y_fieldAddr Try.underlying38 rfl rfl rfl T4 hF rfl 1 rfl).q) (fun a w hF hW => ?_)
      refine ls_w hF hW (wanted_y hF rfl rfl rfl rfl) rfl (Nat.le_of_ble_eq_true rfl) ((y_load (v := Value.bool p0.2.1) 0 hF rfl rfl T4 rfl).q) (fun a w hF hW => ?_)
      refine ls_w hF hW (wanted_y hF rfl rfl rfl rfl) rfl (Nat.le_of_ble_eq_true rfl) ((y_load_at (y := Value.bool p2) (j := 0) hF rfl (Nat.zero_add _).symm a_q_p2 T4 rfl).q) (fun a w hF hW => ?_)
      refine ls_w hF hW (wanted_y hF rfl rfl rfl rfl) rfl (Nat.le_of_ble_eq_true rfl) ((y_eqb Try.underlying4 hF rfl rfl).q) (fun a w hF hW => ?_)
      refine ls hF hW rfl ((y_pick_t hF rfl rfl rfl).q) (fun a w hF hW => ?_)
      refine ls hF hW rfl ((y_assign hF rfl).q) (fun a w hF hW => ?_)
      refine ls_nil ?_
      refine c_then ?_
      exact ⟨hF.re ⟨(by show some (Value.bool (decide (p0.2.1 = p2))) = some (Value.bool (decide (p0.1 = p1) && decide (p0.2.1 = p2))); try rw [hb0]; all_goals simp only [Bool.not_true, Bool.not_false, Bool.true_and, Bool.false_and, Bool.true_or, Bool.false_or, Bool.and_true, Bool.or_false, cond_true, cond_false]), trivial⟩, hW⟩
    ·
      rw [hb0] at hF
      refine ls_skip hF (wanted_n hF rfl rfl rfl rfl rfl) rfl rfl (fun a hF => ?_)
      refine ls_skip hF (wanted_n hF rfl rfl rfl rfl rfl) rfl rfl (fun a hF => ?_)
      refine ls_skip hF (wanted_n hF rfl rfl rfl rfl rfl) rfl rfl (fun a hF => ?_)
      refine ls_skip hF (wanted_n hF rfl rfl rfl rfl rfl) rfl rfl (fun a hF => ?_)
      refine ls hF hW rfl ((y_pick_f hF rfl rfl rfl).q) (fun a w hF hW => ?_)
      refine ls hF hW rfl ((y_assign hF rfl).q) (fun a w hF hW => ?_)
      refine ls_nil ?_
      refine c_then ?_
      exact ⟨hF.re ⟨(by show some (Value.bool false) = some (Value.bool (decide (p0.1 = p1) && decide (p0.2.1 = p2))); try rw [hb0]; all_goals simp only [Bool.not_true, Bool.not_false, Bool.true_and, Bool.false_and, Bool.true_or, Bool.false_or, Bool.and_true, Bool.or_false, cond_true, cond_false]), trivial⟩, hW⟩
  rintro a w ⟨hF, hW⟩
  refine wp_ret ?_
  subst H
  refine post1 (.inl rfl) hF hW rfl (rv_tmp hF rfl) ?_
  exact ⟨rfl, hW.done⟩

theorem H26 : Has Try.prog 26 := ⟨fun args w => run_callFunc_body Try.func26 rfl (by decide) args w⟩
noncomputable def channel_Channel_find_3_l1 (p0 : (List (Int × Bool × List UInt8)) × Int) (p1c0 : Int) (p1c1 : Bool) : (Int × Int × Int) → Option ((Int × Int × Int) ⊕ (Int × Int))
  | (x3, x4, x5) => (if x5 < (p0.1.length : Int) then ((ix p0.1 x5).bind fun x8 => (if (!(channel_Channel_Next_1 x8 p1c0 p1c1)) = true then some (x3, x4) else (if x4 < 0 then some (w64 (x3 + 1), x5) else some (w64 (x3 + 1), x4)))).bind fun (x6, x7) => some (.inl (x6, x7, w64 (x5 + 1))) else some (.inr (x3, x4)))
noncomputable def channel_Channel_find_3 (p0 : (List (Int × Bool × List UInt8)) × Int) (p1c0 : Int) (p1c1 : Bool) : Option (Int × Int) := (loopW (channel_Channel_find_3_l1 p0 p1c0 p1c1) (0, (-1), 0)).bind fun (x1, x2) => some (x1, x2)
theorem channel_Channel_find_3_c (Y : Nat → Prop) (w0 : World) (q_p0 : Nat) (v1 : Value) (q_p1c0 : Nat) (q_p1c1 : Nat) (p0 : (List (Int × Bool × List UInt8)) × Int) (p1c0 : Int) (p1c1 : Bool) (r : Int × Int) (H : channel_Channel_find_3 p0 p1c0 p1c1 = some r) (h_v1 : Sl w0 (NX []) R38 v1 p0.1) (a_q_p0 : At ⟨Y, [], w0⟩ q_p0 0 [v1, .int .i64 p0.2]) (a_q_p1c0 : At ⟨Y, [], w0⟩ q_p1c0 0 [.int .i64 p1c0]) (a_q_p1c1 : At ⟨Y, [], w0⟩ q_p1c1 0 [.bool p1c1]) :
    Calls Try.prog 25 #[.pointer (some ⟨q_p0, 0, none⟩), .func (.func 26) #[] #[.pointer (some ⟨q_p1c0, 0, none⟩), .pointer (some ⟨q_p1c1, 0, none⟩)]] w0 fun e w' => e = .returned (.tuple #[.int .i64 r.1, .int .i64 r.2]) ∧ Below w0.heap.size w0 w' := by
  refine enter Try.func25 rfl Try.ntmps25 rfl (fun a hF => ?_)
  have hW := Stw.start Y w0
  unfold channel_Channel_find_3 at H
  refine c_seq ?_
  refine reg_list ?_
  refine ls hF hW rfl ((y_assign hF rfl).q) (fun a w hF hW => ?_)
  refine ls hF hW rfl ((y_assign hF rfl).q) (fun a w hF hW => ?_)
  refine ls_nil ?_
  refine c_then ?_
  refine c_seq ?_
  refine reg_list ?_
  refine ls hF hW rfl ((y_assign hF rfl).q) (fun a w hF hW => ?_)
  refine ls hF hW rfl ((y_assign hF rfl).q) (fun a w hF hW => ?_)
  refine ls_nil ?_
  refine c_then ?_
  refine c_seq ?_
  refine c_seq ?_
  refine reg_list ?_
  refine ls hF hW rfl ((y_move hF rfl).q) (fun a w hF hW => ?_)
  refine ls hF hW rfl ((y_peq_some_nil Try.underlying23 hF rfl rfl).q) (fun a w hF hW => ?_)
  refine ls_nil ?_
  refine c_then ?_
  refine c_cond_f hF rfl ?_
  refine wp_skip ?_
  refine c_then ?_
  obtain ⟨o1, G1, K1⟩ := bindE H
  refine c_seqJ (fun a w => ∃ x1 : Int, ∃ x2 : Int, some ((x1, x2)) = some o1 ∧ Fr 36 [] [(4, .int .i64 0), (5, .int .i64 0), (6, .int .i64 x1), (7, .int .i64 x2)] a ∧ Stw ⟨Y, [], w0⟩ [] [] w) ?_ ?_
  ·
    have H := G1
    clear G1 K1
    refine c_seq ?_
    refine reg_list ?_
    refine ls hF hW rfl ((y_move hF rfl).q) (fun a w hF hW => ?_)
    refine ls hF hW rfl ((y_nilCheck hF rfl).q) (fun a w hF hW => ?_)
    refine ls hF hW rfl ((y_fieldAddr Try.underlying46 rfl rfl rfl T44 hF rfl 0 rfl).q) (fun a w hF hW => ?_)
    refine ls hF hW rfl ((y_load_at (y := v1) (j := 0) hF rfl (Nat.zero_add _).symm a_q_p0 T44 rfl).q) (fun a w hF hW => ?_)
    refine ls hF hW rfl ((y_len (r := R38) (l := p0.1) Try.underlying44 rfl hF rfl (rdc_ro h_v1)).q) (fun a w hF hW => ?_)
    refine ls hF hW rfl ((y_move hF rfl).q) (fun a w hF hW => ?_)
    refine ls_nil ?_
    refine c_then ?_
    refine wp_block ?_
    refine c_loopW H (fun s a w => Fr 36 [] [(1, .func (.func 26) #[] #[.pointer (some ⟨q_p1c0, 0, none⟩), .pointer (some ⟨q_p1c1, 0, none⟩)]), (4, .int .i64 0), (5, .int .i64 0), (6, .int .i64 s.1), (7, .int .i64 s.2.1), (17, v1), (18, .int .i64 (p0.1.length : Int)), (19, .int .i64 s.2.2)] a ∧ Stw ⟨Y, [], w0⟩ [] [] w) ⟨hF.re ⟨rfl, rfl, rfl, rfl, rfl, rfl, rfl, rfl, trivial⟩, hW⟩ (fun s o a w H L2 hR => ?_)
    obtain ⟨x3, x4, x5⟩ := s
    obtain ⟨hF, hW⟩ := hR
    have hF : Fr 36 [] [(1, .func (.func 26) #[] #[.pointer (some ⟨q_p1c0, 0, none⟩), .pointer (some ⟨q_p1c1, 0, none⟩)]), (4, .int .i64 0), (5, .int .i64 0), (6, .int .i64 x3), (7, .int .i64 x4), (17, v1), (18, .int .i64 (p0.1.length : Int)), (19, .int .i64 x5)] a := hF
    have hW : Stw ⟨Y, [], w0⟩ [] [] w := hW
    rw [channel_Channel_find_3_l1] at H
    refine c_seq ?_
    refine reg_list ?_
    refine ls hF hW rfl ((y_lss hF rfl rfl).q) (fun a w hF hW => ?_)
    refine ls_nil ?_
    refine c_then ?_
    refine c_seq ?_
    refine c_cond hF rfl (fun hb => ?_) (fun hb => ?_)
    ·
      have H := iteT (of_decide_eq_true hb) H
      rw [hb] at hF
      clear hb
      refine wp_skip ?_
      refine c_then ?_
      obtain ⟨o3, G3, K3⟩ := bindE H
      refine c_seqJ (fun a w => ∃ x6 : Int, ∃ x7 : Int, some ((x6, x7)) = some o3 ∧ Fr 36 [] [(1, .func (.func 26) #[] #[.pointer (some ⟨q_p1c0, 0, none⟩), .pointer (some ⟨q_p1c1, 0, none⟩)]), (4, .int .i64 0), (5, .int .i64 0), (6, .int .i64 x6), (7, .int .i64 x7), (17, v1), (18, .int .i64 (p0.1.length : Int)), (19, .int .i64 x5)] a ∧ Stw ⟨Y, [], w0⟩ [] [] w) ?_ ?_
      ·
        have H := G3
        clear G3 K3
        refine wp_block ?_
        refine c_seq ?_
        refine reg_list ?_
        refine ls hF hW rfl ((y_move hF rfl).q) (fun a w hF hW => ?_)
        obtain ⟨x8, h1, H⟩ := bindE H
        refine ls hF hW rfl ((y_index (r := R38) L44 hF rfl rfl (rdc_ro h_v1) h1).q) (fun a w hF hW => ?_)
        refine ls hF hW rfl ((y_load_el (y := Value.agg #[.int .i64 x8.1, .bool x8.2.1, .string (bs x8.2.2)]) (j := 0) (i := x5) hF rfl rfl (rdc_ro h_v1) h1 F38.to T38 rfl).q) (fun a w hF hW => ?_)
        refine l_alloc (cs := [.int .i64 0, .bool false, .string (bs ([] : List UInt8))]) hF hW rfl Z38 rfl (fun b1 a w hF hW => ?_)
        refine ls hF hW rfl ((y_assign hF rfl).q) (fun a w hF hW => ?_)
        refine l_store (vs := [.int .i64 x8.1, .bool x8.2.1, .string (bs x8.2.2)]) (M' := [(b1, [.int .i64 x8.1, .bool x8.2.1, .string (bs x8.2.2)])]) 0 hF hW rfl rfl rfl T38 rfl rfl rfl rfl rfl (fun w hW => ?_)
        refine ls_nil ?_
        refine c_then ?_
        refine c_seq ?_
        refine c_seq ?_
        refine reg_list ?_
        refine ls hF hW rfl ((y_move hF rfl).q) (fun a w hF hW => ?_)
        refine ls hF hW rfl ((y_load (v := Value.agg #[.int .i64 x8.1, .bool x8.2.1, .string (bs x8.2.2)]) 0 hF rfl rfl T38 rfl).q) (fun a w hF hW => ?_)
        refine ls hF hW rfl (y_callV (ws := [.agg #[.int .i64 x8.1, .bool x8.2.1, .string (bs x8.2.2)], .pointer (some ⟨q_p1c0, 0, none⟩), .pointer (some ⟨q_p1c1, 0, none⟩)]) (v := Value.bool (channel_Channel_Next_1 x8 p1c0 p1c1)) hF H26 rfl (fun w hW => channel_Channel_Next_1_c any w q_p1c0 q_p1c1 x8 p1c0 p1c1 _ rfl (At.re a_q_p1c0 hW) (At.re a_q_p1c1 hW))) (fun a w hF hW => ?_)
        refine ls hF hW rfl ((y_not hF rfl).q) (fun a w hF hW => ?_)
        refine ls_nil ?_
        refine c_then ?_
        refine c_cond hF rfl (fun hb => ?_) (fun hb => ?_)
        ·
          have H := iteT hb H
          rw [hb] at hF
          clear hb
          refine wp_exit ?_
          refine e_then ?_
          refine e_block ?_
          refine c_then ?_
          have hW := hW.sub (M' := []) (Z' := []) (List.nil_sublist _) (List.Sublist.refl _)
          exact ⟨_, _, H, hF.re ⟨rfl, rfl, rfl, rfl, rfl, rfl, rfl, rfl, trivial⟩, hW⟩
        ·
          have H := iteF (by rw [hb]; decide) H
          rw [hb] at hF
          clear hb
          refine wp_skip ?_
          refine c_then ?_
          refine c_seq ?_
          refine reg_list ?_
          refine ls hF hW rfl ((y_move hF rfl).q) (fun a w hF hW => ?_)
          refine ls hF hW rfl ((y_add hF rfl rfl rfl).q) (fun a w hF hW => ?_)
          refine ls hF hW rfl ((y_assign hF rfl).q) (fun a w hF hW => ?_)
          refine ls_nil ?_
          refine c_then ?_
          refine c_seq ?_
          refine reg_list ?_
          refine ls hF hW rfl ((y_move hF rfl).q) (fun a w hF hW => ?_)
          refine ls hF hW rfl ((y_lss hF rfl rfl).q) (fun a w hF hW => ?_)
          refine ls_nil ?_
          refine c_then ?_
          refine c_cond hF rfl (fun hb => ?_) (fun hb => ?_)
          ·
            have H := iteT (of_decide_eq_true hb) H
            rw [hb] at hF
            clear hb
            refine reg_list ?_
            refine ls hF hW rfl ((y_move hF rfl).q) (fun a w hF hW => ?_)
            refine ls hF hW rfl ((y_assign hF rfl).q) (fun a w hF hW => ?_)
            refine ls_nil ?_
            refine b_normal ?_
            refine c_then ?_
            have hW := hW.sub (M' := []) (Z' := []) (List.nil_sublist _) (List.Sublist.refl _)
            exact ⟨_, _, H, hF.re ⟨rfl, rfl, rfl, rfl, rfl, rfl, rfl, rfl, trivial⟩, hW⟩
          ·
            have H := iteF (of_decide_eq_false hb) H
            rw [hb] at hF
            clear hb
            refine wp_skip ?_
            refine b_normal ?_
            refine c_then ?_
            have hW := hW.sub (M' := []) (Z' := []) (List.nil_sublist _) (List.Sublist.refl _)
            exact ⟨_, _, H, hF.re ⟨rfl, rfl, rfl, rfl, rfl, rfl, rfl, rfl, trivial⟩, hW⟩
      rintro a w ⟨x6, x7, hj, hF, hW⟩
      have hj := Option.some.inj hj
      subst hj
      have H := K3
      clear G3 K3
      refine reg_list ?_
      refine ls hF hW rfl ((y_add hF rfl rfl rfl).q) (fun a w hF hW => ?_)
      refine ls hF hW rfl ((y_move hF rfl).q) (fun a w hF hW => ?_)
      refine ls_nil ?_
      refine c_then ?_
      exact ⟨_, H, hF.re ⟨rfl, rfl, rfl, rfl, rfl, rfl, rfl, rfl, trivial⟩, hW⟩
    ·
      have H := iteF (of_decide_eq_false hb) H
      rw [hb] at hF
      clear hb
      refine wp_exit ?_
      refine e_then ?_
      refine e_then ?_
      refine e_block ?_
      refine c_then ?_
      have H := L2 _ H
      exact ⟨_, _, H, hF.re ⟨rfl, rfl, rfl, rfl, trivial⟩, hW⟩
  rintro a w ⟨x1, x2, hj, hF, hW⟩
  have hj := Option.some.inj hj
  subst hj
  have H := K1
  clear G1 K1
  refine c_seq ?_
  refine reg_list ?_
  refine ls hF hW rfl ((y_move hF rfl).q) (fun a w hF hW => ?_)
  refine ls hF hW rfl ((y_move hF rfl).q) (fun a w hF hW => ?_)
  refine ls hF hW rfl ((y_assign hF rfl).q) (fun a w hF hW => ?_)
  refine ls hF hW rfl ((y_assign hF rfl).q) (fun a w hF hW => ?_)
  refine ls_nil ?_
  refine c_then ?_
  refine wp_ret ?_
  have H := Option.some.inj H
  subst H
  refine post2 (.inl rfl) hF hW rfl (rv_tmp hF rfl) (rv_tmp hF rfl) ?_
  exact ⟨rfl, hW.done⟩

noncomputable def channel_Channel_Next (p0 : (List (Int × Bool × List UInt8)) × Int) (p1 : Int) (p2 : Bool) : Option Int := (channel_Channel_find_3 p0 p1 p2).bind fun x1 => some x1.2
theorem channel_Channel_Next_c (Y : Nat → Prop) (w0 : World) (q_p0 : Nat) (v1 : Value) (p0 : (List (Int × Bool × List UInt8)) × Int) (p1 : Int) (p2 : Bool) (r : Int) (H : channel_Channel_Next p0 p1 p2 = some r) (h_v1 : Sl w0 (NX []) R38 v1 p0.1) (a_q_p0 : At ⟨Y, [], w0⟩ q_p0 0 [v1, .int .i64 p0.2]) :
    Calls Try.prog 11 #[.pointer (some ⟨q_p0, 0, none⟩), .int .i64 p1, .bool p2] w0 fun e w' => e = .returned (.int .i64 r) ∧ Below w0.heap.size w0 w' := by
  refine enter Try.func11 rfl Try.ntmps11 rfl (fun a hF => ?_)
  have hW := Stw.start Y w0
  unfold channel_Channel_Next at H
  refine c_seq ?_
  refine reg_list ?_
  refine l_box (cs := [.int .i64 p1]) hF hW rfl rfl rfl (fun b1 a w hF hW => ?_)
  refine l_box (cs := [.bool p2]) hF hW rfl rfl rfl (fun b2 a w hF hW => ?_)
  refine ls hF hW rfl ((y_assign hF rfl).q) (fun a w hF hW => ?_)
  refine ls_nil ?_
  refine c_then ?_
  refine c_seq ?_
  refine reg_list ?_
  refine ls hF hW rfl ((y_move hF rfl).q) (fun a w hF hW => ?_)
  refine ls hF hW rfl ((y_makeFunc (us := []) (vs := [.pointer (some ⟨b1, 0, none⟩), .pointer (some ⟨b2, 0, none⟩)]) hF rfl rfl).q) (fun a w hF hW => ?_)
  obtain ⟨x1, h1, H⟩ := bindE H
  refine ls hF hW rfl (y_call (v := Value.tuple #[.int .i64 x1.1, .int .i64 x1.2]) hF H25 rfl (fun w hW => channel_Channel_find_3_c any w q_p0 (v1) b1 b2 p0 p1 p2 _ h1 (((rdc_ro h_v1) : Rdc _ _ _ _ _ _) w hW).nx (At.re a_q_p0 hW) (at_M hW 1 rfl) (at_M hW 0 rfl))) (fun a w hF hW => ?_)
  refine ls hF hW rfl ((y_move hF rfl).q) (fun a w hF hW => ?_)
  refine ls hF hW rfl ((y_extract (v := Value.int .i64 x1.1) hF rfl rfl).q) (fun a w hF hW => ?_)
  refine ls hF hW rfl ((y_extract (v := Value.int .i64 x1.2) hF rfl rfl).q) (fun a w hF hW => ?_)
  refine ls hF hW rfl ((y_assign hF rfl).q) (fun a w hF hW => ?_)
  refine ls hF hW rfl ((y_assign hF rfl).q) (fun a w hF hW => ?_)
  refine ls_nil ?_
  refine c_then ?_
  refine c_seq ?_
  refine reg_list ?_
  refine ls hF hW rfl ((y_move hF rfl).q) (fun a w hF hW => ?_)
  refine ls hF hW rfl ((y_assign hF rfl).q) (fun a w hF hW => ?_)
  refine ls_nil ?_
  refine c_then ?_
  refine wp_ret ?_
  have H := Option.some.inj H
  subst H
  refine post1 (.inl rfl) hF hW rfl (rv_tmp hF rfl) ?_
  exact ⟨rfl, hW.done⟩

theorem H11 : Has Try.prog 11 := ⟨fun args w => run_callFunc_body Try.func11 rfl (by decide) args w⟩
noncomputable def L34_awake  : Option Bool := (channel_Channel_Send channel_New (0, false, ([97] : List UInt8))).bind fun x1 => (channel_Channel_Send x1.2 (1, false, ([98] : List UInt8))).bind fun x2 => (channel_Channel_Send x2.2 (0, false, ([99] : List UInt8))).bind fun x3 => (channel_Channel_Take x3.2 1).bind fun x4 => (channel_Channel_Look x4.2.2 1).bind fun x5 => (if x1.1 = 0 then (if x2.1 = x1.1 then (if x3.1 = x1.1 then (if x4.2.1 = x1.1 then (if x5.2 = x1.1 then (if x4.1.2.2 = ([98] : List UInt8) then (if x5.1.2.2 = ([99] : List UInt8) then (channel_Channel_Len x4.2.2).bind fun x7 => (if x7 = 2 then (channel_Channel_Of x4.2.2 0).bind fun x8 => (if x8 = 2 then (channel_Channel_Next x4.2.2 1 false).bind fun x9 => some (decide (x9 = (-1))) else some false) else some false) else some false) else some false) else some false) else some false) else some false) else some false) else some false).bind fun x6 => some x6
theorem L34_awake_c (Y : Nat → Prop) (w0 : World)   (r : Bool) (H : L34_awake  = some r)  :
    Calls Try.prog 5 #[] w0 fun e w' => e = .returned (.bool r) ∧ Below w0.heap.size w0 w' := by
  refine enter Try.func5 rfl Try.ntmps5 rfl (fun a hF => ?_)
  have hW := Stw.start Y w0
  unfold L34_awake at H
  refine c_seq ?_
  refine reg_list ?_
  refine ls hF hW rfl ((y_assign hF rfl).q) (fun a w hF hW => ?_)
  refine ls_nil ?_
  refine c_then ?_
  refine c_seq ?_
  refine reg_list ?_
  refine l_callG (Ml := []) (Zl := []) (M := []) (Z := []) (β := Nat × Value) (rv := fun x => .pointer (some ⟨x.1, 0, none⟩)) (MM := fun x => [(x.1, [x.2, .int .i64 channel_New.2])]) (ZZ := fun x => [row x.2 38 R38 channel_New.1]) hF hW H4 rfl rfl (fun hL => channel_New_c _ w _ rfl) (fun x a w hF hW => ?_)
  obtain ⟨b1, v1⟩ := x
  have hW : Stw ⟨Y, [], w0⟩ [(b1, [v1, .int .i64 channel_New.2])] [row v1 38 R38 channel_New.1] w := hW
  refine ls hF hW rfl ((y_assign hF rfl).q) (fun a w hF hW => ?_)
  refine ls_nil ?_
  refine c_then ?_
  refine c_seq ?_
  refine reg_list ?_
  refine ls hF hW rfl ((y_move hF rfl).q) (fun a w hF hW => ?_)
  refine ls hF hW rfl ((y_build (v := Value.agg #[.int .i64 0, .bool false, .string (bs ([97] : List UInt8))]) B38 hF rfl rfl rfl).q) (fun a w hF hW => ?_)
  obtain ⟨x1, h1, H⟩ := bindE H
  refine l_callG (Ml := [(b1, [v1, .int .i64 channel_New.2])]) (Zl := [row v1 38 R38 channel_New.1]) (M := []) (Z := []) (β := Value) (rv := fun x => .int .i64 x1.1) (MM := fun x => [(b1, [x, .int .i64 x1.2.2])]) (ZZ := fun x => [row x 38 R38 x1.2.1]) hF hW H15 rfl rfl (fun hL => channel_Channel_Send_c _ _ w b1 (v1) channel_New (0, false, ([97] : List UInt8)) _ h1 hL) (fun x a w hF hW => ?_)
  obtain ⟨v2, rfl⟩ : ∃ y, y = x := ⟨x, rfl⟩
  have hW : Stw ⟨Y, [], w0⟩ [(b1, [v2, .int .i64 x1.2.2])] [row v2 38 R38 x1.2.1] w := hW
  refine ls hF hW rfl ((y_move hF rfl).q) (fun a w hF hW => ?_)
  refine ls hF hW rfl ((y_build (v := Value.agg #[.int .i64 1, .bool false, .string (bs ([98] : List UInt8))]) B38 hF rfl rfl rfl).q) (fun a w hF hW => ?_)
  obtain ⟨x2, h2, H⟩ := bindE H
  refine l_callG (Ml := [(b1, [v2, .int .i64 x1.2.2])]) (Zl := [row v2 38 R38 x1.2.1]) (M := []) (Z := []) (β := Value) (rv := fun x => .int .i64 x2.1) (MM := fun x => [(b1, [x, .int .i64 x2.2.2])]) (ZZ := fun x => [row x 38 R38 x2.2.1]) hF hW H15 rfl rfl (fun hL => channel_Channel_Send_c _ _ w b1 (v2) x1.2 (1, false, ([98] : List UInt8)) _ h2 hL) (fun x a w hF hW => ?_)
  obtain ⟨v3, rfl⟩ : ∃ y, y = x := ⟨x, rfl⟩
  have hW : Stw ⟨Y, [], w0⟩ [(b1, [v3, .int .i64 x2.2.2])] [row v3 38 R38 x2.2.1] w := hW
  refine ls hF hW rfl ((y_move hF rfl).q) (fun a w hF hW => ?_)
  refine ls hF hW rfl ((y_build (v := Value.agg #[.int .i64 0, .bool false, .string (bs ([99] : List UInt8))]) B38 hF rfl rfl rfl).q) (fun a w hF hW => ?_)
  obtain ⟨x3, h3, H⟩ := bindE H
  refine l_callG (Ml := [(b1, [v3, .int .i64 x2.2.2])]) (Zl := [row v3 38 R38 x2.2.1]) (M := []) (Z := []) (β := Value) (rv := fun x => .int .i64 x3.1) (MM := fun x => [(b1, [x, .int .i64 x3.2.2])]) (ZZ := fun x => [row x 38 R38 x3.2.1]) hF hW H15 rfl rfl (fun hL => channel_Channel_Send_c _ _ w b1 (v3) x2.2 (0, false, ([99] : List UInt8)) _ h3 hL) (fun x a w hF hW => ?_)
  obtain ⟨v4, rfl⟩ : ∃ y, y = x := ⟨x, rfl⟩
  have hW : Stw ⟨Y, [], w0⟩ [(b1, [v4, .int .i64 x3.2.2])] [row v4 38 R38 x3.2.1] w := hW
  refine ls hF hW rfl ((y_assign hF rfl).q) (fun a w hF hW => ?_)
  refine ls hF hW rfl ((y_assign hF rfl).q) (fun a w hF hW => ?_)
  refine ls hF hW rfl ((y_assign hF rfl).q) (fun a w hF hW => ?_)
  refine ls_nil ?_
  refine c_then ?_
  refine c_seq ?_
  refine reg_list ?_
  refine ls hF hW rfl ((y_move hF rfl).q) (fun a w hF hW => ?_)
  obtain ⟨x4, h4, H⟩ := bindE H
  refine l_callG (Ml := [(b1, [v4, .int .i64 x3.2.2])]) (Zl := [row v4 38 R38 x3.2.1]) (M := []) (Z := []) (β := Value) (rv := fun x => .tuple #[.agg #[.int .i64 x4.1.1, .bool x4.1.2.1, .string (bs x4.1.2.2)], .int .i64 x4.2.1]) (MM := fun x => [(b1, [x, .int .i64 x4.2.2.2])]) (ZZ := fun x => [row x 38 R38 x4.2.2.1]) hF hW H16 rfl rfl (fun hL => channel_Channel_Take_c _ _ w b1 (v4) x3.2 1 _ h4 hL) (fun x a w hF hW => ?_)
  obtain ⟨v5, rfl⟩ : ∃ y, y = x := ⟨x, rfl⟩
  have hW : Stw ⟨Y, [], w0⟩ [(b1, [v5, .int .i64 x4.2.2.2])] [row v5 38 R38 x4.2.2.1] w := hW
  refine ls hF hW rfl ((y_move hF rfl).q) (fun a w hF hW => ?_)
  refine ls hF hW rfl ((y_extract (v := Value.agg #[.int .i64 x4.1.1, .bool x4.1.2.1, .string (bs x4.1.2.2)]) hF rfl rfl).q) (fun a w hF hW => ?_)
  refine ls hF hW rfl ((y_extract (v := Value.int .i64 x4.2.1) hF rfl rfl).q) (fun a w hF hW => ?_)
  refine l_alloc (cs := [.int .i64 0, .bool false, .string (bs ([] : List UInt8))]) hF hW rfl Z38 rfl (fun b2 a w hF hW => ?_)
  refine l_store (vs := [.int .i64 x4.1.1, .bool x4.1.2.1, .string (bs x4.1.2.2)]) (M' := [(b2, [.int .i64 x4.1.1, .bool x4.1.2.1, .string (bs x4.1.2.2)]), (b1, [v5, .int .i64 x4.2.2.2])]) 0 hF hW rfl rfl rfl T38 rfl rfl rfl rfl rfl (fun w hW => ?_)
  refine ls hF hW rfl ((y_assign hF rfl).q) (fun a w hF hW => ?_)
  refine ls_nil ?_
  refine c_then ?_
  refine c_seq ?_
  refine reg_list ?_
  refine ls hF hW rfl ((y_move hF rfl).q) (fun a w hF hW => ?_)
  obtain ⟨x5, h5, H⟩ := bindE H
  refine ls hF hW rfl (y_call (v := Value.tuple #[.agg #[.int .i64 x5.1.1, .bool x5.1.2.1, .string (bs x5.1.2.2)], .int .i64 x5.2]) hF H13 rfl (fun w hW => channel_Channel_Look_c any w b1 (v5) x4.2.2 1 _ h5 (((rdc_row 0 rfl) : Rdc _ _ _ _ _ _) w hW).nx (at_M hW 1 rfl))) (fun a w hF hW => ?_)
  refine ls hF hW rfl ((y_move hF rfl).q) (fun a w hF hW => ?_)
  refine ls hF hW rfl ((y_extract (v := Value.agg #[.int .i64 x5.1.1, .bool x5.1.2.1, .string (bs x5.1.2.2)]) hF rfl rfl).q) (fun a w hF hW => ?_)
  refine ls hF hW rfl ((y_extract (v := Value.int .i64 x5.2) hF rfl rfl).q) (fun a w hF hW => ?_)
  refine l_alloc (cs := [.int .i64 0, .bool false, .string (bs ([] : List UInt8))]) hF hW rfl Z38 rfl (fun b3 a w hF hW => ?_)
  refine l_store (vs := [.int .i64 x5.1.1, .bool x5.1.2.1, .string (bs x5.1.2.2)]) (M' := [(b3, [.int .i64 x5.1.1, .bool x5.1.2.1, .string (bs x5.1.2.2)]), (b2, [.int .i64 x4.1.1, .bool x4.1.2.1, .string (bs x4.1.2.2)]), (b1, [v5, .int .i64 x4.2.2.2])]) 0 hF hW rfl rfl rfl T38 rfl rfl rfl rfl rfl (fun w hW => ?_)
  refine ls hF hW rfl ((y_assign hF rfl).q) (fun a w hF hW => ?_)
  refine ls_nil ?_
  refine c_then ?_
  obtain ⟨o1, G1, K1⟩ := bindE H
  refine c_seqJ (fun a w => ∃ x6 : Bool, some (x6) = some o1 ∧ Fr 76 [] [(0, .bool x6)] a ∧ Stw ⟨Y, [], w0⟩ [(b3, [.int .i64 x5.1.1, .bool x5.1.2.1, .string (bs x5.1.2.2)]), (b2, [.int .i64 x4.1.1, .bool x4.1.2.1, .string (bs x4.1.2.2)]), (b1, [v5, .int .i64 x4.2.2.2])] [row v5 38 R38 x4.2.2.1] w) ?_ ?_
  ·
    have H := G1
    clear G1 K1
    refine reg_list ?_
    refine ls hF hW rfl ((y_move hF rfl).q) (fun a w hF hW => ?_)
    refine ls hF hW rfl ((y_eql hF rfl rfl).q) (fun a w hF hW => ?_)
    refine ls hF hW rfl ((y_move hF rfl).q) (fun a w hF hW => ?_)
    rcases Bool.eq_false_or_eq_true (decide (x1.1 = 0)) with hb | hb
    ·
      have H := iteT (of_decide_eq_true hb) H
      rw [hb] at hF
      clear hb
      refine ls_w hF hW (wanted_y hF rfl rfl rfl rfl) rfl (Nat.le_of_ble_eq_true rfl) ((y_move hF rfl).q) (fun a w hF hW => ?_)
      refine ls_w hF hW (wanted_y hF rfl rfl rfl rfl) rfl (Nat.le_of_ble_eq_true rfl) ((y_move hF rfl).q) (fun a w hF hW => ?_)
      refine ls_w hF hW (wanted_y hF rfl rfl rfl rfl) rfl (Nat.le_of_ble_eq_true rfl) ((y_eql hF rfl rfl).q) (fun a w hF hW => ?_)
      refine ls hF hW rfl ((y_pick_t hF rfl rfl rfl).q) (fun a w hF hW => ?_)
      refine ls hF hW rfl ((y_move hF rfl).q) (fun a w hF hW => ?_)
      rcases Bool.eq_false_or_eq_true (decide (x2.1 = x1.1)) with hb | hb
      ·
        have H := iteT (of_decide_eq_true hb) H
        rw [hb] at hF
        clear hb
        refine ls_w hF hW (wanted_y hF rfl rfl rfl rfl) rfl (Nat.le_of_ble_eq_true rfl) ((y_move hF rfl).q) (fun a w hF hW => ?_)
        refine ls_w hF hW (wanted_y hF rfl rfl rfl rfl) rfl (Nat.le_of_ble_eq_true rfl) ((y_move hF rfl).q) (fun a w hF hW => ?_)
        refine ls_w hF hW (wanted_y hF rfl rfl rfl rfl) rfl (Nat.le_of_ble_eq_true rfl) ((y_eql hF rfl rfl).q) (fun a w hF hW => ?_)
        refine ls hF hW rfl ((y_pick_t hF rfl rfl rfl).q) (fun a w hF hW => ?_)
        refine ls hF hW rfl ((y_move hF rfl).q) (fun a w hF hW => ?_)
        rcases Bool.eq_false_or_eq_true (decide (x3.1 = x1.1)) with hb | hb
        ·
          have H := iteT (of_decide_eq_true hb) H
          rw [hb] at hF
          clear hb
          refine ls_w hF hW (wanted_y hF rfl rfl rfl rfl) rfl (Nat.le_of_ble_eq_true rfl) ((y_move hF rfl).q) (fun a w hF hW => ?_)
          refine ls_w hF hW (wanted_y hF rfl rfl rfl rfl) rfl (Nat.le_of_ble_eq_true rfl) ((y_move hF rfl).q) (fun a w hF hW => ?_)
          refine ls_w hF hW (wanted_y hF rfl rfl rfl rfl) rfl (Nat.le_of_ble_eq_true rfl) ((y_eql hF rfl rfl).q) (fun a w hF hW => ?_)
          refine ls hF hW rfl ((y_pick_t hF rfl rfl rfl).q) (fun a w hF hW => ?_)
          refine ls hF hW rfl ((y_move hF rfl).q) (fun a w hF hW => ?_)
          rcases Bool.eq_false_or_eq_true (decide (x4.2.1 = x1.1)) with hb | hb
          ·
            have H := iteT (of_decide_eq_true hb) H
            rw [hb] at hF
            clear hb
            refine ls_w hF hW (wanted_y hF rfl rfl rfl rfl) rfl (Nat.le_of_ble_eq_true rfl) ((y_move hF rfl).q) (fun a w hF hW => ?_)
            refine ls_w hF hW (wanted_y hF rfl rfl rfl rfl) rfl (Nat.le_of_ble_eq_true rfl) ((y_move hF rfl).q) (fun a w hF hW => ?_)
            refine ls_w hF hW (wanted_y hF rfl rfl rfl rfl) rfl (Nat.le_of_ble_eq_true rfl) ((y_eql hF rfl rfl).q) (fun a w hF hW => ?_)
            refine ls hF hW rfl ((y_pick_t hF rfl rfl rfl).q) (fun a w hF hW => ?_)
            refine ls hF hW rfl ((y_move hF rfl).q) (fun a w hF hW => ?_)
            rcases Bool.eq_false_or_eq_true (decide (x5.2 = x1.1)) with hb | hb
            ·
              have H := iteT (of_decide_eq_true hb) H
              rw [hb] at hF
              clear hb
              refine ls_w hF hW (wanted_y hF rfl rfl rfl rfl) rfl (Nat.le_of_ble_eq_true rfl) ((y_fieldAddr Try.underlying38 rfl rfl rfl T9 hF rfl 2 rfl).q) (fun a w hF hW => ?_)
              refine ls_w hF hW (wanted_y hF rfl rfl rfl rfl) rfl (Nat.le_of_ble_eq_true rfl) ((y_load (v := Value.string (bs x4.1.2.2)) 1 hF rfl rfl T9 rfl).q) (fun a w hF hW => ?_)
              refine ls_w hF hW (wanted_y hF rfl rfl rfl rfl) rfl (Nat.le_of_ble_eq_true rfl) ((y_seq (l := x4.1.2.2) (m := ([98] : List UInt8)) hF rfl rfl).q) (fun a w hF hW => ?_)
              refine ls hF hW rfl ((y_pick_t hF rfl rfl rfl).q) (fun a w hF hW => ?_)
              refine ls hF hW rfl ((y_move hF rfl).q) (fun a w hF hW => ?_)
              rcases Bool.eq_false_or_eq_true (decide (x4.1.2.2 = ([98] : List UInt8))) with hb | hb
              ·
                have H := iteT (of_decide_eq_true hb) H
                rw [hb] at hF
                clear hb
                refine ls_w hF hW (wanted_y hF rfl rfl rfl rfl) rfl (Nat.le_of_ble_eq_true rfl) ((y_fieldAddr Try.underlying38 rfl rfl rfl T9 hF rfl 2 rfl).q) (fun a w hF hW => ?_)
                refine ls_w hF hW (wanted_y hF rfl rfl rfl rfl) rfl (Nat.le_of_ble_eq_true rfl) ((y_load (v := Value.string (bs x5.1.2.2)) 0 hF rfl rfl T9 rfl).q) (fun a w hF hW => ?_)
                refine ls_w hF hW (wanted_y hF rfl rfl rfl rfl) rfl (Nat.le_of_ble_eq_true rfl) ((y_seq (l := x5.1.2.2) (m := ([99] : List UInt8)) hF rfl rfl).q) (fun a w hF hW => ?_)
                refine ls hF hW rfl ((y_pick_t hF rfl rfl rfl).q) (fun a w hF hW => ?_)
                refine ls hF hW rfl ((y_move hF rfl).q) (fun a w hF hW => ?_)
                rcases Bool.eq_false_or_eq_true (decide (x5.1.2.2 = ([99] : List UInt8))) with hb | hb
                ·
                  have H := iteT (of_decide_eq_true hb) H
                  rw [hb] at hF
                  clear hb
                  refine ls_w hF hW (wanted_y hF rfl rfl rfl rfl) rfl (Nat.le_of_ble_eq_true rfl) ((y_move hF rfl).q) (fun a w hF hW => ?_)
                  refine ls_g (wanted_y hF rfl rfl rfl rfl) ?_
                  obtain ⟨x7, h6, H⟩ := bindE H
                  refine ls hF hW rfl (y_call (v := Value.int .i64 x7) hF H7 rfl (fun w hW => channel_Channel_Len_c any w b1 (v5) x4.2.2 _ h6 (((rdc_row 0 rfl) : Rdc _ _ _ _ _ _) w hW).nx (at_M hW 2 rfl))) (fun a w hF hW => ?_)
                  refine ls_w hF hW (wanted_y hF rfl rfl rfl rfl) rfl (Nat.le_of_ble_eq_true rfl) ((y_eql hF rfl rfl).q) (fun a w hF hW => ?_)
                  refine ls hF hW rfl ((y_pick_t hF rfl rfl rfl).q) (fun a w hF hW => ?_)
                  refine ls hF hW rfl ((y_move hF rfl).q) (fun a w hF hW => ?_)
                  rcases Bool.eq_false_or_eq_true (decide (x7 = 2)) with hb | hb
                  ·
                    have H := iteT (of_decide_eq_true hb) H
                    rw [hb] at hF
                    clear hb
                    refine ls_w hF hW (wanted_y hF rfl rfl rfl rfl) rfl (Nat.le_of_ble_eq_true rfl) ((y_move hF rfl).q) (fun a w hF hW => ?_)
                    refine ls_g (wanted_y hF rfl rfl rfl rfl) ?_
                    obtain ⟨x8, h7, H⟩ := bindE H
                    refine ls hF hW rfl (y_call (v := Value.int .i64 x8) hF H9 rfl (fun w hW => channel_Channel_Of_c any w b1 (v5) x4.2.2 0 _ h7 (((rdc_row 0 rfl) : Rdc _ _ _ _ _ _) w hW).nx (at_M hW 2 rfl))) (fun a w hF hW => ?_)
                    refine ls_w hF hW (wanted_y hF rfl rfl rfl rfl) rfl (Nat.le_of_ble_eq_true rfl) ((y_eql hF rfl rfl).q) (fun a w hF hW => ?_)
                    refine ls hF hW rfl ((y_pick_t hF rfl rfl rfl).q) (fun a w hF hW => ?_)
                    refine ls hF hW rfl ((y_move hF rfl).q) (fun a w hF hW => ?_)
                    rcases Bool.eq_false_or_eq_true (decide (x8 = 2)) with hb | hb
                    ·
                      have H := iteT (of_decide_eq_true hb) H
                      rw [hb] at hF
                      clear hb
                      refine ls_w hF hW (wanted_y hF rfl rfl rfl rfl) rfl (Nat.le_of_ble_eq_true rfl) ((y_move hF rfl).q) (fun a w hF hW => ?_)
                      refine ls_g (wanted_y hF rfl rfl rfl rfl) ?_
                      obtain ⟨x9, h8, H⟩ := bindE H
                      refine ls hF hW rfl (y_call (v := Value.int .i64 x9) hF H11 rfl (fun w hW => channel_Channel_Next_c any w b1 (v5) x4.2.2 1 false _ h8 (((rdc_row 0 rfl) : Rdc _ _ _ _ _ _) w hW).nx (at_M hW 2 rfl))) (fun a w hF hW => ?_)
                      refine ls_w hF hW (wanted_y hF rfl rfl rfl rfl) rfl (Nat.le_of_ble_eq_true rfl) ((y_eql hF rfl rfl).q) (fun a w hF hW => ?_)
                      refine ls hF hW rfl ((y_pick_t hF rfl rfl rfl).q) (fun a w hF hW => ?_)
                      refine ls hF hW rfl ((y_assign hF rfl).q) (fun a w hF hW => ?_)
                      refine ls_nil ?_
                      refine c_then ?_
                      have hW := hW.frontM (i := 2) rfl rfl
                      have hW := hW.frontM (i := 2) rfl rfl
                      have hW := hW.frontM (i := 2) rfl rfl
                      exact ⟨_, H, hF.re ⟨rfl, trivial⟩, hW⟩
                    ·
                      have H := iteF (of_decide_eq_false hb) H
                      rw [hb] at hF
                      clear hb
                      refine ls_skip hF (wanted_n hF rfl rfl rfl rfl rfl) rfl rfl (fun a hF => ?_)
                      refine ls_skip hF (wanted_n hF rfl rfl rfl rfl rfl) rfl rfl (fun a hF => ?_)
                      refine ls_skip hF (wanted_n hF rfl rfl rfl rfl rfl) rfl rfl (fun a hF => ?_)
                      refine ls hF hW rfl ((y_pick_f hF rfl rfl rfl).q) (fun a w hF hW => ?_)
                      refine ls hF hW rfl ((y_assign hF rfl).q) (fun a w hF hW => ?_)
                      refine ls_nil ?_
                      refine c_then ?_
                      have hW := hW.frontM (i := 2) rfl rfl
                      have hW := hW.frontM (i := 2) rfl rfl
                      have hW := hW.frontM (i := 2) rfl rfl
                      exact ⟨_, H, hF.re ⟨rfl, trivial⟩, hW⟩
                  ·
                    have H := iteF (of_decide_eq_false hb) H
                    rw [hb] at hF
                    clear hb
                    refine ls_skip hF (wanted_n hF rfl rfl rfl rfl rfl) rfl rfl (fun a hF => ?_)
                    refine ls_skip hF (wanted_n hF rfl rfl rfl rfl rfl) rfl rfl (fun a hF => ?_)
                    refine ls_skip hF (wanted_n hF rfl rfl rfl rfl rfl) rfl rfl (fun a hF => ?_)
                    refine ls hF hW rfl ((y_pick_f hF rfl rfl rfl).q) (fun a w hF hW => ?_)
                    refine ls hF hW rfl ((y_move hF rfl).q) (fun a w hF hW => ?_)
                    refine ls_skip hF (wanted_n hF rfl rfl rfl rfl rfl) rfl rfl (fun a hF => ?_)
                    refine ls_skip hF (wanted_n hF rfl rfl rfl rfl rfl) rfl rfl (fun a hF => ?_)
                    refine ls_skip hF (wanted_n hF rfl rfl rfl rfl rfl) rfl rfl (fun a hF => ?_)
                    refine ls hF hW rfl ((y_pick_f hF rfl rfl rfl).q) (fun a w hF hW => ?_)
                    refine ls hF hW rfl ((y_assign hF rfl).q) (fun a w hF hW => ?_)
                    refine ls_nil ?_
                    refine c_then ?_
                    have hW := hW.frontM (i := 2) rfl rfl
                    have hW := hW.frontM (i := 2) rfl rfl
                    have hW := hW.frontM (i := 2) rfl rfl
                    exact ⟨_, H, hF.re ⟨rfl, trivial⟩, hW⟩
                ·
                  have H := iteF (of_decide_eq_false hb) H
                  rw [hb] at hF
                  clear hb
                  refine ls_skip hF (wanted_n hF rfl rfl rfl rfl rfl) rfl rfl (fun a hF => ?_)
                  refine ls_skip hF (wanted_n hF rfl rfl rfl rfl rfl) rfl rfl (fun a hF => ?_)
                  refine ls_skip hF (wanted_n hF rfl rfl rfl rfl rfl) rfl rfl (fun a hF => ?_)
                  refine ls hF hW rfl ((y_pick_f hF rfl rfl rfl).q) (fun a w hF hW => ?_)
                  refine ls hF hW rfl ((y_move hF rfl).q) (fun a w hF hW => ?_)
                  refine ls_skip hF (wanted_n hF rfl rfl rfl rfl rfl) rfl rfl (fun a hF => ?_)
                  refine ls_skip hF (wanted_n hF rfl rfl rfl rfl rfl) rfl rfl (fun a hF => ?_)
                  refine ls_skip hF (wanted_n hF rfl rfl rfl rfl rfl) rfl rfl (fun a hF => ?_)
                  refine ls hF hW rfl ((y_pick_f hF rfl rfl rfl).q) (fun a w hF hW => ?_)
                  refine ls hF hW rfl ((y_move hF rfl).q) (fun a w hF hW => ?_)
                  refine ls_skip hF (wanted_n hF rfl rfl rfl rfl rfl) rfl rfl (fun a hF => ?_)
                  refine ls_skip hF (wanted_n hF rfl rfl rfl rfl rfl) rfl rfl (fun a hF => ?_)
                  refine ls_skip hF (wanted_n hF rfl rfl rfl rfl rfl) rfl rfl (fun a hF => ?_)
                  refine ls hF hW rfl ((y_pick_f hF rfl rfl rfl).q) (fun a w hF hW => ?_)
                  refine ls hF hW rfl ((y_assign hF rfl).q) (fun a w hF hW => ?_)
                  refine ls_nil ?_
                  refine c_then ?_
                  have hW := hW.frontM (i := 2) rfl rfl
                  have hW := hW.frontM (i := 2) rfl rfl
                  have hW := hW.frontM (i := 2) rfl rfl
                  exact ⟨_, H, hF.re ⟨rfl, trivial⟩, hW⟩
              ·
                have H := iteF (of_decide_eq_false hb) H
                rw [hb] at hF
                clear hb
                refine ls_skip hF (wanted_n hF rfl rfl rfl rfl rfl) rfl rfl (fun a hF => ?_)
                refine ls_skip hF (wanted_n hF rfl rfl rfl rfl rfl) rfl rfl (fun a hF => ?_)
                refine ls_skip hF (wanted_n hF rfl rfl rfl rfl rfl) rfl rfl (fun a hF => ?_)
                refine ls hF hW rfl ((y_pick_f hF rfl rfl rfl).q) (fun a w hF hW => ?_)
                refine ls hF hW rfl ((y_move hF rfl).q) (fun a w hF hW => ?_)
                refine ls_skip hF (wanted_n hF rfl rfl rfl rfl rfl) rfl rfl (fun a hF => ?_)
                refine ls_skip hF (wanted_n hF rfl rfl rfl rfl rfl) rfl rfl (fun a hF => ?_)
                refine ls_skip hF (wanted_n hF rfl rfl rfl rfl rfl) rfl rfl (fun a hF => ?_)
                refine ls hF hW rfl ((y_pick_f hF rfl rfl rfl).q) (fun a w hF hW => ?_)
                refine ls hF hW rfl ((y_move hF rfl).q) (fun a w hF hW => ?_)
                refine ls_skip hF (wanted_n hF rfl rfl rfl rfl rfl) rfl rfl (fun a hF => ?_)
                refine ls_skip hF (wanted_n hF rfl rfl rfl rfl rfl) rfl rfl (fun a hF => ?_)
                refine ls_skip hF (wanted_n hF rfl rfl rfl rfl rfl) rfl rfl (fun a hF => ?_)
                refine ls hF hW rfl ((y_pick_f hF rfl rfl rfl).q) (fun a w hF hW => ?_)
                refine ls hF hW rfl ((y_move hF rfl).q) (fun a w hF hW => ?_)
                refine ls_skip hF (wanted_n hF rfl rfl rfl rfl rfl) rfl rfl (fun a hF => ?_)
                refine ls_skip hF (wanted_n hF rfl rfl rfl rfl rfl) rfl rfl (fun a hF => ?_)
                refine ls_skip hF (wanted_n hF rfl rfl rfl rfl rfl) rfl rfl (fun a hF => ?_)
                refine ls hF hW rfl ((y_pick_f hF rfl rfl rfl).q) (fun a w hF hW => ?_)
                refine ls hF hW rfl ((y_assign hF rfl).q) (fun a w hF hW => ?_)
                refine ls_nil ?_
                refine c_then ?_
                have hW := hW.frontM (i := 2) rfl rfl
                have hW := hW.frontM (i := 2) rfl rfl
                have hW := hW.frontM (i := 2) rfl rfl
                exact ⟨_, H, hF.re ⟨rfl, trivial⟩, hW⟩
            ·
              have H := iteF (of_decide_eq_false hb) H
              rw [hb] at hF
              clear hb
              refine ls_skip hF (wanted_n hF rfl rfl rfl rfl rfl) rfl rfl (fun a hF => ?_)
              refine ls_skip hF (wanted_n hF rfl rfl rfl rfl rfl) rfl rfl (fun a hF => ?_)
              refine ls_skip hF (wanted_n hF rfl rfl rfl rfl rfl) rfl rfl (fun a hF => ?_)
              refine ls hF hW rfl ((y_pick_f hF rfl rfl rfl).q) (fun a w hF hW => ?_)
              refine ls hF hW rfl ((y_move hF rfl).q) (fun a w hF hW => ?_)
              refine ls_skip hF (wanted_n hF rfl rfl rfl rfl rfl) rfl rfl (fun a hF => ?_)
              refine ls_skip hF (wanted_n hF rfl rfl rfl rfl rfl) rfl rfl (fun a hF => ?_)
              refine ls_skip hF (wanted_n hF rfl rfl rfl rfl rfl) rfl rfl (fun a hF => ?_)
              refine ls hF hW rfl ((y_pick_f hF rfl rfl rfl).q) (fun a w hF hW => ?_)
              refine ls hF hW rfl ((y_move hF rfl).q) (fun a w hF hW => ?_)
              refine ls_skip hF (wanted_n hF rfl rfl rfl rfl rfl) rfl rfl (fun a hF => ?_)
              refine ls_skip hF (wanted_n hF rfl rfl rfl rfl rfl) rfl rfl (fun a hF => ?_)
              refine ls_skip hF (wanted_n hF rfl rfl rfl rfl rfl) rfl rfl (fun a hF => ?_)
              refine ls hF hW rfl ((y_pick_f hF rfl rfl rfl).q) (fun a w hF hW => ?_)
              refine ls hF hW rfl ((y_move hF rfl).q) (fun a w hF hW => ?_)
              refine ls_skip hF (wanted_n hF rfl rfl rfl rfl rfl) rfl rfl (fun a hF => ?_)
              refine ls_skip hF (wanted_n hF rfl rfl rfl rfl rfl) rfl rfl (fun a hF => ?_)
              refine ls_skip hF (wanted_n hF rfl rfl rfl rfl rfl) rfl rfl (fun a hF => ?_)
              refine ls hF hW rfl ((y_pick_f hF rfl rfl rfl).q) (fun a w hF hW => ?_)
              refine ls hF hW rfl ((y_move hF rfl).q) (fun a w hF hW => ?_)
              refine ls_skip hF (wanted_n hF rfl rfl rfl rfl rfl) rfl rfl (fun a hF => ?_)
              refine ls_skip hF (wanted_n hF rfl rfl rfl rfl rfl) rfl rfl (fun a hF => ?_)
              refine ls_skip hF (wanted_n hF rfl rfl rfl rfl rfl) rfl rfl (fun a hF => ?_)
              refine ls hF hW rfl ((y_pick_f hF rfl rfl rfl).q) (fun a w hF hW => ?_)
              refine ls hF hW rfl ((y_assign hF rfl).q) (fun a w hF hW => ?_)
              refine ls_nil ?_
              refine c_then ?_
              have hW := hW.frontM (i := 2) rfl rfl
              have hW := hW.frontM (i := 2) rfl rfl
              have hW := hW.frontM (i := 2) rfl rfl
              exact ⟨_, H, hF.re ⟨rfl, trivial⟩, hW⟩
          ·
            have H := iteF (of_decide_eq_false hb) H
            rw [hb] at hF
            clear hb
            refine ls_skip hF (wanted_n hF rfl rfl rfl rfl rfl) rfl rfl (fun a hF => ?_)
            refine ls_skip hF (wanted_n hF rfl rfl rfl rfl rfl) rfl rfl (fun a hF => ?_)
            refine ls_skip hF (wanted_n hF rfl rfl rfl rfl rfl) rfl rfl (fun a hF => ?_)
            refine ls hF hW rfl ((y_pick_f hF rfl rfl rfl).q) (fun a w hF hW => ?_)
            refine ls hF hW rfl ((y_move hF rfl).q) (fun a w hF hW => ?_)
            refine ls_skip hF (wanted_n hF rfl rfl rfl rfl rfl) rfl rfl (fun a hF => ?_)
            refine ls_skip hF (wanted_n hF rfl rfl rfl rfl rfl) rfl rfl (fun a hF => ?_)
            refine ls_skip hF (wanted_n hF rfl rfl rfl rfl rfl) rfl rfl (fun a hF => ?_)
            refine ls hF hW rfl ((y_pick_f hF rfl rfl rfl).q) (fun a w hF hW => ?_)
            refine ls hF hW rfl ((y_move hF rfl).q) (fun a w hF hW => ?_)
            refine ls_skip hF (wanted_n hF rfl rfl rfl rfl rfl) rfl rfl (fun a hF => ?_)
            refine ls_skip hF (wanted_n hF rfl rfl rfl rfl rfl) rfl rfl (fun a hF => ?_)
            refine ls_skip hF (wanted_n hF rfl rfl rfl rfl rfl) rfl rfl (fun a hF => ?_)
            refine ls hF hW rfl ((y_pick_f hF rfl rfl rfl).q) (fun a w hF hW => ?_)
            refine ls hF hW rfl ((y_move hF rfl).q) (fun a w hF hW => ?_)
            refine ls_skip hF (wanted_n hF rfl rfl rfl rfl rfl) rfl rfl (fun a hF => ?_)
            refine ls_skip hF (wanted_n hF rfl rfl rfl rfl rfl) rfl rfl (fun a hF => ?_)
            refine ls_skip hF (wanted_n hF rfl rfl rfl rfl rfl) rfl rfl (fun a hF => ?_)
            refine ls hF hW rfl ((y_pick_f hF rfl rfl rfl).q) (fun a w hF hW => ?_)
            refine ls hF hW rfl ((y_move hF rfl).q) (fun a w hF hW => ?_)
            refine ls_skip hF (wanted_n hF rfl rfl rfl rfl rfl) rfl rfl (fun a hF => ?_)
            refine ls_skip hF (wanted_n hF rfl rfl rfl rfl rfl) rfl rfl (fun a hF => ?_)
            refine ls_skip hF (wanted_n hF rfl rfl rfl rfl rfl) rfl rfl (fun a hF => ?_)
            refine ls hF hW rfl ((y_pick_f hF rfl rfl rfl).q) (fun a w hF hW => ?_)
            refine ls hF hW rfl ((y_move hF rfl).q) (fun a w hF hW => ?_)
            refine ls_skip hF (wanted_n hF rfl rfl rfl rfl rfl) rfl rfl (fun a hF => ?_)
            refine ls_skip hF (wanted_n hF rfl rfl rfl rfl rfl) rfl rfl (fun a hF => ?_)
            refine ls_skip hF (wanted_n hF rfl rfl rfl rfl rfl) rfl rfl (fun a hF => ?_)
            refine ls hF hW rfl ((y_pick_f hF rfl rfl rfl).q) (fun a w hF hW => ?_)
            refine ls hF hW rfl ((y_assign hF rfl).q) (fun a w hF hW => ?_)
            refine ls_nil ?_
            refine c_then ?_
            have hW := hW.frontM (i := 2) rfl rfl
            have hW := hW.frontM (i := 2) rfl rfl
            have hW := hW.frontM (i := 2) rfl rfl
            exact ⟨_, H, hF.re ⟨rfl, trivial⟩, hW⟩
        ·
          have H := iteF (of_decide_eq_false hb) H
          rw [hb] at hF
          clear hb
          refine ls_skip hF (wanted_n hF rfl rfl rfl rfl rfl) rfl rfl (fun a hF => ?_)
          refine ls_skip hF (wanted_n hF rfl rfl rfl rfl rfl) rfl rfl (fun a hF => ?_)
          refine ls_skip hF (wanted_n hF rfl rfl rfl rfl rfl) rfl rfl (fun a hF => ?_)
          refine ls hF hW rfl ((y_pick_f hF rfl rfl rfl).q) (fun a w hF hW => ?_)
          refine ls hF hW rfl ((y_move hF rfl).q) (fun a w hF hW => ?_)
          refine ls_skip hF (wanted_n hF rfl rfl rfl rfl rfl) rfl rfl (fun a hF => ?_)
          refine ls_skip hF (wanted_n hF rfl rfl rfl rfl rfl) rfl rfl (fun a hF => ?_)
          refine ls_skip hF (wanted_n hF rfl rfl rfl rfl rfl) rfl rfl (fun a hF => ?_)
          refine ls hF hW rfl ((y_pick_f hF rfl rfl rfl).q) (fun a w hF hW => ?_)
          refine ls hF hW rfl ((y_move hF rfl).q) (fun a w hF hW => ?_)
          refine ls_skip hF (wanted_n hF rfl rfl rfl rfl rfl) rfl rfl (fun a hF => ?_)
          refine ls_skip hF (wanted_n hF rfl rfl rfl rfl rfl) rfl rfl (fun a hF => ?_)
          refine ls_skip hF (wanted_n hF rfl rfl rfl rfl rfl) rfl rfl (fun a hF => ?_)
          refine ls hF hW rfl ((y_pick_f hF rfl rfl rfl).q) (fun a w hF hW => ?_)
          refine ls hF hW rfl ((y_move hF rfl).q) (fun a w hF hW => ?_)
          refine ls_skip hF (wanted_n hF rfl rfl rfl rfl rfl) rfl rfl (fun a hF => ?_)
          refine ls_skip hF (wanted_n hF rfl rfl rfl rfl rfl) rfl rfl (fun a hF => ?_)
          refine ls_skip hF (wanted_n hF rfl rfl rfl rfl rfl) rfl rfl (fun a hF => ?_)
          refine ls hF hW rfl ((y_pick_f hF rfl rfl rfl).q) (fun a w hF hW => ?_)
          refine ls hF hW rfl ((y_move hF rfl).q) (fun a w hF hW => ?_)
          refine ls_skip hF (wanted_n hF rfl rfl rfl rfl rfl) rfl rfl (fun a hF => ?_)
          refine ls_skip hF (wanted_n hF rfl rfl rfl rfl rfl) rfl rfl (fun a hF => ?_)
          refine ls_skip hF (wanted_n hF rfl rfl rfl rfl rfl) rfl rfl (fun a hF => ?_)
          refine ls hF hW rfl ((y_pick_f hF rfl rfl rfl).q) (fun a w hF hW => ?_)
          refine ls hF hW rfl ((y_move hF rfl).q) (fun a w hF hW => ?_)
          refine ls_skip hF (wanted_n hF rfl rfl rfl rfl rfl) rfl rfl (fun a hF => ?_)
          refine ls_skip hF (wanted_n hF rfl rfl rfl rfl rfl) rfl rfl (fun a hF => ?_)
          refine ls_skip hF (wanted_n hF rfl rfl rfl rfl rfl) rfl rfl (fun a hF => ?_)
          refine ls hF hW rfl ((y_pick_f hF rfl rfl rfl).q) (fun a w hF hW => ?_)
          refine ls hF hW rfl ((y_move hF rfl).q) (fun a w hF hW => ?_)
          refine ls_skip hF (wanted_n hF rfl rfl rfl rfl rfl) rfl rfl (fun a hF => ?_)
          refine ls_skip hF (wanted_n hF rfl rfl rfl rfl rfl) rfl rfl (fun a hF => ?_)
          refine ls_skip hF (wanted_n hF rfl rfl rfl rfl rfl) rfl rfl (fun a hF => ?_)
          refine ls hF hW rfl ((y_pick_f hF rfl rfl rfl).q) (fun a w hF hW => ?_)
          refine ls hF hW rfl ((y_assign hF rfl).q) (fun a w hF hW => ?_)
          refine ls_nil ?_
          refine c_then ?_
          have hW := hW.frontM (i := 2) rfl rfl
          have hW := hW.frontM (i := 2) rfl rfl
          have hW := hW.frontM (i := 2) rfl rfl
          exact ⟨_, H, hF.re ⟨rfl, trivial⟩, hW⟩
      ·
        have H := iteF (of_decide_eq_false hb) H
        rw [hb] at hF
        clear hb
        refine ls_skip hF (wanted_n hF rfl rfl rfl rfl rfl) rfl rfl (fun a hF => ?_)
        refine ls_skip hF (wanted_n hF rfl rfl rfl rfl rfl) rfl rfl (fun a hF => ?_)
        refine ls_skip hF (wanted_n hF rfl rfl rfl rfl rfl) rfl rfl (fun a hF => ?_)
        refine ls hF hW rfl ((y_pick_f hF rfl rfl rfl).q) (fun a w hF hW => ?_)
        refine ls hF hW rfl ((y_move hF rfl).q) (fun a w hF hW => ?_)
        refine ls_skip hF (wanted_n hF rfl rfl rfl rfl rfl) rfl rfl (fun a hF => ?_)
        refine ls_skip hF (wanted_n hF rfl rfl rfl rfl rfl) rfl rfl (fun a hF => ?_)
        refine ls_skip hF (wanted_n hF rfl rfl rfl rfl rfl) rfl rfl (fun a hF => ?_)
        refine ls hF hW rfl ((y_pick_f hF rfl rfl rfl).q) (fun a w hF hW => ?_)
        refine ls hF hW rfl ((y_move hF rfl).q) (fun a w hF hW => ?_)
        refine ls_skip hF (wanted_n hF rfl rfl rfl rfl rfl) rfl rfl (fun a hF => ?_)
        refine ls_skip hF (wanted_n hF rfl rfl rfl rfl rfl) rfl rfl (fun a hF => ?_)
        refine ls_skip hF (wanted_n hF rfl rfl rfl rfl rfl) rfl rfl (fun a hF => ?_)
        refine ls hF hW rfl ((y_pick_f hF rfl rfl rfl).q) (fun a w hF hW => ?_)
        refine ls hF hW rfl ((y_move hF rfl).q) (fun a w hF hW => ?_)
        refine ls_skip hF (wanted_n hF rfl rfl rfl rfl rfl) rfl rfl (fun a hF => ?_)
        refine ls_skip hF (wanted_n hF rfl rfl rfl rfl rfl) rfl rfl (fun a hF => ?_)
        refine ls_skip hF (wanted_n hF rfl rfl rfl rfl rfl) rfl rfl (fun a hF => ?_)
        refine ls hF hW rfl ((y_pick_f hF rfl rfl rfl).q) (fun a w hF hW => ?_)
        refine ls hF hW rfl ((y_move hF rfl).q) (fun a w hF hW => ?_)
        refine ls_skip hF (wanted_n hF rfl rfl rfl rfl rfl) rfl rfl (fun a hF => ?_)
        refine ls_skip hF (wanted_n hF rfl rfl rfl rfl rfl) rfl rfl (fun a hF => ?_)
        refine ls_skip hF (wanted_n hF rfl rfl rfl rfl rfl) rfl rfl (fun a hF => ?_)
        refine ls hF hW rfl ((y_pick_f hF rfl rfl rfl).q) (fun a w hF hW => ?_)
        refine ls hF hW rfl ((y_move hF rfl).q) (fun a w hF hW => ?_)
        refine ls_skip hF (wanted_n hF rfl rfl rfl rfl rfl) rfl rfl (fun a hF => ?_)
        refine ls_skip hF (wanted_n hF rfl rfl rfl rfl rfl) rfl rfl (fun a hF => ?_)
        refine ls_skip hF (wanted_n hF rfl rfl rfl rfl rfl) rfl rfl (fun a hF => ?_)
        refine ls hF hW rfl ((y_pick_f hF rfl rfl rfl).q) (fun a w hF hW => ?_)
        refine ls hF hW rfl ((y_move hF rfl).q) (fun a w hF hW => ?_)
        refine ls_skip hF (wanted_n hF rfl rfl rfl rfl rfl) rfl rfl (fun a hF => ?_)
        refine ls_skip hF (wanted_n hF rfl rfl rfl rfl rfl) rfl rfl (fun a hF => ?_)
        refine ls_skip hF (wanted_n hF rfl rfl rfl rfl rfl) rfl rfl (fun a hF => ?_)
        refine ls hF hW rfl ((y_pick_f hF rfl rfl rfl).q) (fun a w hF hW => ?_)
        refine ls hF hW rfl ((y_move hF rfl).q) (fun a w hF hW => ?_)
        refine ls_skip hF (wanted_n hF rfl rfl rfl rfl rfl) rfl rfl (fun a hF => ?_)
        refine ls_skip hF (wanted_n hF rfl rfl rfl rfl rfl) rfl rfl (fun a hF => ?_)
        refine ls_skip hF (wanted_n hF rfl rfl rfl rfl rfl) rfl rfl (fun a hF => ?_)
        refine ls hF hW rfl ((y_pick_f hF rfl rfl rfl).q) (fun a w hF hW => ?_)
        refine ls hF hW rfl ((y_assign hF rfl).q) (fun a w hF hW => ?_)
        refine ls_nil ?_
        refine c_then ?_
        have hW := hW.frontM (i := 2) rfl rfl
        have hW := hW.frontM (i := 2) rfl rfl
        have hW := hW.frontM (i := 2) rfl rfl
        exact ⟨_, H, hF.re ⟨rfl, trivial⟩, hW⟩
    ·
      have H := iteF (of_decide_eq_false hb) H
      rw [hb] at hF
      clear hb
      refine ls_skip hF (wanted_n hF rfl rfl rfl rfl rfl) rfl rfl (fun a hF => ?_)
      refine ls_skip hF (wanted_n hF rfl rfl rfl rfl rfl) rfl rfl (fun a hF => ?_)
      refine ls_skip hF (wanted_n hF rfl rfl rfl rfl rfl) rfl rfl (fun a hF => ?_)
      refine ls hF hW rfl ((y_pick_f hF rfl rfl rfl).q) (fun a w hF hW => ?_)
      refine ls hF hW rfl ((y_move hF rfl).q) (fun a w hF hW => ?_)
      refine ls_skip hF (wanted_n hF rfl rfl rfl rfl rfl) rfl rfl (fun a hF => ?_)
      refine ls_skip hF (wanted_n hF rfl rfl rfl rfl rfl) rfl rfl (fun a hF => ?_)
      refine ls_skip hF (wanted_n hF rfl rfl rfl rfl rfl) rfl rfl (fun a hF => ?_)
      refine ls hF hW rfl ((y_pick_f hF rfl rfl rfl).q) (fun a w hF hW => ?_)
      refine ls hF hW rfl ((y_move hF rfl).q) (fun a w hF hW => ?_)
      refine ls_skip hF (wanted_n hF rfl rfl rfl rfl rfl) rfl rfl (fun a hF => ?_)
      refine ls_skip hF (wanted_n hF rfl rfl rfl rfl rfl) rfl rfl (fun a hF => ?_)
      refine ls_skip hF (wanted_n hF rfl rfl rfl rfl rfl) rfl rfl (fun a hF => ?_)
      refine ls hF hW rfl ((y_pick_f hF rfl rfl rfl).q) (fun a w hF hW => ?_)
      refine ls hF hW rfl ((y_move hF rfl).q) (fun a w hF hW => ?_)
      refine ls_skip hF (wanted_n hF rfl rfl rfl rfl rfl) rfl rfl (fun a hF => ?_)
      refine ls_skip hF (wanted_n hF rfl rfl rfl rfl rfl) rfl rfl (fun a hF => ?_)
      refine ls_skip hF (wanted_n hF rfl rfl rfl rfl rfl) rfl rfl (fun a hF => ?_)
      refine ls hF hW rfl ((y_pick_f hF rfl rfl rfl).q) (fun a w hF hW => ?_)
      refine ls hF hW rfl ((y_move hF rfl).q) (fun a w hF hW => ?_)
      refine ls_skip hF (wanted_n hF rfl rfl rfl rfl rfl) rfl rfl (fun a hF => ?_)
      refine ls_skip hF (wanted_n hF rfl rfl rfl rfl rfl) rfl rfl (fun a hF => ?_)
      refine ls_skip hF (wanted_n hF rfl rfl rfl rfl rfl) rfl rfl (fun a hF => ?_)
      refine ls hF hW rfl ((y_pick_f hF rfl rfl rfl).q) (fun a w hF hW => ?_)
      refine ls hF hW rfl ((y_move hF rfl).q) (fun a w hF hW => ?_)
      refine ls_skip hF (wanted_n hF rfl rfl rfl rfl rfl) rfl rfl (fun a hF => ?_)
      refine ls_skip hF (wanted_n hF rfl rfl rfl rfl rfl) rfl rfl (fun a hF => ?_)
      refine ls_skip hF (wanted_n hF rfl rfl rfl rfl rfl) rfl rfl (fun a hF => ?_)
      refine ls hF hW rfl ((y_pick_f hF rfl rfl rfl).q) (fun a w hF hW => ?_)
      refine ls hF hW rfl ((y_move hF rfl).q) (fun a w hF hW => ?_)
      refine ls_skip hF (wanted_n hF rfl rfl rfl rfl rfl) rfl rfl (fun a hF => ?_)
      refine ls_skip hF (wanted_n hF rfl rfl rfl rfl rfl) rfl rfl (fun a hF => ?_)
      refine ls_skip hF (wanted_n hF rfl rfl rfl rfl rfl) rfl rfl (fun a hF => ?_)
      refine ls hF hW rfl ((y_pick_f hF rfl rfl rfl).q) (fun a w hF hW => ?_)
      refine ls hF hW rfl ((y_move hF rfl).q) (fun a w hF hW => ?_)
      refine ls_skip hF (wanted_n hF rfl rfl rfl rfl rfl) rfl rfl (fun a hF => ?_)
      refine ls_skip hF (wanted_n hF rfl rfl rfl rfl rfl) rfl rfl (fun a hF => ?_)
      refine ls_skip hF (wanted_n hF rfl rfl rfl rfl rfl) rfl rfl (fun a hF => ?_)
      refine ls hF hW rfl ((y_pick_f hF rfl rfl rfl).q) (fun a w hF hW => ?_)
      refine ls hF hW rfl ((y_move hF rfl).q) (fun a w hF hW => ?_)
      refine ls_skip hF (wanted_n hF rfl rfl rfl rfl rfl) rfl rfl (fun a hF => ?_)
      refine ls_skip hF (wanted_n hF rfl rfl rfl rfl rfl) rfl rfl (fun a hF => ?_)
      refine ls_skip hF (wanted_n hF rfl rfl rfl rfl rfl) rfl rfl (fun a hF => ?_)
      refine ls hF hW rfl ((y_pick_f hF rfl rfl rfl).q) (fun a w hF hW => ?_)
      refine ls hF hW rfl ((y_assign hF rfl).q) (fun a w hF hW => ?_)
      refine ls_nil ?_
      refine c_then ?_
      have hW := hW.frontM (i := 2) rfl rfl
      have hW := hW.frontM (i := 2) rfl rfl
      have hW := hW.frontM (i := 2) rfl rfl
      exact ⟨_, H, hF.re ⟨rfl, trivial⟩, hW⟩
  rintro a w ⟨x6, hj, hF, hW⟩
  have hj := Option.some.inj hj
  subst hj
  have H := K1
  clear G1 K1
  refine wp_ret ?_
  have H := Option.some.inj H
  subst H
  refine post1 (.inl rfl) hF hW rfl (rv_tmp hF rfl) ?_
  exact ⟨rfl, hW.done⟩

end Go.Proofs.Ytglegnicihnlmaa
