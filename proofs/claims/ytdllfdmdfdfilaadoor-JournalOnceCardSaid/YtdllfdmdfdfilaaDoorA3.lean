/- The functions of layer 36, lifted. Conditions: none. -/
import Derived.Test.YtdllfdmdfdfilaaDoorA2
namespace Go.Proofs.YtdllfdmdfdfilaaDoor
open Go Go.RowKit
set_option linter.unusedVariables false
set_option linter.unusedSimpArgs false
set_option maxRecDepth 20000
theorem H14 : Has Tryd.prog 14 := ⟨fun args w => run_callFunc_body Tryd.func14 rfl (by decide) args w⟩
noncomputable def L36_JournalReplays_l1 (p0 : List (Int × Int × Int × Int)) (x2 : (List (Int × Int × Int × Int))) : (Int × Int × Int × Bool × Int × Int × Int × Bool × Bool × Int) → Option ((Int × Int × Int × Bool × Int × Int × Int × Bool × Bool × Int) ⊕ ((Int × Int × Bool × Int × Int × Int × Bool × Bool × Int) ⊕ Bool))
  | (x12, x13, x14, x15, x16, x17, x18, x19, x20, x21) => (if x12 < (p0.length : Int) then (ix x2 x12).bind fun x22 => (journal_Next (L36_State (x13, x14, x15, x16, x17, x18, x19, x20, x21)) x22).bind fun x23 => (ix p0 x12).bind fun x24 => (r36_Next (x13, x14, x15, x16, x17, x18, x19, x20, x21) x24).bind fun x25 => (if (!(decide (x23.1.1 = ((L36_State x25.1).1) ∧ x23.1.2.1 = ((L36_State x25.1).2.1) ∧ x23.1.2.2.1 = ((L36_State x25.1).2.2.1) ∧ x23.1.2.2.2.1 = ((L36_State x25.1).2.2.2.1) ∧ x23.1.2.2.2.2.1 = ((L36_State x25.1).2.2.2.2.1) ∧ x23.1.2.2.2.2.2.1 = ((L36_State x25.1).2.2.2.2.2.1) ∧ x23.1.2.2.2.2.2.2.1 = ((L36_State x25.1).2.2.2.2.2.2.1) ∧ x23.1.2.2.2.2.2.2.2.1 = ((L36_State x25.1).2.2.2.2.2.2.2.1) ∧ x23.1.2.2.2.2.2.2.2.2 = ((L36_State x25.1).2.2.2.2.2.2.2.2))) || decide (x23.2 ≠ x25.2)) = true then some (.inr (.inr false)) else some (.inl (w64 (x12 + 1), x25.1.1, x25.1.2.1, x25.1.2.2.1, x25.1.2.2.2.1, x25.1.2.2.2.2.1, x25.1.2.2.2.2.2.1, x25.1.2.2.2.2.2.2.1, x25.1.2.2.2.2.2.2.2.1, x25.1.2.2.2.2.2.2.2.2))) else some (.inr (.inl (x13, x14, x15, x16, x17, x18, x19, x20, x21))))
noncomputable def L36_JournalReplays (p0 : List (Int × Int × Int × Int)) (p1 : Int) : Option Bool := (if 100 < (p0.length : Int) then (L36_awake).bind fun x1 => some x1 else (L36_Mine p0).bind fun x2 => orR (loopW (L36_JournalReplays_l1 p0 x2) (0, 0, 0, false, 0, 0, 0, false, false, 0)) fun (x3, x4, x5, x6, x7, x8, x9, x10, x11) => (journal_Replay x2).bind fun x26 => (r36_Replay p0).bind fun x27 => (if x26.1.1 = ((L36_State x27.1).1) ∧ x26.1.2.1 = ((L36_State x27.1).2.1) ∧ x26.1.2.2.1 = ((L36_State x27.1).2.2.1) ∧ x26.1.2.2.2.1 = ((L36_State x27.1).2.2.2.1) ∧ x26.1.2.2.2.2.1 = ((L36_State x27.1).2.2.2.2.1) ∧ x26.1.2.2.2.2.2.1 = ((L36_State x27.1).2.2.2.2.2.1) ∧ x26.1.2.2.2.2.2.2.1 = ((L36_State x27.1).2.2.2.2.2.2.1) ∧ x26.1.2.2.2.2.2.2.2.1 = ((L36_State x27.1).2.2.2.2.2.2.2.1) ∧ x26.1.2.2.2.2.2.2.2.2 = ((L36_State x27.1).2.2.2.2.2.2.2.2) then (if x26.2.1 = x27.2.1 then (if x26.2.2 = x27.2.2 then (journal_Fate x2 p1).bind fun x29 => (r36_Fate p0 p1).bind fun x30 => (if x29 = x30 then (L36_awake).bind fun x31 => some x31 else some false) else some false) else some false) else some false).bind fun x28 => some x28)
theorem L36_JournalReplays_c (Y : Nat → Prop) (w0 : World) (v1 : Value) (p0 : List (Int × Int × Int × Int)) (p1 : Int) (r : Bool) (H : L36_JournalReplays p0 p1 = some r) (h_v1 : Sl w0 (NX []) R37 v1 p0) (hG : Gk [] w0) :
    Calls Tryd.prog 3 #[v1, .int .i64 p1] w0 fun e w' => e = .returned (.bool r) ∧ Below w0.heap.size w0 w' := by
 refine enter Tryd.func3 rfl Tryd.ntmps3 rfl (fun a hF => ?_)
 have hW := Stw.start Y w0
 unfold L36_JournalReplays at H
 refine c_seq (reg_list ?_)
 refine ls hF hW rfl ((y_assign hF rfl).q) (fun a w hF hW => ?_)
 refine ls_nil (c_then ?_)
 refine c_seq ?_
 refine c_seq (reg_list ?_)
 refine ls hF hW rfl ((y_move hF rfl).q) (fun a w hF hW => ?_)
 refine ls hF hW rfl ((y_len (r := R37) (l := p0) u22_ rfl hF rfl (rdc_ro h_v1)).q) (fun a w hF hW => ?_)
 refine ls hF hW rfl ((y_gtr hF rfl rfl).q) (fun a w hF hW => ?_)
 refine ls_nil (c_then ?_)
 refine c_cond hF rfl (fun hb => ?_) (fun hb => ?_)
 ·
  have H := iteT (of_decide_eq_true hb) H
  rw [hb] at hF
  clear hb
  refine c_seq (reg_list ?_)
  obtain ⟨x1, h1, H⟩ := bindE H
  refine ls hF hW rfl (y_call (v := Value.bool x1) hF H6 rfl (fun w hW => L36_awake_c any w _ h1 (hG.go0 hW))) (fun a w hF hW => ?_)
  refine ls hF hW rfl ((y_assign hF rfl).q) (fun a w hF hW => ?_)
  refine ls_nil (c_then ?_)
  refine wr_ret ?_
  refine r_then ?_
  have H := Option.some.inj H
  subst H
  refine post1 (.inl rfl) hF hW rfl (rv_tmp hF rfl) ?_
  exact ⟨rfl, hW.done⟩
 ·
  have H := iteF (of_decide_eq_false hb) H
  rw [hb] at hF
  clear hb
  refine wr_skip ?_
  refine c_then ?_
  refine c_seq (reg_list ?_)
  refine ls hF hW rfl ((y_move hF rfl).q) (fun a w hF hW => ?_)
  obtain ⟨x2, h2, H⟩ := bindE H
  refine l_callG (Ml := []) (Zl := []) (M := []) (Z := []) (β := Value) (rv := fun x => x) (MM := fun x => []) (ZZ := fun x => [row x 34 R34 x2]) hF hW H7 rfl rfl (fun hL => L36_Mine_c _ w (v1) p0 _ h2 ((rdc_ro h_v1) w hW).nx) (fun x a w hF hW => ?_)
  obtain ⟨v2, rfl⟩ : ∃ y, y = x := ⟨x, rfl⟩
  have hW : Stw ⟨Y, [], w0⟩ [] [row v2 34 R34 x2] w := hW
  refine ls hF hW rfl ((y_build (v := Value.agg #[.int .i64 0, .int .i64 0, .bool false, .int .i64 0, .int .i64 0, .int .i64 0, .bool false, .bool false, .int .i64 0]) B27 hF rfl rfl rfl).q) (fun a w hF hW => ?_)
  refine l_alloc (cs := [.int .i64 0, .int .i64 0, .bool false, .int .i64 0, .int .i64 0, .int .i64 0, .bool false, .bool false, .int .i64 0]) hF hW rfl Z27 rfl (fun b1 a w hF hW => ?_)
  refine ls hF hW rfl ((y_assign hF rfl).q) (fun a w hF hW => ?_)
  refine l_store (vs := [.int .i64 0, .int .i64 0, .bool false, .int .i64 0, .int .i64 0, .int .i64 0, .bool false, .bool false, .int .i64 0]) (M' := [(b1, [.int .i64 0, .int .i64 0, .bool false, .int .i64 0, .int .i64 0, .int .i64 0, .bool false, .bool false, .int .i64 0])]) 0 hF hW rfl rfl rfl T27 rfl rfl rfl rfl rfl (fun w hW => ?_)
  refine ls_nil (c_then ?_)
  obtain ⟨o1, G1, K1, L1⟩ := orE H
  refine c_seqJ (fun a w => ∃ x3 : Int, ∃ x4 : Int, ∃ x5 : Bool, ∃ x6 : Int, ∃ x7 : Int, ∃ x8 : Int, ∃ x9 : Bool, ∃ x10 : Bool, ∃ x11 : Int, some (Sum.inl (x3, x4, x5, x6, x7, x8, x9, x10, x11)) = some o1 ∧ Fr 98 [] [(0, v1), (1, .int .i64 p1), (4, .bool false), (5, v2)] a ∧ Stw ⟨Y, [], w0⟩ [(b1, [.int .i64 x3, .int .i64 x4, .bool x5, .int .i64 x6, .int .i64 x7, .int .i64 x8, .bool x9, .bool x10, .int .i64 x11])] [row v2 34 R34 x2] w) ?_ ?_
  ·
   have H := G1
   clear G1 K1
   refine c_seq (reg_list ?_)
   refine ls hF hW rfl ((y_assign hF rfl).q) (fun a w hF hW => ?_)
   refine ls_nil (c_then ?_)
   refine wr_block ?_
   refine c_loopW H (fun s a w => Fr 98 [] [(0, v1), (1, .int .i64 p1), (4, .bool false), (5, v2), (6, .pointer (some ⟨b1, 0, none⟩)), (7, .int .i64 s.1)] a ∧ Stw ⟨Y, [], w0⟩ [(b1, [.int .i64 s.2.1, .int .i64 s.2.2.1, .bool s.2.2.2.1, .int .i64 s.2.2.2.2.1, .int .i64 s.2.2.2.2.2.1, .int .i64 s.2.2.2.2.2.2.1, .bool s.2.2.2.2.2.2.2.1, .bool s.2.2.2.2.2.2.2.2.1, .int .i64 s.2.2.2.2.2.2.2.2.2])] [row v2 34 R34 x2] w) ⟨hF.re ⟨rfl, rfl, rfl, rfl, rfl, rfl, trivial⟩, hW⟩ (fun s o a w H L2 hR => ?_)
   obtain ⟨x12, x13, x14, x15, x16, x17, x18, x19, x20, x21⟩ := s
   obtain ⟨hF, hW⟩ := hR
   have hF : Fr 98 [] [(0, v1), (1, .int .i64 p1), (4, .bool false), (5, v2), (6, .pointer (some ⟨b1, 0, none⟩)), (7, .int .i64 x12)] a := hF
   have hW : Stw ⟨Y, [], w0⟩ [(b1, [.int .i64 x13, .int .i64 x14, .bool x15, .int .i64 x16, .int .i64 x17, .int .i64 x18, .bool x19, .bool x20, .int .i64 x21])] [row v2 34 R34 x2] w := hW
   rw [L36_JournalReplays_l1] at H
   refine c_seq ?_
   refine c_seq (reg_list ?_)
   iterate 2 refine ls hF hW rfl ((y_move hF rfl).q) (fun a w hF hW => ?_)
   refine ls hF hW rfl ((y_len (r := R37) (l := p0) u22_ rfl hF rfl (rdc_ro h_v1)).q) (fun a w hF hW => ?_)
   refine ls hF hW rfl ((y_lss hF rfl rfl).q) (fun a w hF hW => ?_)
   refine ls_nil (c_then ?_)
   refine c_cond hF rfl (fun hb => ?_) (fun hb => ?_)
   ·
    have H := iteT (of_decide_eq_true hb) H
    rw [hb] at hF
    clear hb
    refine wr_skip ?_
    refine c_then ?_
    refine c_seq ?_
    refine wr_block ?_
    refine c_seq ?_
    obtain ⟨x22, h3, H⟩ := bindE H
    obtain ⟨x23, h4, H⟩ := bindE H
    refine wp_oneQ (fun a w => ∃ b2 : Nat, Fr 98 [] [(0, v1), (1, .int .i64 p1), (4, .bool false), (5, v2), (6, .pointer (some ⟨b1, 0, none⟩)), (7, .int .i64 x12), (8, .pointer (some ⟨b2, 0, none⟩)), (9, .int .i64 x23.2), (25, .int .i64 x12), (26, v1), (27, .int .i64 (p0.length : Int)), (28, .bool true), (31, .tuple #[.agg #[.int .i64 x23.1.1, .int .i64 x23.1.2.1, .bool x23.1.2.2.1, .int .i64 x23.1.2.2.2.1, .int .i64 x23.1.2.2.2.2.1, .int .i64 x23.1.2.2.2.2.2.1, .bool x23.1.2.2.2.2.2.2.1, .bool x23.1.2.2.2.2.2.2.2.1, .int .i64 x23.1.2.2.2.2.2.2.2.2], .int .i64 x23.2]), (32, .agg #[.int .i64 x13, .int .i64 x14, .bool x15, .int .i64 x16, .int .i64 x17, .int .i64 x18, .bool x19, .bool x20, .int .i64 x21]), (33, .agg #[.int .i64 ((L36_State (x13, x14, x15, x16, x17, x18, x19, x20, x21)).1), .int .i64 ((L36_State (x13, x14, x15, x16, x17, x18, x19, x20, x21)).2.1), .bool ((L36_State (x13, x14, x15, x16, x17, x18, x19, x20, x21)).2.2.1), .int .i64 ((L36_State (x13, x14, x15, x16, x17, x18, x19, x20, x21)).2.2.2.1), .int .i64 ((L36_State (x13, x14, x15, x16, x17, x18, x19, x20, x21)).2.2.2.2.1), .int .i64 ((L36_State (x13, x14, x15, x16, x17, x18, x19, x20, x21)).2.2.2.2.2.1), .bool ((L36_State (x13, x14, x15, x16, x17, x18, x19, x20, x21)).2.2.2.2.2.2.1), .bool ((L36_State (x13, x14, x15, x16, x17, x18, x19, x20, x21)).2.2.2.2.2.2.2.1), .int .i64 ((L36_State (x13, x14, x15, x16, x17, x18, x19, x20, x21)).2.2.2.2.2.2.2.2)]), (34, v2), (35, .int .i64 x12), (36, .pointer (some ⟨vblk v2, voff v2 + (x12).toNat * 4, none⟩)), (37, .agg #[.int .i64 x22.1, .int .i64 x22.2.1, .int .i64 x22.2.2.1, .int .i64 x22.2.2.2]), (38, .tuple #[.agg #[.int .i64 x23.1.1, .int .i64 x23.1.2.1, .bool x23.1.2.2.1, .int .i64 x23.1.2.2.2.1, .int .i64 x23.1.2.2.2.2.1, .int .i64 x23.1.2.2.2.2.2.1, .bool x23.1.2.2.2.2.2.2.1, .bool x23.1.2.2.2.2.2.2.2.1, .int .i64 x23.1.2.2.2.2.2.2.2.2], .int .i64 x23.2]), (39, .agg #[.int .i64 x23.1.1, .int .i64 x23.1.2.1, .bool x23.1.2.2.1, .int .i64 x23.1.2.2.2.1, .int .i64 x23.1.2.2.2.2.1, .int .i64 x23.1.2.2.2.2.2.1, .bool x23.1.2.2.2.2.2.2.1, .bool x23.1.2.2.2.2.2.2.2.1, .int .i64 x23.1.2.2.2.2.2.2.2.2]), (40, .int .i64 x23.2)] a ∧ Stw ⟨Y, [], w0⟩ [(b2, [.int .i64 x23.1.1, .int .i64 x23.1.2.1, .bool x23.1.2.2.1, .int .i64 x23.1.2.2.2.1, .int .i64 x23.1.2.2.2.2.1, .int .i64 x23.1.2.2.2.2.2.1, .bool x23.1.2.2.2.2.2.2.1, .bool x23.1.2.2.2.2.2.2.2.1, .int .i64 x23.1.2.2.2.2.2.2.2.2]), (b1, [.int .i64 x13, .int .i64 x14, .bool x15, .int .i64 x16, .int .i64 x17, .int .i64 x18, .bool x19, .bool x20, .int .i64 x21])] [row v2 34 R34 x2] w) ?_ ?_
    ·
     refine reg_tree (PT.st 0 (PT.st 2 (PT.st 3 (PT.st 4 (PT.st 5 (PT.alt 1 (PT.alt 6 (PT.st 7 (PT.st 8 (PT.st 9 (PT.alt 10 (PT.alt 11 (PT.alt 12 PT.done PT.stop) PT.stop) PT.stop)))) (PT.alt 10 (PT.alt 6 (PT.st 7 (PT.st 8 (PT.st 9 (PT.alt 11 (PT.alt 12 PT.done PT.stop) PT.stop)))) PT.stop) PT.stop)) (PT.alt 10 (PT.alt 1 (PT.alt 6 (PT.st 7 (PT.st 8 (PT.st 9 (PT.alt 11 (PT.alt 12 PT.done PT.stop) PT.stop)))) PT.stop) PT.stop) PT.stop))))))) (CN ⟨Y, [], w0⟩ [(some 1, b1, [.int .i64 x13, .int .i64 x14, .bool x15, .int .i64 x16, .int .i64 x17, .int .i64 x18, .bool x19, .bool x20, .int .i64 x21])] [(some 6, row v2 34 R34 x2)]) (fun ch a d v w h => by cases d <;> exact h) MO (by kernel_rfl) hW (fun w hW => ⟨_, _, hW, (all_cons (fun _ => (.head _)) all_nil), (all_cons (fun _ => (.head _)) all_nil)⟩) (fun w hW => ?_)
     refine pt_t (R := [1]) hF rfl rfl (yC fun M Z hN hZ => y_load_m (cs := [.int .i64 x13, .int .i64 x14, .bool x15, .int .i64 x16, .int .i64 x17, .int .i64 x18, .bool x19, .bool x20, .int .i64 x21]) (v := Value.agg #[.int .i64 x13, .int .i64 x14, .bool x15, .int .i64 x16, .int .i64 x17, .int .i64 x18, .bool x19, .bool x20, .int .i64 x21]) hF rfl (hN ((some 1), b1, [.int .i64 x13, .int .i64 x14, .bool x15, .int .i64 x16, .int .i64 x17, .int .i64 x18, .bool x19, .bool x20, .int .i64 x21]) (.head _) rfl) T27 rfl) (by kernel_rfl) rfl (fun a hF => ?_)
     iterate 2 refine pt_t (R := []) hF rfl rfl (yC fun M Z hN hZ => y_move hF rfl) rfl rfl (fun a hF => ?_)
     refine pt_t (R := []) hF rfl rfl (yC fun M Z hN hZ => y_indexV (r := R34) L24 hF rfl rfl (vs_of hW (rdc_row 0 rfl)) h3) rfl rfl (fun a hF => ?_)
     refine pt_t (R := [6]) hF rfl rfl (yC fun M Z hN hZ => y_load_el (y := Value.agg #[.int .i64 x22.1, .int .i64 x22.2.1, .int .i64 x22.2.2.1, .int .i64 x22.2.2.2]) (j := 0) (i := x12) hF rfl rfl (rdc_mrow (hZ ((some 6), row v2 34 R34 x2) (.head _) rfl)) h3 F34.to T34 rfl) (by kernel_rfl) rfl (fun a hF => ?_)
     refine pt_f rfl ?_ ?_
     ·
      refine ls hF hW rfl (y_call (v := Value.agg #[.int .i64 ((L36_State (x13, x14, x15, x16, x17, x18, x19, x20, x21)).1), .int .i64 ((L36_State (x13, x14, x15, x16, x17, x18, x19, x20, x21)).2.1), .bool ((L36_State (x13, x14, x15, x16, x17, x18, x19, x20, x21)).2.2.1), .int .i64 ((L36_State (x13, x14, x15, x16, x17, x18, x19, x20, x21)).2.2.2.1), .int .i64 ((L36_State (x13, x14, x15, x16, x17, x18, x19, x20, x21)).2.2.2.2.1), .int .i64 ((L36_State (x13, x14, x15, x16, x17, x18, x19, x20, x21)).2.2.2.2.2.1), .bool ((L36_State (x13, x14, x15, x16, x17, x18, x19, x20, x21)).2.2.2.2.2.2.1), .bool ((L36_State (x13, x14, x15, x16, x17, x18, x19, x20, x21)).2.2.2.2.2.2.2.1), .int .i64 ((L36_State (x13, x14, x15, x16, x17, x18, x19, x20, x21)).2.2.2.2.2.2.2.2)]) hF H9 rfl (fun w hW => L36_State_c any w (x13, x14, x15, x16, x17, x18, x19, x20, x21) _ rfl)) (fun a w hF hW => ?_)
      refine pt_next (N2 := []) (NZ2 := []) (N3 := [(some 1, b1, [.int .i64 x13, .int .i64 x14, .bool x15, .int .i64 x16, .int .i64 x17, .int .i64 x18, .bool x19, .bool x20, .int .i64 x21])]) (NZ3 := [(some 6, row v2 34 R34 x2)]) hW rfl rfl (all_cons (fun h => rel_dead (by kernel_rfl) h) all_nil) (all_cons (fun _ => (.head _)) all_nil) ?_
      refine pt_f rfl ?_ ?_
      ·
       refine ls hF hW rfl (y_call (v := Value.tuple #[.agg #[.int .i64 x23.1.1, .int .i64 x23.1.2.1, .bool x23.1.2.2.1, .int .i64 x23.1.2.2.2.1, .int .i64 x23.1.2.2.2.2.1, .int .i64 x23.1.2.2.2.2.2.1, .bool x23.1.2.2.2.2.2.2.1, .bool x23.1.2.2.2.2.2.2.2.1, .int .i64 x23.1.2.2.2.2.2.2.2.2], .int .i64 x23.2]) hF H8 rfl (fun w hW => journal_Next_c any w (L36_State (x13, x14, x15, x16, x17, x18, x19, x20, x21)) x22 _ h4)) (fun a w hF hW => ?_)
       refine pt_next (N2 := []) (NZ2 := []) (N3 := [(some 1, b1, [.int .i64 x13, .int .i64 x14, .bool x15, .int .i64 x16, .int .i64 x17, .int .i64 x18, .bool x19, .bool x20, .int .i64 x21])]) (NZ3 := [(some 6, row v2 34 R34 x2)]) hW rfl rfl (all_cons (fun h => rel_dead (by kernel_rfl) h) all_nil) (all_cons (fun h => rel_dead (by kernel_rfl) h) all_nil) ?_
       refine pt_t (R := []) hF rfl rfl (yC fun M Z hN hZ => y_move hF rfl) rfl rfl (fun a hF => ?_)
       refine pt_t (R := []) hF rfl rfl (yC fun M Z hN hZ => y_extract (v := Value.agg #[.int .i64 x23.1.1, .int .i64 x23.1.2.1, .bool x23.1.2.2.1, .int .i64 x23.1.2.2.2.1, .int .i64 x23.1.2.2.2.2.1, .int .i64 x23.1.2.2.2.2.2.1, .bool x23.1.2.2.2.2.2.2.1, .bool x23.1.2.2.2.2.2.2.2.1, .int .i64 x23.1.2.2.2.2.2.2.2.2]) hF rfl rfl) rfl rfl (fun a hF => ?_)
       refine pt_t (R := []) hF rfl rfl (yC fun M Z hN hZ => y_extract (v := Value.int .i64 x23.2) hF rfl rfl) rfl rfl (fun a hF => ?_)
       refine pt_f1 rfl ?_
       refine l_alloc (cs := [.int .i64 0, .int .i64 0, .bool false, .int .i64 0, .int .i64 0, .int .i64 0, .bool false, .bool false, .int .i64 0]) hF hW rfl Z28 rfl (fun b2 a w hF hW => ?_)
       refine pt_next (N2 := []) (NZ2 := []) (N3 := [(some 1, b1, [.int .i64 x13, .int .i64 x14, .bool x15, .int .i64 x16, .int .i64 x17, .int .i64 x18, .bool x19, .bool x20, .int .i64 x21])]) (NZ3 := [(some 6, row v2 34 R34 x2)]) hW rfl rfl (all_cons (fun h => rel_dead (by kernel_rfl) h) all_nil) (all_cons (fun h => rel_dead (by kernel_rfl) h) all_nil) ?_
       refine pt_f1 rfl ?_
       refine l_store (vs := [.int .i64 x23.1.1, .int .i64 x23.1.2.1, .bool x23.1.2.2.1, .int .i64 x23.1.2.2.2.1, .int .i64 x23.1.2.2.2.2.1, .int .i64 x23.1.2.2.2.2.2.1, .bool x23.1.2.2.2.2.2.2.1, .bool x23.1.2.2.2.2.2.2.2.1, .int .i64 x23.1.2.2.2.2.2.2.2.2]) (M' := [(b2, [.int .i64 x23.1.1, .int .i64 x23.1.2.1, .bool x23.1.2.2.1, .int .i64 x23.1.2.2.2.1, .int .i64 x23.1.2.2.2.2.1, .int .i64 x23.1.2.2.2.2.2.1, .bool x23.1.2.2.2.2.2.2.1, .bool x23.1.2.2.2.2.2.2.2.1, .int .i64 x23.1.2.2.2.2.2.2.2.2]), (b1, [.int .i64 x13, .int .i64 x14, .bool x15, .int .i64 x16, .int .i64 x17, .int .i64 x18, .bool x19, .bool x20, .int .i64 x21])]) 0 hF hW rfl rfl rfl T28 rfl rfl rfl rfl rfl (fun w hW => ?_)
       refine pt_next (N2 := []) (NZ2 := []) (N3 := [(some 1, b1, [.int .i64 x13, .int .i64 x14, .bool x15, .int .i64 x16, .int .i64 x17, .int .i64 x18, .bool x19, .bool x20, .int .i64 x21])]) (NZ3 := [(some 6, row v2 34 R34 x2)]) hW rfl rfl (all_cons (fun h => rel_dead (by kernel_rfl) h) all_nil) (all_cons (fun h => rel_dead (by kernel_rfl) h) all_nil) ?_
       refine pt_f1 rfl ?_
       refine ls hF hW rfl ((y_assign hF rfl).q) (fun a w hF hW => ?_)
       refine pt_next (N2 := []) (NZ2 := []) (N3 := [(some 1, b1, [.int .i64 x13, .int .i64 x14, .bool x15, .int .i64 x16, .int .i64 x17, .int .i64 x18, .bool x19, .bool x20, .int .i64 x21])]) (NZ3 := [(some 6, row v2 34 R34 x2)]) hW rfl rfl (all_cons (fun h => rel_dead (by kernel_rfl) h) all_nil) (all_cons (fun h => rel_dead (by kernel_rfl) h) all_nil) ?_
       have hW := hW.frontM (i := 1) rfl rfl
       have hW := hW.frontM (i := 1) rfl rfl
       refine pt_end ?_
       exact ⟨b2, hF.re ⟨rfl, rfl, rfl, rfl, rfl, rfl, rfl, rfl, rfl, rfl, rfl, rfl, rfl, rfl, rfl, rfl, rfl, rfl, rfl, rfl, rfl, rfl, trivial⟩, hW⟩
      refine pt_f rfl ?_ ?_
      ·
       refine l_alloc (cs := [.int .i64 0, .int .i64 0, .bool false, .int .i64 0, .int .i64 0, .int .i64 0, .bool false, .bool false, .int .i64 0]) hF hW rfl Z28 rfl (fun b2 a w hF hW => ?_)
       refine pt_next (N2 := []) (NZ2 := []) (N3 := [(some 1, b1, [.int .i64 x13, .int .i64 x14, .bool x15, .int .i64 x16, .int .i64 x17, .int .i64 x18, .bool x19, .bool x20, .int .i64 x21])]) (NZ3 := [(some 6, row v2 34 R34 x2)]) hW rfl rfl (all_cons (fun h => rel_dead (by kernel_rfl) h) all_nil) (all_cons (fun _ => (.head _)) all_nil) ?_
       refine pt_f1 rfl ?_
       refine ls hF hW rfl (y_call (v := Value.tuple #[.agg #[.int .i64 x23.1.1, .int .i64 x23.1.2.1, .bool x23.1.2.2.1, .int .i64 x23.1.2.2.2.1, .int .i64 x23.1.2.2.2.2.1, .int .i64 x23.1.2.2.2.2.2.1, .bool x23.1.2.2.2.2.2.2.1, .bool x23.1.2.2.2.2.2.2.2.1, .int .i64 x23.1.2.2.2.2.2.2.2.2], .int .i64 x23.2]) hF H8 rfl (fun w hW => journal_Next_c any w (L36_State (x13, x14, x15, x16, x17, x18, x19, x20, x21)) x22 _ h4)) (fun a w hF hW => ?_)
       refine pt_next (N2 := []) (NZ2 := []) (N3 := [(some 1, b1, [.int .i64 x13, .int .i64 x14, .bool x15, .int .i64 x16, .int .i64 x17, .int .i64 x18, .bool x19, .bool x20, .int .i64 x21])]) (NZ3 := [(some 6, row v2 34 R34 x2)]) hW rfl rfl (all_cons (fun h => rel_dead (by kernel_rfl) h) all_nil) (all_cons (fun h => rel_dead (by kernel_rfl) h) all_nil) ?_
       refine pt_t (R := []) hF rfl rfl (yC fun M Z hN hZ => y_move hF rfl) rfl rfl (fun a hF => ?_)
       refine pt_t (R := []) hF rfl rfl (yC fun M Z hN hZ => y_extract (v := Value.agg #[.int .i64 x23.1.1, .int .i64 x23.1.2.1, .bool x23.1.2.2.1, .int .i64 x23.1.2.2.2.1, .int .i64 x23.1.2.2.2.2.1, .int .i64 x23.1.2.2.2.2.2.1, .bool x23.1.2.2.2.2.2.2.1, .bool x23.1.2.2.2.2.2.2.2.1, .int .i64 x23.1.2.2.2.2.2.2.2.2]) hF rfl rfl) rfl rfl (fun a hF => ?_)
       refine pt_t (R := []) hF rfl rfl (yC fun M Z hN hZ => y_extract (v := Value.int .i64 x23.2) hF rfl rfl) rfl rfl (fun a hF => ?_)
       refine pt_f1 rfl ?_
       refine l_store (vs := [.int .i64 x23.1.1, .int .i64 x23.1.2.1, .bool x23.1.2.2.1, .int .i64 x23.1.2.2.2.1, .int .i64 x23.1.2.2.2.2.1, .int .i64 x23.1.2.2.2.2.2.1, .bool x23.1.2.2.2.2.2.2.1, .bool x23.1.2.2.2.2.2.2.2.1, .int .i64 x23.1.2.2.2.2.2.2.2.2]) (M' := [(b2, [.int .i64 x23.1.1, .int .i64 x23.1.2.1, .bool x23.1.2.2.1, .int .i64 x23.1.2.2.2.1, .int .i64 x23.1.2.2.2.2.1, .int .i64 x23.1.2.2.2.2.2.1, .bool x23.1.2.2.2.2.2.2.1, .bool x23.1.2.2.2.2.2.2.2.1, .int .i64 x23.1.2.2.2.2.2.2.2.2]), (b1, [.int .i64 x13, .int .i64 x14, .bool x15, .int .i64 x16, .int .i64 x17, .int .i64 x18, .bool x19, .bool x20, .int .i64 x21])]) 0 hF hW rfl rfl rfl T28 rfl rfl rfl rfl rfl (fun w hW => ?_)
       refine pt_next (N2 := []) (NZ2 := []) (N3 := [(some 1, b1, [.int .i64 x13, .int .i64 x14, .bool x15, .int .i64 x16, .int .i64 x17, .int .i64 x18, .bool x19, .bool x20, .int .i64 x21])]) (NZ3 := [(some 6, row v2 34 R34 x2)]) hW rfl rfl (all_cons (fun h => rel_dead (by kernel_rfl) h) all_nil) (all_cons (fun h => rel_dead (by kernel_rfl) h) all_nil) ?_
       refine pt_f1 rfl ?_
       refine ls hF hW rfl ((y_assign hF rfl).q) (fun a w hF hW => ?_)
       refine pt_next (N2 := []) (NZ2 := []) (N3 := [(some 1, b1, [.int .i64 x13, .int .i64 x14, .bool x15, .int .i64 x16, .int .i64 x17, .int .i64 x18, .bool x19, .bool x20, .int .i64 x21])]) (NZ3 := [(some 6, row v2 34 R34 x2)]) hW rfl rfl (all_cons (fun h => rel_dead (by kernel_rfl) h) all_nil) (all_cons (fun h => rel_dead (by kernel_rfl) h) all_nil) ?_
       have hW := hW.frontM (i := 1) rfl rfl
       have hW := hW.frontM (i := 1) rfl rfl
       refine pt_end ?_
       exact ⟨b2, hF.re ⟨rfl, rfl, rfl, rfl, rfl, rfl, rfl, rfl, rfl, rfl, rfl, rfl, rfl, rfl, rfl, rfl, rfl, rfl, rfl, rfl, rfl, rfl, trivial⟩, hW⟩
      exact trivial
     refine pt_f rfl ?_ ?_
     ·
      refine l_alloc (cs := [.int .i64 0, .int .i64 0, .bool false, .int .i64 0, .int .i64 0, .int .i64 0, .bool false, .bool false, .int .i64 0]) hF hW rfl Z28 rfl (fun b2 a w hF hW => ?_)
      refine pt_next (N2 := []) (NZ2 := []) (N3 := [(some 1, b1, [.int .i64 x13, .int .i64 x14, .bool x15, .int .i64 x16, .int .i64 x17, .int .i64 x18, .bool x19, .bool x20, .int .i64 x21])]) (NZ3 := [(some 6, row v2 34 R34 x2)]) hW rfl rfl (all_cons (fun _ => (.tail _ (.head _))) all_nil) (all_cons (fun _ => (.head _)) all_nil) ?_
      refine pt_f1 rfl ?_
      refine ls hF hW rfl (y_call (v := Value.agg #[.int .i64 ((L36_State (x13, x14, x15, x16, x17, x18, x19, x20, x21)).1), .int .i64 ((L36_State (x13, x14, x15, x16, x17, x18, x19, x20, x21)).2.1), .bool ((L36_State (x13, x14, x15, x16, x17, x18, x19, x20, x21)).2.2.1), .int .i64 ((L36_State (x13, x14, x15, x16, x17, x18, x19, x20, x21)).2.2.2.1), .int .i64 ((L36_State (x13, x14, x15, x16, x17, x18, x19, x20, x21)).2.2.2.2.1), .int .i64 ((L36_State (x13, x14, x15, x16, x17, x18, x19, x20, x21)).2.2.2.2.2.1), .bool ((L36_State (x13, x14, x15, x16, x17, x18, x19, x20, x21)).2.2.2.2.2.2.1), .bool ((L36_State (x13, x14, x15, x16, x17, x18, x19, x20, x21)).2.2.2.2.2.2.2.1), .int .i64 ((L36_State (x13, x14, x15, x16, x17, x18, x19, x20, x21)).2.2.2.2.2.2.2.2)]) hF H9 rfl (fun w hW => L36_State_c any w (x13, x14, x15, x16, x17, x18, x19, x20, x21) _ rfl)) (fun a w hF hW => ?_)
      refine pt_next (N2 := []) (NZ2 := []) (N3 := [(some 1, b1, [.int .i64 x13, .int .i64 x14, .bool x15, .int .i64 x16, .int .i64 x17, .int .i64 x18, .bool x19, .bool x20, .int .i64 x21])]) (NZ3 := [(some 6, row v2 34 R34 x2)]) hW rfl rfl (all_cons (fun h => rel_dead (by kernel_rfl) h) all_nil) (all_cons (fun _ => (.head _)) all_nil) ?_
      refine pt_f1 rfl ?_
      refine ls hF hW rfl (y_call (v := Value.tuple #[.agg #[.int .i64 x23.1.1, .int .i64 x23.1.2.1, .bool x23.1.2.2.1, .int .i64 x23.1.2.2.2.1, .int .i64 x23.1.2.2.2.2.1, .int .i64 x23.1.2.2.2.2.2.1, .bool x23.1.2.2.2.2.2.2.1, .bool x23.1.2.2.2.2.2.2.2.1, .int .i64 x23.1.2.2.2.2.2.2.2.2], .int .i64 x23.2]) hF H8 rfl (fun w hW => journal_Next_c any w (L36_State (x13, x14, x15, x16, x17, x18, x19, x20, x21)) x22 _ h4)) (fun a w hF hW => ?_)
      refine pt_next (N2 := []) (NZ2 := []) (N3 := [(some 1, b1, [.int .i64 x13, .int .i64 x14, .bool x15, .int .i64 x16, .int .i64 x17, .int .i64 x18, .bool x19, .bool x20, .int .i64 x21])]) (NZ3 := [(some 6, row v2 34 R34 x2)]) hW rfl rfl (all_cons (fun h => rel_dead (by kernel_rfl) h) all_nil) (all_cons (fun h => rel_dead (by kernel_rfl) h) all_nil) ?_
      refine pt_t (R := []) hF rfl rfl (yC fun M Z hN hZ => y_move hF rfl) rfl rfl (fun a hF => ?_)
      refine pt_t (R := []) hF rfl rfl (yC fun M Z hN hZ => y_extract (v := Value.agg #[.int .i64 x23.1.1, .int .i64 x23.1.2.1, .bool x23.1.2.2.1, .int .i64 x23.1.2.2.2.1, .int .i64 x23.1.2.2.2.2.1, .int .i64 x23.1.2.2.2.2.2.1, .bool x23.1.2.2.2.2.2.2.1, .bool x23.1.2.2.2.2.2.2.2.1, .int .i64 x23.1.2.2.2.2.2.2.2.2]) hF rfl rfl) rfl rfl (fun a hF => ?_)
      refine pt_t (R := []) hF rfl rfl (yC fun M Z hN hZ => y_extract (v := Value.int .i64 x23.2) hF rfl rfl) rfl rfl (fun a hF => ?_)
      refine pt_f1 rfl ?_
      refine l_store (vs := [.int .i64 x23.1.1, .int .i64 x23.1.2.1, .bool x23.1.2.2.1, .int .i64 x23.1.2.2.2.1, .int .i64 x23.1.2.2.2.2.1, .int .i64 x23.1.2.2.2.2.2.1, .bool x23.1.2.2.2.2.2.2.1, .bool x23.1.2.2.2.2.2.2.2.1, .int .i64 x23.1.2.2.2.2.2.2.2.2]) (M' := [(b2, [.int .i64 x23.1.1, .int .i64 x23.1.2.1, .bool x23.1.2.2.1, .int .i64 x23.1.2.2.2.1, .int .i64 x23.1.2.2.2.2.1, .int .i64 x23.1.2.2.2.2.2.1, .bool x23.1.2.2.2.2.2.2.1, .bool x23.1.2.2.2.2.2.2.2.1, .int .i64 x23.1.2.2.2.2.2.2.2.2]), (b1, [.int .i64 x13, .int .i64 x14, .bool x15, .int .i64 x16, .int .i64 x17, .int .i64 x18, .bool x19, .bool x20, .int .i64 x21])]) 0 hF hW rfl rfl rfl T28 rfl rfl rfl rfl rfl (fun w hW => ?_)
      refine pt_next (N2 := []) (NZ2 := []) (N3 := [(some 1, b1, [.int .i64 x13, .int .i64 x14, .bool x15, .int .i64 x16, .int .i64 x17, .int .i64 x18, .bool x19, .bool x20, .int .i64 x21])]) (NZ3 := [(some 6, row v2 34 R34 x2)]) hW rfl rfl (all_cons (fun h => rel_dead (by kernel_rfl) h) all_nil) (all_cons (fun h => rel_dead (by kernel_rfl) h) all_nil) ?_
      refine pt_f1 rfl ?_
      refine ls hF hW rfl ((y_assign hF rfl).q) (fun a w hF hW => ?_)
      refine pt_next (N2 := []) (NZ2 := []) (N3 := [(some 1, b1, [.int .i64 x13, .int .i64 x14, .bool x15, .int .i64 x16, .int .i64 x17, .int .i64 x18, .bool x19, .bool x20, .int .i64 x21])]) (NZ3 := [(some 6, row v2 34 R34 x2)]) hW rfl rfl (all_cons (fun h => rel_dead (by kernel_rfl) h) all_nil) (all_cons (fun h => rel_dead (by kernel_rfl) h) all_nil) ?_
      have hW := hW.frontM (i := 1) rfl rfl
      have hW := hW.frontM (i := 1) rfl rfl
      refine pt_end ?_
      exact ⟨b2, hF.re ⟨rfl, rfl, rfl, rfl, rfl, rfl, rfl, rfl, rfl, rfl, rfl, rfl, rfl, rfl, rfl, rfl, rfl, rfl, rfl, rfl, rfl, rfl, trivial⟩, hW⟩
     exact trivial
    rintro a w ⟨b2, hF, hW⟩
    refine c_then ?_
    refine c_seq ?_
    obtain ⟨x24, h5, H⟩ := bindE H
    obtain ⟨x25, h6, H⟩ := bindE H
    refine wp_oneQ (fun a w => ∃ b3 : Nat, Fr 98 [] [(0, v1), (1, .int .i64 p1), (4, .bool false), (5, v2), (6, .pointer (some ⟨b1, 0, none⟩)), (7, .int .i64 x12), (8, .pointer (some ⟨b2, 0, none⟩)), (9, .int .i64 x23.2), (10, .pointer (some ⟨b3, 0, none⟩)), (11, .int .i64 x25.2), (25, .int .i64 x12), (26, v1), (27, .int .i64 (p0.length : Int)), (28, .bool true), (31, .tuple #[.agg #[.int .i64 x23.1.1, .int .i64 x23.1.2.1, .bool x23.1.2.2.1, .int .i64 x23.1.2.2.2.1, .int .i64 x23.1.2.2.2.2.1, .int .i64 x23.1.2.2.2.2.2.1, .bool x23.1.2.2.2.2.2.2.1, .bool x23.1.2.2.2.2.2.2.2.1, .int .i64 x23.1.2.2.2.2.2.2.2.2], .int .i64 x23.2]), (32, .agg #[.int .i64 x13, .int .i64 x14, .bool x15, .int .i64 x16, .int .i64 x17, .int .i64 x18, .bool x19, .bool x20, .int .i64 x21]), (33, .agg #[.int .i64 ((L36_State (x13, x14, x15, x16, x17, x18, x19, x20, x21)).1), .int .i64 ((L36_State (x13, x14, x15, x16, x17, x18, x19, x20, x21)).2.1), .bool ((L36_State (x13, x14, x15, x16, x17, x18, x19, x20, x21)).2.2.1), .int .i64 ((L36_State (x13, x14, x15, x16, x17, x18, x19, x20, x21)).2.2.2.1), .int .i64 ((L36_State (x13, x14, x15, x16, x17, x18, x19, x20, x21)).2.2.2.2.1), .int .i64 ((L36_State (x13, x14, x15, x16, x17, x18, x19, x20, x21)).2.2.2.2.2.1), .bool ((L36_State (x13, x14, x15, x16, x17, x18, x19, x20, x21)).2.2.2.2.2.2.1), .bool ((L36_State (x13, x14, x15, x16, x17, x18, x19, x20, x21)).2.2.2.2.2.2.2.1), .int .i64 ((L36_State (x13, x14, x15, x16, x17, x18, x19, x20, x21)).2.2.2.2.2.2.2.2)]), (34, v2), (35, .int .i64 x12), (36, .pointer (some ⟨vblk v2, voff v2 + (x12).toNat * 4, none⟩)), (37, .agg #[.int .i64 x22.1, .int .i64 x22.2.1, .int .i64 x22.2.2.1, .int .i64 x22.2.2.2]), (38, .tuple #[.agg #[.int .i64 x23.1.1, .int .i64 x23.1.2.1, .bool x23.1.2.2.1, .int .i64 x23.1.2.2.2.1, .int .i64 x23.1.2.2.2.2.1, .int .i64 x23.1.2.2.2.2.2.1, .bool x23.1.2.2.2.2.2.2.1, .bool x23.1.2.2.2.2.2.2.2.1, .int .i64 x23.1.2.2.2.2.2.2.2.2], .int .i64 x23.2]), (39, .agg #[.int .i64 x23.1.1, .int .i64 x23.1.2.1, .bool x23.1.2.2.1, .int .i64 x23.1.2.2.2.1, .int .i64 x23.1.2.2.2.2.1, .int .i64 x23.1.2.2.2.2.2.1, .bool x23.1.2.2.2.2.2.2.1, .bool x23.1.2.2.2.2.2.2.2.1, .int .i64 x23.1.2.2.2.2.2.2.2.2]), (40, .int .i64 x23.2), (41, .tuple #[.agg #[.int .i64 x25.1.1, .int .i64 x25.1.2.1, .bool x25.1.2.2.1, .int .i64 x25.1.2.2.2.1, .int .i64 x25.1.2.2.2.2.1, .int .i64 x25.1.2.2.2.2.2.1, .bool x25.1.2.2.2.2.2.2.1, .bool x25.1.2.2.2.2.2.2.2.1, .int .i64 x25.1.2.2.2.2.2.2.2.2], .int .i64 x25.2]), (42, .agg #[.int .i64 x13, .int .i64 x14, .bool x15, .int .i64 x16, .int .i64 x17, .int .i64 x18, .bool x19, .bool x20, .int .i64 x21]), (43, v1), (44, .int .i64 x12), (45, .pointer (some ⟨vblk v1, voff v1 + (x12).toNat * 4, none⟩)), (46, .agg #[.int .i64 x24.1, .int .i64 x24.2.1, .int .i64 x24.2.2.1, .int .i64 x24.2.2.2]), (47, .tuple #[.agg #[.int .i64 x25.1.1, .int .i64 x25.1.2.1, .bool x25.1.2.2.1, .int .i64 x25.1.2.2.2.1, .int .i64 x25.1.2.2.2.2.1, .int .i64 x25.1.2.2.2.2.2.1, .bool x25.1.2.2.2.2.2.2.1, .bool x25.1.2.2.2.2.2.2.2.1, .int .i64 x25.1.2.2.2.2.2.2.2.2], .int .i64 x25.2]), (48, .agg #[.int .i64 x25.1.1, .int .i64 x25.1.2.1, .bool x25.1.2.2.1, .int .i64 x25.1.2.2.2.1, .int .i64 x25.1.2.2.2.2.1, .int .i64 x25.1.2.2.2.2.2.1, .bool x25.1.2.2.2.2.2.2.1, .bool x25.1.2.2.2.2.2.2.2.1, .int .i64 x25.1.2.2.2.2.2.2.2.2]), (49, .int .i64 x25.2)] a ∧ Stw ⟨Y, [], w0⟩ [(b3, [.int .i64 x25.1.1, .int .i64 x25.1.2.1, .bool x25.1.2.2.1, .int .i64 x25.1.2.2.2.1, .int .i64 x25.1.2.2.2.2.1, .int .i64 x25.1.2.2.2.2.2.1, .bool x25.1.2.2.2.2.2.2.1, .bool x25.1.2.2.2.2.2.2.2.1, .int .i64 x25.1.2.2.2.2.2.2.2.2]), (b2, [.int .i64 x23.1.1, .int .i64 x23.1.2.1, .bool x23.1.2.2.1, .int .i64 x23.1.2.2.2.1, .int .i64 x23.1.2.2.2.2.1, .int .i64 x23.1.2.2.2.2.2.1, .bool x23.1.2.2.2.2.2.2.1, .bool x23.1.2.2.2.2.2.2.2.1, .int .i64 x23.1.2.2.2.2.2.2.2.2]), (b1, [.int .i64 x13, .int .i64 x14, .bool x15, .int .i64 x16, .int .i64 x17, .int .i64 x18, .bool x19, .bool x20, .int .i64 x21])] [row v2 34 R34 x2] w) ?_ ?_
    ·
     refine reg_tree (PT.st 0 (PT.st 1 (PT.st 2 (PT.st 3 (PT.st 4 (PT.alt 5 (PT.st 6 (PT.st 7 (PT.st 8 (PT.alt 9 (PT.alt 10 (PT.alt 11 PT.done PT.stop) PT.stop) PT.stop)))) (PT.alt 9 (PT.alt 5 (PT.st 6 (PT.st 7 (PT.st 8 (PT.alt 10 (PT.alt 11 PT.done PT.stop) PT.stop)))) PT.stop) PT.stop))))))) (CN ⟨Y, [], w0⟩ [(some 5, b1, [.int .i64 x13, .int .i64 x14, .bool x15, .int .i64 x16, .int .i64 x17, .int .i64 x18, .bool x19, .bool x20, .int .i64 x21])] []) (fun ch a d v w h => by cases d <;> exact h) MO (by kernel_rfl) hW (fun w hW => ⟨_, _, hW, (all_cons (fun _ => (.tail _ (.head _))) all_nil), all_nil⟩) (fun w hW => ?_)
     refine pt_t (R := [5]) hF rfl rfl (yC fun M Z hN hZ => y_load_m (cs := [.int .i64 x13, .int .i64 x14, .bool x15, .int .i64 x16, .int .i64 x17, .int .i64 x18, .bool x19, .bool x20, .int .i64 x21]) (v := Value.agg #[.int .i64 x13, .int .i64 x14, .bool x15, .int .i64 x16, .int .i64 x17, .int .i64 x18, .bool x19, .bool x20, .int .i64 x21]) hF rfl (hN ((some 5), b1, [.int .i64 x13, .int .i64 x14, .bool x15, .int .i64 x16, .int .i64 x17, .int .i64 x18, .bool x19, .bool x20, .int .i64 x21]) (.head _) rfl) T27 rfl) (by kernel_rfl) rfl (fun a hF => ?_)
     iterate 2 refine pt_t (R := []) hF rfl rfl (yC fun M Z hN hZ => y_move hF rfl) rfl rfl (fun a hF => ?_)
     refine pt_t (R := []) hF rfl rfl (yC fun M Z hN hZ => y_index (r := R37) L22 hF rfl rfl (rdc_ro h_v1) h5) rfl rfl (fun a hF => ?_)
     refine pt_t (R := []) hF rfl rfl (yC fun M Z hN hZ => y_load_el (y := Value.agg #[.int .i64 x24.1, .int .i64 x24.2.1, .int .i64 x24.2.2.1, .int .i64 x24.2.2.2]) (j := 0) (i := x12) hF rfl rfl (rdc_ro h_v1) h5 F37.to T37 rfl) rfl rfl (fun a hF => ?_)
     refine pt_f rfl ?_ ?_
     ·
      refine ls hF hW rfl (y_call (v := Value.tuple #[.agg #[.int .i64 x25.1.1, .int .i64 x25.1.2.1, .bool x25.1.2.2.1, .int .i64 x25.1.2.2.2.1, .int .i64 x25.1.2.2.2.2.1, .int .i64 x25.1.2.2.2.2.2.1, .bool x25.1.2.2.2.2.2.2.1, .bool x25.1.2.2.2.2.2.2.2.1, .int .i64 x25.1.2.2.2.2.2.2.2.2], .int .i64 x25.2]) hF H10 rfl (fun w hW => r36_Next_c any w (x13, x14, x15, x16, x17, x18, x19, x20, x21) x24 _ h6)) (fun a w hF hW => ?_)
      refine pt_next (N2 := []) (NZ2 := []) (N3 := [(some 5, b1, [.int .i64 x13, .int .i64 x14, .bool x15, .int .i64 x16, .int .i64 x17, .int .i64 x18, .bool x19, .bool x20, .int .i64 x21])]) (NZ3 := []) hW rfl rfl (all_cons (fun h => rel_dead (by kernel_rfl) h) all_nil) all_nil ?_
      refine pt_t (R := []) hF rfl rfl (yC fun M Z hN hZ => y_move hF rfl) rfl rfl (fun a hF => ?_)
      refine pt_t (R := []) hF rfl rfl (yC fun M Z hN hZ => y_extract (v := Value.agg #[.int .i64 x25.1.1, .int .i64 x25.1.2.1, .bool x25.1.2.2.1, .int .i64 x25.1.2.2.2.1, .int .i64 x25.1.2.2.2.2.1, .int .i64 x25.1.2.2.2.2.2.1, .bool x25.1.2.2.2.2.2.2.1, .bool x25.1.2.2.2.2.2.2.2.1, .int .i64 x25.1.2.2.2.2.2.2.2.2]) hF rfl rfl) rfl rfl (fun a hF => ?_)
      refine pt_t (R := []) hF rfl rfl (yC fun M Z hN hZ => y_extract (v := Value.int .i64 x25.2) hF rfl rfl) rfl rfl (fun a hF => ?_)
      refine pt_f1 rfl ?_
      refine l_alloc (cs := [.int .i64 0, .int .i64 0, .bool false, .int .i64 0, .int .i64 0, .int .i64 0, .bool false, .bool false, .int .i64 0]) hF hW rfl Z27 rfl (fun b3 a w hF hW => ?_)
      refine pt_next (N2 := []) (NZ2 := []) (N3 := [(some 5, b1, [.int .i64 x13, .int .i64 x14, .bool x15, .int .i64 x16, .int .i64 x17, .int .i64 x18, .bool x19, .bool x20, .int .i64 x21])]) (NZ3 := []) hW rfl rfl (all_cons (fun h => rel_dead (by kernel_rfl) h) all_nil) all_nil ?_
      refine pt_f1 rfl ?_
      refine l_store (vs := [.int .i64 x25.1.1, .int .i64 x25.1.2.1, .bool x25.1.2.2.1, .int .i64 x25.1.2.2.2.1, .int .i64 x25.1.2.2.2.2.1, .int .i64 x25.1.2.2.2.2.2.1, .bool x25.1.2.2.2.2.2.2.1, .bool x25.1.2.2.2.2.2.2.2.1, .int .i64 x25.1.2.2.2.2.2.2.2.2]) (M' := [(b3, [.int .i64 x25.1.1, .int .i64 x25.1.2.1, .bool x25.1.2.2.1, .int .i64 x25.1.2.2.2.1, .int .i64 x25.1.2.2.2.2.1, .int .i64 x25.1.2.2.2.2.2.1, .bool x25.1.2.2.2.2.2.2.1, .bool x25.1.2.2.2.2.2.2.2.1, .int .i64 x25.1.2.2.2.2.2.2.2.2]), (b2, [.int .i64 x23.1.1, .int .i64 x23.1.2.1, .bool x23.1.2.2.1, .int .i64 x23.1.2.2.2.1, .int .i64 x23.1.2.2.2.2.1, .int .i64 x23.1.2.2.2.2.2.1, .bool x23.1.2.2.2.2.2.2.1, .bool x23.1.2.2.2.2.2.2.2.1, .int .i64 x23.1.2.2.2.2.2.2.2.2]), (b1, [.int .i64 x13, .int .i64 x14, .bool x15, .int .i64 x16, .int .i64 x17, .int .i64 x18, .bool x19, .bool x20, .int .i64 x21])]) 0 hF hW rfl rfl rfl T27 rfl rfl rfl rfl rfl (fun w hW => ?_)
      refine pt_next (N2 := []) (NZ2 := []) (N3 := [(some 5, b1, [.int .i64 x13, .int .i64 x14, .bool x15, .int .i64 x16, .int .i64 x17, .int .i64 x18, .bool x19, .bool x20, .int .i64 x21])]) (NZ3 := []) hW rfl rfl (all_cons (fun h => rel_dead (by kernel_rfl) h) all_nil) all_nil ?_
      refine pt_f1 rfl ?_
      refine ls hF hW rfl ((y_assign hF rfl).q) (fun a w hF hW => ?_)
      refine pt_next (N2 := []) (NZ2 := []) (N3 := [(some 5, b1, [.int .i64 x13, .int .i64 x14, .bool x15, .int .i64 x16, .int .i64 x17, .int .i64 x18, .bool x19, .bool x20, .int .i64 x21])]) (NZ3 := []) hW rfl rfl (all_cons (fun h => rel_dead (by kernel_rfl) h) all_nil) all_nil ?_
      have hW := hW.frontM (i := 2) rfl rfl
      have hW := hW.frontM (i := 2) rfl rfl
      have hW := hW.frontM (i := 2) rfl rfl
      refine pt_end ?_
      exact ⟨b3, hF.re ⟨rfl, rfl, rfl, rfl, rfl, rfl, rfl, rfl, rfl, rfl, rfl, rfl, rfl, rfl, rfl, rfl, rfl, rfl, rfl, rfl, rfl, rfl, rfl, rfl, rfl, rfl, rfl, rfl, rfl, rfl, rfl, rfl, rfl, trivial⟩, hW⟩
     refine pt_f rfl ?_ ?_
     ·
      refine l_alloc (cs := [.int .i64 0, .int .i64 0, .bool false, .int .i64 0, .int .i64 0, .int .i64 0, .bool false, .bool false, .int .i64 0]) hF hW rfl Z27 rfl (fun b3 a w hF hW => ?_)
      refine pt_next (N2 := []) (NZ2 := []) (N3 := [(some 5, b1, [.int .i64 x13, .int .i64 x14, .bool x15, .int .i64 x16, .int .i64 x17, .int .i64 x18, .bool x19, .bool x20, .int .i64 x21])]) (NZ3 := []) hW rfl rfl (all_cons (fun _ => (.tail _ (.tail _ (.head _)))) all_nil) all_nil ?_
      refine pt_f1 rfl ?_
      refine ls hF hW rfl (y_call (v := Value.tuple #[.agg #[.int .i64 x25.1.1, .int .i64 x25.1.2.1, .bool x25.1.2.2.1, .int .i64 x25.1.2.2.2.1, .int .i64 x25.1.2.2.2.2.1, .int .i64 x25.1.2.2.2.2.2.1, .bool x25.1.2.2.2.2.2.2.1, .bool x25.1.2.2.2.2.2.2.2.1, .int .i64 x25.1.2.2.2.2.2.2.2.2], .int .i64 x25.2]) hF H10 rfl (fun w hW => r36_Next_c any w (x13, x14, x15, x16, x17, x18, x19, x20, x21) x24 _ h6)) (fun a w hF hW => ?_)
      refine pt_next (N2 := []) (NZ2 := []) (N3 := [(some 5, b1, [.int .i64 x13, .int .i64 x14, .bool x15, .int .i64 x16, .int .i64 x17, .int .i64 x18, .bool x19, .bool x20, .int .i64 x21])]) (NZ3 := []) hW rfl rfl (all_cons (fun h => rel_dead (by kernel_rfl) h) all_nil) all_nil ?_
      refine pt_t (R := []) hF rfl rfl (yC fun M Z hN hZ => y_move hF rfl) rfl rfl (fun a hF => ?_)
      refine pt_t (R := []) hF rfl rfl (yC fun M Z hN hZ => y_extract (v := Value.agg #[.int .i64 x25.1.1, .int .i64 x25.1.2.1, .bool x25.1.2.2.1, .int .i64 x25.1.2.2.2.1, .int .i64 x25.1.2.2.2.2.1, .int .i64 x25.1.2.2.2.2.2.1, .bool x25.1.2.2.2.2.2.2.1, .bool x25.1.2.2.2.2.2.2.2.1, .int .i64 x25.1.2.2.2.2.2.2.2.2]) hF rfl rfl) rfl rfl (fun a hF => ?_)
      refine pt_t (R := []) hF rfl rfl (yC fun M Z hN hZ => y_extract (v := Value.int .i64 x25.2) hF rfl rfl) rfl rfl (fun a hF => ?_)
      refine pt_f1 rfl ?_
      refine l_store (vs := [.int .i64 x25.1.1, .int .i64 x25.1.2.1, .bool x25.1.2.2.1, .int .i64 x25.1.2.2.2.1, .int .i64 x25.1.2.2.2.2.1, .int .i64 x25.1.2.2.2.2.2.1, .bool x25.1.2.2.2.2.2.2.1, .bool x25.1.2.2.2.2.2.2.2.1, .int .i64 x25.1.2.2.2.2.2.2.2.2]) (M' := [(b3, [.int .i64 x25.1.1, .int .i64 x25.1.2.1, .bool x25.1.2.2.1, .int .i64 x25.1.2.2.2.1, .int .i64 x25.1.2.2.2.2.1, .int .i64 x25.1.2.2.2.2.2.1, .bool x25.1.2.2.2.2.2.2.1, .bool x25.1.2.2.2.2.2.2.2.1, .int .i64 x25.1.2.2.2.2.2.2.2.2]), (b2, [.int .i64 x23.1.1, .int .i64 x23.1.2.1, .bool x23.1.2.2.1, .int .i64 x23.1.2.2.2.1, .int .i64 x23.1.2.2.2.2.1, .int .i64 x23.1.2.2.2.2.2.1, .bool x23.1.2.2.2.2.2.2.1, .bool x23.1.2.2.2.2.2.2.2.1, .int .i64 x23.1.2.2.2.2.2.2.2.2]), (b1, [.int .i64 x13, .int .i64 x14, .bool x15, .int .i64 x16, .int .i64 x17, .int .i64 x18, .bool x19, .bool x20, .int .i64 x21])]) 0 hF hW rfl rfl rfl T27 rfl rfl rfl rfl rfl (fun w hW => ?_)
      refine pt_next (N2 := []) (NZ2 := []) (N3 := [(some 5, b1, [.int .i64 x13, .int .i64 x14, .bool x15, .int .i64 x16, .int .i64 x17, .int .i64 x18, .bool x19, .bool x20, .int .i64 x21])]) (NZ3 := []) hW rfl rfl (all_cons (fun h => rel_dead (by kernel_rfl) h) all_nil) all_nil ?_
      refine pt_f1 rfl ?_
      refine ls hF hW rfl ((y_assign hF rfl).q) (fun a w hF hW => ?_)
      refine pt_next (N2 := []) (NZ2 := []) (N3 := [(some 5, b1, [.int .i64 x13, .int .i64 x14, .bool x15, .int .i64 x16, .int .i64 x17, .int .i64 x18, .bool x19, .bool x20, .int .i64 x21])]) (NZ3 := []) hW rfl rfl (all_cons (fun h => rel_dead (by kernel_rfl) h) all_nil) all_nil ?_
      have hW := hW.frontM (i := 2) rfl rfl
      have hW := hW.frontM (i := 2) rfl rfl
      have hW := hW.frontM (i := 2) rfl rfl
      refine pt_end ?_
      exact ⟨b3, hF.re ⟨rfl, rfl, rfl, rfl, rfl, rfl, rfl, rfl, rfl, rfl, rfl, rfl, rfl, rfl, rfl, rfl, rfl, rfl, rfl, rfl, rfl, rfl, rfl, rfl, rfl, rfl, rfl, rfl, rfl, rfl, rfl, rfl, rfl, trivial⟩, hW⟩
     exact trivial
    rintro a w ⟨b3, hF, hW⟩
    refine c_then ?_
    refine c_seq ?_
    refine c_seqJ (fun a w => Fr 98 [] [(0, v1), (1, .int .i64 p1), (4, .bool false), (5, v2), (6, .pointer (some ⟨b1, 0, none⟩)), (7, .int .i64 x12), (10, .pointer (some ⟨b3, 0, none⟩)), (58, .bool (!(decide (x23.1.1 = ((L36_State x25.1).1) ∧ x23.1.2.1 = ((L36_State x25.1).2.1) ∧ x23.1.2.2.1 = ((L36_State x25.1).2.2.1) ∧ x23.1.2.2.2.1 = ((L36_State x25.1).2.2.2.1) ∧ x23.1.2.2.2.2.1 = ((L36_State x25.1).2.2.2.2.1) ∧ x23.1.2.2.2.2.2.1 = ((L36_State x25.1).2.2.2.2.2.1) ∧ x23.1.2.2.2.2.2.2.1 = ((L36_State x25.1).2.2.2.2.2.2.1) ∧ x23.1.2.2.2.2.2.2.2.1 = ((L36_State x25.1).2.2.2.2.2.2.2.1) ∧ x23.1.2.2.2.2.2.2.2.2 = ((L36_State x25.1).2.2.2.2.2.2.2.2))) || decide (x23.2 ≠ x25.2)))] a ∧ Stw ⟨Y, [], w0⟩ [(b3, [.int .i64 x25.1.1, .int .i64 x25.1.2.1, .bool x25.1.2.2.1, .int .i64 x25.1.2.2.2.1, .int .i64 x25.1.2.2.2.2.1, .int .i64 x25.1.2.2.2.2.2.1, .bool x25.1.2.2.2.2.2.2.1, .bool x25.1.2.2.2.2.2.2.2.1, .int .i64 x25.1.2.2.2.2.2.2.2.2]), (b2, [.int .i64 x23.1.1, .int .i64 x23.1.2.1, .bool x23.1.2.2.1, .int .i64 x23.1.2.2.2.1, .int .i64 x23.1.2.2.2.2.1, .int .i64 x23.1.2.2.2.2.2.1, .bool x23.1.2.2.2.2.2.2.1, .bool x23.1.2.2.2.2.2.2.2.1, .int .i64 x23.1.2.2.2.2.2.2.2.2]), (b1, [.int .i64 x13, .int .i64 x14, .bool x15, .int .i64 x16, .int .i64 x17, .int .i64 x18, .bool x19, .bool x20, .int .i64 x21])] [row v2 34 R34 x2] w) ?_ ?_
    ·
     refine reg_quiet hW MO (by kernel_rfl) ?_
     refine qs hF rfl ((y_load (v := Value.agg #[.int .i64 x23.1.1, .int .i64 x23.1.2.1, .bool x23.1.2.2.1, .int .i64 x23.1.2.2.2.1, .int .i64 x23.1.2.2.2.2.1, .int .i64 x23.1.2.2.2.2.2.1, .bool x23.1.2.2.2.2.2.2.1, .bool x23.1.2.2.2.2.2.2.2.1, .int .i64 x23.1.2.2.2.2.2.2.2.2]) 1 hF rfl rfl T28 rfl).q) (fun a hF => ?_)
     refine qs hF rfl ((y_load (v := Value.agg #[.int .i64 x25.1.1, .int .i64 x25.1.2.1, .bool x25.1.2.2.1, .int .i64 x25.1.2.2.2.1, .int .i64 x25.1.2.2.2.2.1, .int .i64 x25.1.2.2.2.2.2.1, .bool x25.1.2.2.2.2.2.2.1, .bool x25.1.2.2.2.2.2.2.2.1, .int .i64 x25.1.2.2.2.2.2.2.2.2]) 0 hF rfl rfl T27 rfl).q) (fun a hF => ?_)
     refine qs hF rfl (y_call (v := Value.agg #[.int .i64 ((L36_State x25.1).1), .int .i64 ((L36_State x25.1).2.1), .bool ((L36_State x25.1).2.2.1), .int .i64 ((L36_State x25.1).2.2.2.1), .int .i64 ((L36_State x25.1).2.2.2.2.1), .int .i64 ((L36_State x25.1).2.2.2.2.2.1), .bool ((L36_State x25.1).2.2.2.2.2.2.1), .bool ((L36_State x25.1).2.2.2.2.2.2.2.1), .int .i64 ((L36_State x25.1).2.2.2.2.2.2.2.2)]) hF H9 rfl (fun w hW => L36_State_c any w x25.1 _ rfl)) (fun a hF => ?_)
     refine qs hF rfl ((y_nea (t := decide (x23.1.1 = ((L36_State x25.1).1) ∧ x23.1.2.1 = ((L36_State x25.1).2.1) ∧ x23.1.2.2.1 = ((L36_State x25.1).2.2.1) ∧ x23.1.2.2.2.1 = ((L36_State x25.1).2.2.2.1) ∧ x23.1.2.2.2.2.1 = ((L36_State x25.1).2.2.2.2.1) ∧ x23.1.2.2.2.2.2.1 = ((L36_State x25.1).2.2.2.2.2.1) ∧ x23.1.2.2.2.2.2.2.1 = ((L36_State x25.1).2.2.2.2.2.2.1) ∧ x23.1.2.2.2.2.2.2.2.1 = ((L36_State x25.1).2.2.2.2.2.2.2.1) ∧ x23.1.2.2.2.2.2.2.2.2 = ((L36_State x25.1).2.2.2.2.2.2.2.2))) G28 (Q28 _ _ _ _ _ _ _ _ _ _ _ _ _ _ _ _ _ _) hF rfl rfl).q) (fun a hF => ?_)
     refine qs hF rfl ((y_move hF rfl).q) (fun a hF => ?_)
     rcases Bool.eq_false_or_eq_true (!(decide (x23.1.1 = ((L36_State x25.1).1) ∧ x23.1.2.1 = ((L36_State x25.1).2.1) ∧ x23.1.2.2.1 = ((L36_State x25.1).2.2.1) ∧ x23.1.2.2.2.1 = ((L36_State x25.1).2.2.2.1) ∧ x23.1.2.2.2.2.1 = ((L36_State x25.1).2.2.2.2.1) ∧ x23.1.2.2.2.2.2.1 = ((L36_State x25.1).2.2.2.2.2.1) ∧ x23.1.2.2.2.2.2.2.1 = ((L36_State x25.1).2.2.2.2.2.2.1) ∧ x23.1.2.2.2.2.2.2.2.1 = ((L36_State x25.1).2.2.2.2.2.2.2.1) ∧ x23.1.2.2.2.2.2.2.2.2 = ((L36_State x25.1).2.2.2.2.2.2.2.2)))) with hb0 | hb0
     ·
      rw [hb0] at hF
      iterate 3 refine qs_skip hF (wanted_n hF rfl rfl rfl rfl rfl) rfl rfl (fun a hF => ?_)
      refine qs hF rfl ((y_pick_t hF rfl rfl rfl).q) (fun a hF => ?_)
      refine quiet_end (fun w hW => ?_)
      refine c_then ?_
      exact ⟨hF.re ⟨rfl, rfl, rfl, rfl, rfl, rfl, rfl, (by show some (Value.bool true) = some (Value.bool (!(decide (x23.1.1 = ((L36_State x25.1).1) ∧ x23.1.2.1 = ((L36_State x25.1).2.1) ∧ x23.1.2.2.1 = ((L36_State x25.1).2.2.1) ∧ x23.1.2.2.2.1 = ((L36_State x25.1).2.2.2.1) ∧ x23.1.2.2.2.2.1 = ((L36_State x25.1).2.2.2.2.1) ∧ x23.1.2.2.2.2.2.1 = ((L36_State x25.1).2.2.2.2.2.1) ∧ x23.1.2.2.2.2.2.2.1 = ((L36_State x25.1).2.2.2.2.2.2.1) ∧ x23.1.2.2.2.2.2.2.2.1 = ((L36_State x25.1).2.2.2.2.2.2.2.1) ∧ x23.1.2.2.2.2.2.2.2.2 = ((L36_State x25.1).2.2.2.2.2.2.2.2))) || decide (x23.2 ≠ x25.2))); try rw [hb0]; all_goals simp only [Bool.not_true, Bool.not_false, Bool.true_and, Bool.false_and, Bool.true_or, Bool.false_or, Bool.and_true, Bool.or_false, cond_true, cond_false]), trivial⟩, hW⟩
     ·
      rw [hb0] at hF
      iterate 2 refine qs_w hF (wanted_y hF rfl rfl rfl rfl) rfl (Nat.le_of_ble_eq_true rfl) ((y_move hF rfl).q) (fun a hF => ?_)
      refine qs_w hF (wanted_y hF rfl rfl rfl rfl) rfl (Nat.le_of_ble_eq_true rfl) ((y_neq hF rfl rfl).q) (fun a hF => ?_)
      refine qs hF rfl ((y_pick_f hF rfl rfl rfl).q) (fun a hF => ?_)
      refine quiet_end (fun w hW => ?_)
      refine c_then ?_
      exact ⟨hF.re ⟨rfl, rfl, rfl, rfl, rfl, rfl, rfl, (by show some (Value.bool (decide (x23.2 ≠ x25.2))) = some (Value.bool (!(decide (x23.1.1 = ((L36_State x25.1).1) ∧ x23.1.2.1 = ((L36_State x25.1).2.1) ∧ x23.1.2.2.1 = ((L36_State x25.1).2.2.1) ∧ x23.1.2.2.2.1 = ((L36_State x25.1).2.2.2.1) ∧ x23.1.2.2.2.2.1 = ((L36_State x25.1).2.2.2.2.1) ∧ x23.1.2.2.2.2.2.1 = ((L36_State x25.1).2.2.2.2.2.1) ∧ x23.1.2.2.2.2.2.2.1 = ((L36_State x25.1).2.2.2.2.2.2.1) ∧ x23.1.2.2.2.2.2.2.2.1 = ((L36_State x25.1).2.2.2.2.2.2.2.1) ∧ x23.1.2.2.2.2.2.2.2.2 = ((L36_State x25.1).2.2.2.2.2.2.2.2))) || decide (x23.2 ≠ x25.2))); try rw [hb0]; all_goals simp only [Bool.not_true, Bool.not_false, Bool.true_and, Bool.false_and, Bool.true_or, Bool.false_or, Bool.and_true, Bool.or_false, cond_true, cond_false]), trivial⟩, hW⟩
    rintro a w ⟨hF, hW⟩
    refine c_cond hF rfl (fun hb => ?_) (fun hb => ?_)
    ·
     have H := iteT hb H
     rw [hb] at hF
     clear hb
     refine c_seq (reg_list ?_)
     refine ls hF hW rfl ((y_assign hF rfl).q) (fun a w hF hW => ?_)
     refine ls_nil (c_then ?_)
     refine wr_ret ?_
     refine r_then ?_
     refine r_block ?_
     iterate 2 refine r_then ?_
     refine r_block ?_
     refine r_then ?_
     have H := L2 _ H
     have H := L1 _ H
     have H := Option.some.inj H
     subst H
     refine post1 (.inl rfl) hF hW rfl (rv_tmp hF rfl) ?_
     exact ⟨rfl, hW.done⟩
    ·
     have H := iteF (by rw [hb]; decide) H
     rw [hb] at hF
     clear hb
     refine wr_skip ?_
     refine c_then ?_
     refine reg_list ?_
     refine ls hF hW rfl ((y_load (v := Value.agg #[.int .i64 x25.1.1, .int .i64 x25.1.2.1, .bool x25.1.2.2.1, .int .i64 x25.1.2.2.2.1, .int .i64 x25.1.2.2.2.2.1, .int .i64 x25.1.2.2.2.2.2.1, .bool x25.1.2.2.2.2.2.2.1, .bool x25.1.2.2.2.2.2.2.2.1, .int .i64 x25.1.2.2.2.2.2.2.2.2]) 0 hF rfl rfl T27 rfl).q) (fun a w hF hW => ?_)
     refine l_store (vs := [.int .i64 x25.1.1, .int .i64 x25.1.2.1, .bool x25.1.2.2.1, .int .i64 x25.1.2.2.2.1, .int .i64 x25.1.2.2.2.2.1, .int .i64 x25.1.2.2.2.2.2.1, .bool x25.1.2.2.2.2.2.2.1, .bool x25.1.2.2.2.2.2.2.2.1, .int .i64 x25.1.2.2.2.2.2.2.2.2]) (M' := [(b3, [.int .i64 x25.1.1, .int .i64 x25.1.2.1, .bool x25.1.2.2.1, .int .i64 x25.1.2.2.2.1, .int .i64 x25.1.2.2.2.2.1, .int .i64 x25.1.2.2.2.2.2.1, .bool x25.1.2.2.2.2.2.2.1, .bool x25.1.2.2.2.2.2.2.2.1, .int .i64 x25.1.2.2.2.2.2.2.2.2]), (b2, [.int .i64 x23.1.1, .int .i64 x23.1.2.1, .bool x23.1.2.2.1, .int .i64 x23.1.2.2.2.1, .int .i64 x23.1.2.2.2.2.1, .int .i64 x23.1.2.2.2.2.2.1, .bool x23.1.2.2.2.2.2.2.1, .bool x23.1.2.2.2.2.2.2.2.1, .int .i64 x23.1.2.2.2.2.2.2.2.2]), (b1, [.int .i64 x25.1.1, .int .i64 x25.1.2.1, .bool x25.1.2.2.1, .int .i64 x25.1.2.2.2.1, .int .i64 x25.1.2.2.2.2.1, .int .i64 x25.1.2.2.2.2.2.1, .bool x25.1.2.2.2.2.2.2.1, .bool x25.1.2.2.2.2.2.2.2.1, .int .i64 x25.1.2.2.2.2.2.2.2.2])]) 2 hF hW rfl rfl rfl T27 rfl rfl rfl rfl rfl (fun w hW => ?_)
     refine ls_nil ?_
     refine b_normal ?_
     refine c_then ?_
     refine reg_list ?_
     refine ls hF hW rfl ((y_move hF rfl).q) (fun a w hF hW => ?_)
     refine ls hF hW rfl ((y_add hF rfl rfl rfl).q) (fun a w hF hW => ?_)
     refine ls hF hW rfl ((y_assign hF rfl).q) (fun a w hF hW => ?_)
     refine ls_nil (c_then ?_)
     have hW := hW.frontM (i := 2) rfl rfl
     have hW := hW.sub (M' := [(b1, [.int .i64 x25.1.1, .int .i64 x25.1.2.1, .bool x25.1.2.2.1, .int .i64 x25.1.2.2.2.1, .int .i64 x25.1.2.2.2.2.1, .int .i64 x25.1.2.2.2.2.2.1, .bool x25.1.2.2.2.2.2.2.1, .bool x25.1.2.2.2.2.2.2.2.1, .int .i64 x25.1.2.2.2.2.2.2.2.2])]) (Z' := [row v2 34 R34 x2]) (List.Sublist.cons_cons _ (List.nil_sublist _)) (List.Sublist.refl _)
     exact ⟨_, H, hF.re ⟨rfl, rfl, rfl, rfl, rfl, rfl, trivial⟩, hW⟩
   ·
    have H := iteF (of_decide_eq_false hb) H
    rw [hb] at hF
    clear hb
    refine wr_exit ?_
    iterate 2 refine e_then ?_
    refine e_block ?_
    refine c_then ?_
    have H := L2 _ H
    exact ⟨_, _, _, _, _, _, _, _, _, H, hF.re ⟨rfl, rfl, rfl, rfl, trivial⟩, hW⟩
  rintro a w ⟨x3, x4, x5, x6, x7, x8, x9, x10, x11, hj, hF, hW⟩
  have H := K1 _ hj
  clear hj G1 K1 L1
  refine c_seq (reg_list ?_)
  refine ls hF hW rfl ((y_move hF rfl).q) (fun a w hF hW => ?_)
  obtain ⟨x26, h7, H⟩ := bindE H
  refine ls hF hW rfl (y_call (v := Value.tuple #[.agg #[.int .i64 x26.1.1, .int .i64 x26.1.2.1, .bool x26.1.2.2.1, .int .i64 x26.1.2.2.2.1, .int .i64 x26.1.2.2.2.2.1, .int .i64 x26.1.2.2.2.2.2.1, .bool x26.1.2.2.2.2.2.2.1, .bool x26.1.2.2.2.2.2.2.2.1, .int .i64 x26.1.2.2.2.2.2.2.2.2], .int .i64 x26.2.1, .int .i64 x26.2.2]) hF H11 rfl (fun w hW => journal_Replay_c any w (v2) x2 _ h7 (((rdc_row 0 rfl) : Rdc _ _ _ _ _ _) w hW).nx)) (fun a w hF hW => ?_)
  refine ls hF hW rfl ((y_move hF rfl).q) (fun a w hF hW => ?_)
  refine ls hF hW rfl ((y_extract (v := Value.agg #[.int .i64 x26.1.1, .int .i64 x26.1.2.1, .bool x26.1.2.2.1, .int .i64 x26.1.2.2.2.1, .int .i64 x26.1.2.2.2.2.1, .int .i64 x26.1.2.2.2.2.2.1, .bool x26.1.2.2.2.2.2.2.1, .bool x26.1.2.2.2.2.2.2.2.1, .int .i64 x26.1.2.2.2.2.2.2.2.2]) hF rfl rfl).q) (fun a w hF hW => ?_)
  refine ls hF hW rfl ((y_extract (v := Value.int .i64 x26.2.1) hF rfl rfl).q) (fun a w hF hW => ?_)
  refine ls hF hW rfl ((y_extract (v := Value.int .i64 x26.2.2) hF rfl rfl).q) (fun a w hF hW => ?_)
  refine l_alloc (cs := [.int .i64 0, .int .i64 0, .bool false, .int .i64 0, .int .i64 0, .int .i64 0, .bool false, .bool false, .int .i64 0]) hF hW rfl Z28 rfl (fun b4 a w hF hW => ?_)
  refine l_store (vs := [.int .i64 x26.1.1, .int .i64 x26.1.2.1, .bool x26.1.2.2.1, .int .i64 x26.1.2.2.2.1, .int .i64 x26.1.2.2.2.2.1, .int .i64 x26.1.2.2.2.2.2.1, .bool x26.1.2.2.2.2.2.2.1, .bool x26.1.2.2.2.2.2.2.2.1, .int .i64 x26.1.2.2.2.2.2.2.2.2]) (M' := [(b4, [.int .i64 x26.1.1, .int .i64 x26.1.2.1, .bool x26.1.2.2.1, .int .i64 x26.1.2.2.2.1, .int .i64 x26.1.2.2.2.2.1, .int .i64 x26.1.2.2.2.2.2.1, .bool x26.1.2.2.2.2.2.2.1, .bool x26.1.2.2.2.2.2.2.2.1, .int .i64 x26.1.2.2.2.2.2.2.2.2]), (b1, [.int .i64 x3, .int .i64 x4, .bool x5, .int .i64 x6, .int .i64 x7, .int .i64 x8, .bool x9, .bool x10, .int .i64 x11])]) 0 hF hW rfl rfl rfl T28 rfl rfl rfl rfl rfl (fun w hW => ?_)
  iterate 2 refine ls hF hW rfl ((y_assign hF rfl).q) (fun a w hF hW => ?_)
  refine ls_nil (c_then ?_)
  refine c_seq (reg_list ?_)
  refine ls hF hW rfl ((y_move hF rfl).q) (fun a w hF hW => ?_)
  obtain ⟨x27, h8, H⟩ := bindE H
  refine ls hF hW rfl (y_call (v := Value.tuple #[.agg #[.int .i64 x27.1.1, .int .i64 x27.1.2.1, .bool x27.1.2.2.1, .int .i64 x27.1.2.2.2.1, .int .i64 x27.1.2.2.2.2.1, .int .i64 x27.1.2.2.2.2.2.1, .bool x27.1.2.2.2.2.2.2.1, .bool x27.1.2.2.2.2.2.2.2.1, .int .i64 x27.1.2.2.2.2.2.2.2.2], .int .i64 x27.2.1, .int .i64 x27.2.2]) hF H12 rfl (fun w hW => r36_Replay_c any w (v1) p0 _ h8 (((rdc_ro h_v1) : Rdc _ _ _ _ _ _) w hW).nx)) (fun a w hF hW => ?_)
  refine ls hF hW rfl ((y_move hF rfl).q) (fun a w hF hW => ?_)
  refine ls hF hW rfl ((y_extract (v := Value.agg #[.int .i64 x27.1.1, .int .i64 x27.1.2.1, .bool x27.1.2.2.1, .int .i64 x27.1.2.2.2.1, .int .i64 x27.1.2.2.2.2.1, .int .i64 x27.1.2.2.2.2.2.1, .bool x27.1.2.2.2.2.2.2.1, .bool x27.1.2.2.2.2.2.2.2.1, .int .i64 x27.1.2.2.2.2.2.2.2.2]) hF rfl rfl).q) (fun a w hF hW => ?_)
  refine ls hF hW rfl ((y_extract (v := Value.int .i64 x27.2.1) hF rfl rfl).q) (fun a w hF hW => ?_)
  refine ls hF hW rfl ((y_extract (v := Value.int .i64 x27.2.2) hF rfl rfl).q) (fun a w hF hW => ?_)
  refine l_alloc (cs := [.int .i64 0, .int .i64 0, .bool false, .int .i64 0, .int .i64 0, .int .i64 0, .bool false, .bool false, .int .i64 0]) hF hW rfl Z27 rfl (fun b5 a w hF hW => ?_)
  refine l_store (vs := [.int .i64 x27.1.1, .int .i64 x27.1.2.1, .bool x27.1.2.2.1, .int .i64 x27.1.2.2.2.1, .int .i64 x27.1.2.2.2.2.1, .int .i64 x27.1.2.2.2.2.2.1, .bool x27.1.2.2.2.2.2.2.1, .bool x27.1.2.2.2.2.2.2.2.1, .int .i64 x27.1.2.2.2.2.2.2.2.2]) (M' := [(b5, [.int .i64 x27.1.1, .int .i64 x27.1.2.1, .bool x27.1.2.2.1, .int .i64 x27.1.2.2.2.1, .int .i64 x27.1.2.2.2.2.1, .int .i64 x27.1.2.2.2.2.2.1, .bool x27.1.2.2.2.2.2.2.1, .bool x27.1.2.2.2.2.2.2.2.1, .int .i64 x27.1.2.2.2.2.2.2.2.2]), (b4, [.int .i64 x26.1.1, .int .i64 x26.1.2.1, .bool x26.1.2.2.1, .int .i64 x26.1.2.2.2.1, .int .i64 x26.1.2.2.2.2.1, .int .i64 x26.1.2.2.2.2.2.1, .bool x26.1.2.2.2.2.2.2.1, .bool x26.1.2.2.2.2.2.2.2.1, .int .i64 x26.1.2.2.2.2.2.2.2.2]), (b1, [.int .i64 x3, .int .i64 x4, .bool x5, .int .i64 x6, .int .i64 x7, .int .i64 x8, .bool x9, .bool x10, .int .i64 x11])]) 0 hF hW rfl rfl rfl T27 rfl rfl rfl rfl rfl (fun w hW => ?_)
  iterate 2 refine ls hF hW rfl ((y_assign hF rfl).q) (fun a w hF hW => ?_)
  refine ls_nil (c_then ?_)
  obtain ⟨o3, G3, K3⟩ := bindE H
  refine c_seqJ (fun a w => ∃ x28 : Bool, some (x28) = some o3 ∧ Fr 98 [] [(4, .bool x28)] a ∧ Stw ⟨Y, [], w0⟩ [(b5, [.int .i64 x27.1.1, .int .i64 x27.1.2.1, .bool x27.1.2.2.1, .int .i64 x27.1.2.2.2.1, .int .i64 x27.1.2.2.2.2.1, .int .i64 x27.1.2.2.2.2.2.1, .bool x27.1.2.2.2.2.2.2.1, .bool x27.1.2.2.2.2.2.2.2.1, .int .i64 x27.1.2.2.2.2.2.2.2.2]), (b4, [.int .i64 x26.1.1, .int .i64 x26.1.2.1, .bool x26.1.2.2.1, .int .i64 x26.1.2.2.2.1, .int .i64 x26.1.2.2.2.2.1, .int .i64 x26.1.2.2.2.2.2.1, .bool x26.1.2.2.2.2.2.2.1, .bool x26.1.2.2.2.2.2.2.2.1, .int .i64 x26.1.2.2.2.2.2.2.2.2]), (b1, [.int .i64 x3, .int .i64 x4, .bool x5, .int .i64 x6, .int .i64 x7, .int .i64 x8, .bool x9, .bool x10, .int .i64 x11])] [] w) ?_ ?_
  ·
   have H := G3
   clear G3 K3
   refine reg_quiet hW MO (by kernel_rfl) ?_
   refine qs hF rfl ((y_load (v := Value.agg #[.int .i64 x26.1.1, .int .i64 x26.1.2.1, .bool x26.1.2.2.1, .int .i64 x26.1.2.2.2.1, .int .i64 x26.1.2.2.2.2.1, .int .i64 x26.1.2.2.2.2.2.1, .bool x26.1.2.2.2.2.2.2.1, .bool x26.1.2.2.2.2.2.2.2.1, .int .i64 x26.1.2.2.2.2.2.2.2.2]) 1 hF rfl rfl T28 rfl).q) (fun a hF => ?_)
   refine qs hF rfl ((y_load (v := Value.agg #[.int .i64 x27.1.1, .int .i64 x27.1.2.1, .bool x27.1.2.2.1, .int .i64 x27.1.2.2.2.1, .int .i64 x27.1.2.2.2.2.1, .int .i64 x27.1.2.2.2.2.2.1, .bool x27.1.2.2.2.2.2.2.1, .bool x27.1.2.2.2.2.2.2.2.1, .int .i64 x27.1.2.2.2.2.2.2.2.2]) 0 hF rfl rfl T27 rfl).q) (fun a hF => ?_)
   refine qs hF rfl (y_call (v := Value.agg #[.int .i64 ((L36_State x27.1).1), .int .i64 ((L36_State x27.1).2.1), .bool ((L36_State x27.1).2.2.1), .int .i64 ((L36_State x27.1).2.2.2.1), .int .i64 ((L36_State x27.1).2.2.2.2.1), .int .i64 ((L36_State x27.1).2.2.2.2.2.1), .bool ((L36_State x27.1).2.2.2.2.2.2.1), .bool ((L36_State x27.1).2.2.2.2.2.2.2.1), .int .i64 ((L36_State x27.1).2.2.2.2.2.2.2.2)]) hF H9 rfl (fun w hW => L36_State_c any w x27.1 _ rfl)) (fun a hF => ?_)
   refine qs hF rfl ((y_eqa (t := decide (x26.1.1 = ((L36_State x27.1).1) ∧ x26.1.2.1 = ((L36_State x27.1).2.1) ∧ x26.1.2.2.1 = ((L36_State x27.1).2.2.1) ∧ x26.1.2.2.2.1 = ((L36_State x27.1).2.2.2.1) ∧ x26.1.2.2.2.2.1 = ((L36_State x27.1).2.2.2.2.1) ∧ x26.1.2.2.2.2.2.1 = ((L36_State x27.1).2.2.2.2.2.1) ∧ x26.1.2.2.2.2.2.2.1 = ((L36_State x27.1).2.2.2.2.2.2.1) ∧ x26.1.2.2.2.2.2.2.2.1 = ((L36_State x27.1).2.2.2.2.2.2.2.1) ∧ x26.1.2.2.2.2.2.2.2.2 = ((L36_State x27.1).2.2.2.2.2.2.2.2))) G28 (Q28 _ _ _ _ _ _ _ _ _ _ _ _ _ _ _ _ _ _) hF rfl rfl).q) (fun a hF => ?_)
   refine qs hF rfl ((y_move hF rfl).q) (fun a hF => ?_)
   rcases Bool.eq_false_or_eq_true (decide (x26.1.1 = ((L36_State x27.1).1) ∧ x26.1.2.1 = ((L36_State x27.1).2.1) ∧ x26.1.2.2.1 = ((L36_State x27.1).2.2.1) ∧ x26.1.2.2.2.1 = ((L36_State x27.1).2.2.2.1) ∧ x26.1.2.2.2.2.1 = ((L36_State x27.1).2.2.2.2.1) ∧ x26.1.2.2.2.2.2.1 = ((L36_State x27.1).2.2.2.2.2.1) ∧ x26.1.2.2.2.2.2.2.1 = ((L36_State x27.1).2.2.2.2.2.2.1) ∧ x26.1.2.2.2.2.2.2.2.1 = ((L36_State x27.1).2.2.2.2.2.2.2.1) ∧ x26.1.2.2.2.2.2.2.2.2 = ((L36_State x27.1).2.2.2.2.2.2.2.2))) with hb | hb
   ·
    have H := iteT (of_decide_eq_true hb) H
    rw [hb] at hF
    clear hb
    iterate 2 refine qs_w hF (wanted_y hF rfl rfl rfl rfl) rfl (Nat.le_of_ble_eq_true rfl) ((y_move hF rfl).q) (fun a hF => ?_)
    refine qs_w hF (wanted_y hF rfl rfl rfl rfl) rfl (Nat.le_of_ble_eq_true rfl) ((y_eql hF rfl rfl).q) (fun a hF => ?_)
    refine qs hF rfl ((y_pick_t hF rfl rfl rfl).q) (fun a hF => ?_)
    refine qs hF rfl ((y_move hF rfl).q) (fun a hF => ?_)
    rcases Bool.eq_false_or_eq_true (decide (x26.2.1 = x27.2.1)) with hb | hb
    ·
     have H := iteT (of_decide_eq_true hb) H
     rw [hb] at hF
     clear hb
     iterate 2 refine qs_w hF (wanted_y hF rfl rfl rfl rfl) rfl (Nat.le_of_ble_eq_true rfl) ((y_move hF rfl).q) (fun a hF => ?_)
     refine qs_w hF (wanted_y hF rfl rfl rfl rfl) rfl (Nat.le_of_ble_eq_true rfl) ((y_eql hF rfl rfl).q) (fun a hF => ?_)
     refine qs hF rfl ((y_pick_t hF rfl rfl rfl).q) (fun a hF => ?_)
     refine qs hF rfl ((y_move hF rfl).q) (fun a hF => ?_)
     rcases Bool.eq_false_or_eq_true (decide (x26.2.2 = x27.2.2)) with hb | hb
     ·
      have H := iteT (of_decide_eq_true hb) H
      rw [hb] at hF
      clear hb
      iterate 2 refine qs_w hF (wanted_y hF rfl rfl rfl rfl) rfl (Nat.le_of_ble_eq_true rfl) ((y_move hF rfl).q) (fun a hF => ?_)
      obtain ⟨x29, h9, H⟩ := bindE H
      refine qs_w hF (wanted_y hF rfl rfl rfl rfl) rfl (Nat.le_of_ble_eq_true rfl) (y_call (v := Value.int .i64 x29) hF H13 rfl (fun w hW => journal_Fate_c any w (v2) x2 p1 _ h9 (((rdc_row 0 rfl) : Rdc _ _ _ _ _ _) w hW).nx)) (fun a hF => ?_)
      iterate 2 refine qs_w hF (wanted_y hF rfl rfl rfl rfl) rfl (Nat.le_of_ble_eq_true rfl) ((y_move hF rfl).q) (fun a hF => ?_)
      obtain ⟨x30, h10, H⟩ := bindE H
      refine qs_w hF (wanted_y hF rfl rfl rfl rfl) rfl (Nat.le_of_ble_eq_true rfl) (y_call (v := Value.int .i64 x30) hF H14 rfl (fun w hW => r36_Fate_c any w (v1) p0 p1 _ h10 (((rdc_ro h_v1) : Rdc _ _ _ _ _ _) w hW).nx)) (fun a hF => ?_)
      refine qs_w hF (wanted_y hF rfl rfl rfl rfl) rfl (Nat.le_of_ble_eq_true rfl) ((y_eql hF rfl rfl).q) (fun a hF => ?_)
      refine qs hF rfl ((y_pick_t hF rfl rfl rfl).q) (fun a hF => ?_)
      refine qs hF rfl ((y_move hF rfl).q) (fun a hF => ?_)
      rcases Bool.eq_false_or_eq_true (decide (x29 = x30)) with hb | hb
      ·
       have H := iteT (of_decide_eq_true hb) H
       rw [hb] at hF
       clear hb
       obtain ⟨x31, h11, H⟩ := bindE H
       refine qs_w hF (wanted_y hF rfl rfl rfl rfl) rfl (Nat.le_of_ble_eq_true rfl) (y_call (v := Value.bool x31) hF H6 rfl (fun w hW => L36_awake_c any w _ h11 (hG.go0 hW))) (fun a hF => ?_)
       refine qs hF rfl ((y_pick_t hF rfl rfl rfl).q) (fun a hF => ?_)
       refine qs hF rfl ((y_assign hF rfl).q) (fun a hF => ?_)
       refine quiet_end (fun w hW => ?_)
       refine c_then ?_
       have hW := hW.frontM (i := 2) rfl rfl
       have hW := hW.frontM (i := 2) rfl rfl
       have hW := hW.frontM (i := 2) rfl rfl
       have hW := hW.sub (M' := [(b5, [.int .i64 x27.1.1, .int .i64 x27.1.2.1, .bool x27.1.2.2.1, .int .i64 x27.1.2.2.2.1, .int .i64 x27.1.2.2.2.2.1, .int .i64 x27.1.2.2.2.2.2.1, .bool x27.1.2.2.2.2.2.2.1, .bool x27.1.2.2.2.2.2.2.2.1, .int .i64 x27.1.2.2.2.2.2.2.2.2]), (b4, [.int .i64 x26.1.1, .int .i64 x26.1.2.1, .bool x26.1.2.2.1, .int .i64 x26.1.2.2.2.1, .int .i64 x26.1.2.2.2.2.1, .int .i64 x26.1.2.2.2.2.2.1, .bool x26.1.2.2.2.2.2.2.1, .bool x26.1.2.2.2.2.2.2.2.1, .int .i64 x26.1.2.2.2.2.2.2.2.2]), (b1, [.int .i64 x3, .int .i64 x4, .bool x5, .int .i64 x6, .int .i64 x7, .int .i64 x8, .bool x9, .bool x10, .int .i64 x11])]) (Z' := []) (List.Sublist.refl _) (List.nil_sublist _)
       exact ⟨_, H, hF.re ⟨rfl, trivial⟩, hW⟩
      ·
       have H := iteF (of_decide_eq_false hb) H
       rw [hb] at hF
       clear hb
       refine qs_skip hF (wanted_n hF rfl rfl rfl rfl rfl) rfl rfl (fun a hF => ?_)
       refine qs hF rfl ((y_pick_f hF rfl rfl rfl).q) (fun a hF => ?_)
       refine qs hF rfl ((y_assign hF rfl).q) (fun a hF => ?_)
       refine quiet_end (fun w hW => ?_)
       refine c_then ?_
       have hW := hW.frontM (i := 2) rfl rfl
       have hW := hW.frontM (i := 2) rfl rfl
       have hW := hW.frontM (i := 2) rfl rfl
       have hW := hW.sub (M' := [(b5, [.int .i64 x27.1.1, .int .i64 x27.1.2.1, .bool x27.1.2.2.1, .int .i64 x27.1.2.2.2.1, .int .i64 x27.1.2.2.2.2.1, .int .i64 x27.1.2.2.2.2.2.1, .bool x27.1.2.2.2.2.2.2.1, .bool x27.1.2.2.2.2.2.2.2.1, .int .i64 x27.1.2.2.2.2.2.2.2.2]), (b4, [.int .i64 x26.1.1, .int .i64 x26.1.2.1, .bool x26.1.2.2.1, .int .i64 x26.1.2.2.2.1, .int .i64 x26.1.2.2.2.2.1, .int .i64 x26.1.2.2.2.2.2.1, .bool x26.1.2.2.2.2.2.2.1, .bool x26.1.2.2.2.2.2.2.2.1, .int .i64 x26.1.2.2.2.2.2.2.2.2]), (b1, [.int .i64 x3, .int .i64 x4, .bool x5, .int .i64 x6, .int .i64 x7, .int .i64 x8, .bool x9, .bool x10, .int .i64 x11])]) (Z' := []) (List.Sublist.refl _) (List.nil_sublist _)
       exact ⟨_, H, hF.re ⟨rfl, trivial⟩, hW⟩
     ·
      have H := iteF (of_decide_eq_false hb) H
      rw [hb] at hF
      clear hb
      iterate 7 refine qs_skip hF (wanted_n hF rfl rfl rfl rfl rfl) rfl rfl (fun a hF => ?_)
      refine qs hF rfl ((y_pick_f hF rfl rfl rfl).q) (fun a hF => ?_)
      refine qs hF rfl ((y_move hF rfl).q) (fun a hF => ?_)
      refine qs_skip hF (wanted_n hF rfl rfl rfl rfl rfl) rfl rfl (fun a hF => ?_)
      refine qs hF rfl ((y_pick_f hF rfl rfl rfl).q) (fun a hF => ?_)
      refine qs hF rfl ((y_assign hF rfl).q) (fun a hF => ?_)
      refine quiet_end (fun w hW => ?_)
      refine c_then ?_
      have hW := hW.frontM (i := 2) rfl rfl
      have hW := hW.frontM (i := 2) rfl rfl
      have hW := hW.frontM (i := 2) rfl rfl
      have hW := hW.sub (M' := [(b5, [.int .i64 x27.1.1, .int .i64 x27.1.2.1, .bool x27.1.2.2.1, .int .i64 x27.1.2.2.2.1, .int .i64 x27.1.2.2.2.2.1, .int .i64 x27.1.2.2.2.2.2.1, .bool x27.1.2.2.2.2.2.2.1, .bool x27.1.2.2.2.2.2.2.2.1, .int .i64 x27.1.2.2.2.2.2.2.2.2]), (b4, [.int .i64 x26.1.1, .int .i64 x26.1.2.1, .bool x26.1.2.2.1, .int .i64 x26.1.2.2.2.1, .int .i64 x26.1.2.2.2.2.1, .int .i64 x26.1.2.2.2.2.2.1, .bool x26.1.2.2.2.2.2.2.1, .bool x26.1.2.2.2.2.2.2.2.1, .int .i64 x26.1.2.2.2.2.2.2.2.2]), (b1, [.int .i64 x3, .int .i64 x4, .bool x5, .int .i64 x6, .int .i64 x7, .int .i64 x8, .bool x9, .bool x10, .int .i64 x11])]) (Z' := []) (List.Sublist.refl _) (List.nil_sublist _)
      exact ⟨_, H, hF.re ⟨rfl, trivial⟩, hW⟩
    ·
     have H := iteF (of_decide_eq_false hb) H
     rw [hb] at hF
     clear hb
     iterate 3 refine qs_skip hF (wanted_n hF rfl rfl rfl rfl rfl) rfl rfl (fun a hF => ?_)
     refine qs hF rfl ((y_pick_f hF rfl rfl rfl).q) (fun a hF => ?_)
     refine qs hF rfl ((y_move hF rfl).q) (fun a hF => ?_)
     iterate 7 refine qs_skip hF (wanted_n hF rfl rfl rfl rfl rfl) rfl rfl (fun a hF => ?_)
     refine qs hF rfl ((y_pick_f hF rfl rfl rfl).q) (fun a hF => ?_)
     refine qs hF rfl ((y_move hF rfl).q) (fun a hF => ?_)
     refine qs_skip hF (wanted_n hF rfl rfl rfl rfl rfl) rfl rfl (fun a hF => ?_)
     refine qs hF rfl ((y_pick_f hF rfl rfl rfl).q) (fun a hF => ?_)
     refine qs hF rfl ((y_assign hF rfl).q) (fun a hF => ?_)
     refine quiet_end (fun w hW => ?_)
     refine c_then ?_
     have hW := hW.frontM (i := 2) rfl rfl
     have hW := hW.frontM (i := 2) rfl rfl
     have hW := hW.frontM (i := 2) rfl rfl
     have hW := hW.sub (M' := [(b5, [.int .i64 x27.1.1, .int .i64 x27.1.2.1, .bool x27.1.2.2.1, .int .i64 x27.1.2.2.2.1, .int .i64 x27.1.2.2.2.2.1, .int .i64 x27.1.2.2.2.2.2.1, .bool x27.1.2.2.2.2.2.2.1, .bool x27.1.2.2.2.2.2.2.2.1, .int .i64 x27.1.2.2.2.2.2.2.2.2]), (b4, [.int .i64 x26.1.1, .int .i64 x26.1.2.1, .bool x26.1.2.2.1, .int .i64 x26.1.2.2.2.1, .int .i64 x26.1.2.2.2.2.1, .int .i64 x26.1.2.2.2.2.2.1, .bool x26.1.2.2.2.2.2.2.1, .bool x26.1.2.2.2.2.2.2.2.1, .int .i64 x26.1.2.2.2.2.2.2.2.2]), (b1, [.int .i64 x3, .int .i64 x4, .bool x5, .int .i64 x6, .int .i64 x7, .int .i64 x8, .bool x9, .bool x10, .int .i64 x11])]) (Z' := []) (List.Sublist.refl _) (List.nil_sublist _)
     exact ⟨_, H, hF.re ⟨rfl, trivial⟩, hW⟩
   ·
    have H := iteF (of_decide_eq_false hb) H
    rw [hb] at hF
    clear hb
    iterate 3 refine qs_skip hF (wanted_n hF rfl rfl rfl rfl rfl) rfl rfl (fun a hF => ?_)
    refine qs hF rfl ((y_pick_f hF rfl rfl rfl).q) (fun a hF => ?_)
    refine qs hF rfl ((y_move hF rfl).q) (fun a hF => ?_)
    iterate 3 refine qs_skip hF (wanted_n hF rfl rfl rfl rfl rfl) rfl rfl (fun a hF => ?_)
    refine qs hF rfl ((y_pick_f hF rfl rfl rfl).q) (fun a hF => ?_)
    refine qs hF rfl ((y_move hF rfl).q) (fun a hF => ?_)
    iterate 7 refine qs_skip hF (wanted_n hF rfl rfl rfl rfl rfl) rfl rfl (fun a hF => ?_)
    refine qs hF rfl ((y_pick_f hF rfl rfl rfl).q) (fun a hF => ?_)
    refine qs hF rfl ((y_move hF rfl).q) (fun a hF => ?_)
    refine qs_skip hF (wanted_n hF rfl rfl rfl rfl rfl) rfl rfl (fun a hF => ?_)
    refine qs hF rfl ((y_pick_f hF rfl rfl rfl).q) (fun a hF => ?_)
    refine qs hF rfl ((y_assign hF rfl).q) (fun a hF => ?_)
    refine quiet_end (fun w hW => ?_)
    refine c_then ?_
    have hW := hW.frontM (i := 2) rfl rfl
    have hW := hW.frontM (i := 2) rfl rfl
    have hW := hW.frontM (i := 2) rfl rfl
    have hW := hW.sub (M' := [(b5, [.int .i64 x27.1.1, .int .i64 x27.1.2.1, .bool x27.1.2.2.1, .int .i64 x27.1.2.2.2.1, .int .i64 x27.1.2.2.2.2.1, .int .i64 x27.1.2.2.2.2.2.1, .bool x27.1.2.2.2.2.2.2.1, .bool x27.1.2.2.2.2.2.2.2.1, .int .i64 x27.1.2.2.2.2.2.2.2.2]), (b4, [.int .i64 x26.1.1, .int .i64 x26.1.2.1, .bool x26.1.2.2.1, .int .i64 x26.1.2.2.2.1, .int .i64 x26.1.2.2.2.2.1, .int .i64 x26.1.2.2.2.2.2.1, .bool x26.1.2.2.2.2.2.2.1, .bool x26.1.2.2.2.2.2.2.2.1, .int .i64 x26.1.2.2.2.2.2.2.2.2]), (b1, [.int .i64 x3, .int .i64 x4, .bool x5, .int .i64 x6, .int .i64 x7, .int .i64 x8, .bool x9, .bool x10, .int .i64 x11])]) (Z' := []) (List.Sublist.refl _) (List.nil_sublist _)
    exact ⟨_, H, hF.re ⟨rfl, trivial⟩, hW⟩
  rintro a w ⟨x28, hj, hF, hW⟩
  have hj := Option.some.inj hj
  subst hj
  have H := K3
  clear G3 K3
  refine wr_ret ?_
  have H := Option.some.inj H
  subst H
  refine post1 (.inl rfl) hF hW rfl (rv_tmp hF rfl) ?_
  exact ⟨rfl, hW.done⟩

end Go.Proofs.YtdllfdmdfdfilaaDoor
