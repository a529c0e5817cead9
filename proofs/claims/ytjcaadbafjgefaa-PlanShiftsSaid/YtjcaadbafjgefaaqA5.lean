/- The functions of layer 24, lifted. Conditions: none. -/
import Derived.Test.YtjcaadbafjgefaaqA4
namespace Go.Proofs.Ytjcaadbafjgefaa
open Go Go.RowKit
set_option linter.unusedVariables false
set_option linter.unusedSimpArgs false
set_option maxRecDepth 20000
theorem u120_ : type_of% Try.underlying120 := Try.underlying120
theorem H57 : Has Try.prog 57 := ⟨fun args w => run_callFunc_body Try.func57 rfl (by decide) args w⟩
theorem Z120 : (Try.prog.info? 120).bind (·.zero) = some (.agg #[.slice none 0 0, .slice none 0 0, .int .i64 0]) := by kernel_rfl
theorem B120 : Bt Try.prog 120 [.slice none 0 0, .slice none 0 0, .int .i64 0] [(0, 1), (1, 1), (2, 1)] := ⟨⟨.agg #[.slice none 0 0, .slice none 0 0, .int .i64 0], by kernel_rfl, rfl⟩, ⟨_, u120_, fun w => by kernel_rfl⟩⟩
theorem T120 : Ty Try.prog 120 true 3 := ⟨by kernel_rfl, by kernel_rfl⟩
noncomputable def diff_solve_l2 (p0 : Int) (p1 : List (Int × Int × Int)) (x6 : Int) : (Bool × Int × List Int × List Int) → Option ((Bool × Int × List Int × List Int) ⊕ ((Bool × List Int × List Int) ⊕ ((List Int × List Int) ⊕ ((Int × List Int × List Int) ⊕ (List Int × List Int × Int)))))
  | (x14, x15, x16, x17) => (if x15 < (p1.length : Int) then orR ((ix p1 x15).bind fun x21 => (ix x16 x21.1).bind fun x22 => (ix x16 x21.2.1).bind fun x23 => (if (w64 (x22 + x21.2.2)) ≤ x23 then some (.inl (x14, x16, x17)) else (ix x16 x21.2.1).bind fun x24 => (ix x17 x21.2.1).bind fun x25 => (if x6 = p0 then some (.inr (.inr (.inr (.inr (.inr ((setAt x16 x21.2.1 (w64 (x22 + x21.2.2))), (setAt x17 x21.2.1 x15), x21.2.1)))))) else some (.inl (true, (setAt x16 x21.2.1 (w64 (x22 + x21.2.2))), (setAt x17 x21.2.1 x15)))))) fun (x18, x19, x20) => some (.inl (x18, w64 (x15 + 1), x19, x20)) else some (.inr (.inl (x14, x16, x17))))
noncomputable def diff_solve_l1 (p0 : Int) (p1 : List (Int × Int × Int)) : (Int × List Int × List Int) → Option ((Int × List Int × List Int) ⊕ (List Int × List Int × Int))
  | (x6, x7, x8) => orR (orR (loopW (diff_solve_l2 p0 p1 x6) (false, 0, x7, x8)) fun (x11, x12, x13) => (if (!x11) = true then some (.inr (.inr (x12, x13, (-1)))) else some (.inl (x12, x13)))) fun (x9, x10) => some (.inl (w64 (x6 + 1), x9, x10))
noncomputable def diff_solve (p0 : Int) (p1 : List (Int × Int × Int)) : Option (List Int × List Int × Int) := (mk p0 (0 : Int)).bind fun x1 => (mk p0 (0 : Int)).bind fun x2 => (loopW (diff_solve_l1 p0 p1) (1, x1, x2)).bind fun (x3, x4, x5) => some (x3, x4, x5)
theorem diff_solve_c (Y : Nat → Prop) (w0 : World) (v1 : Value) (p0 : Int) (p1 : List (Int × Int × Int)) (r : (List Int × List Int × Int)) (H : diff_solve p0 p1 = some r) (h_v1 : Sl w0 (NX []) R98 v1 p1) :
    Calls Try.prog 58 #[.int .i64 p0, v1] w0 fun e w' => ∃ x : Value × Value, e = .returned (.agg #[x.1, x.2, .int .i64 r.2.2]) ∧ Stw ⟨Y, [], w0⟩ [] [row (x.1) 3 (Rp.int .i64) r.1, row (x.2) 3 (Rp.int .i64) r.2.1] w' := by
 refine enter Try.func58 rfl Try.ntmps58 rfl (fun a hF => ?_)
 have hW := Stw.start Y w0
 unfold diff_solve at H
 refine c_seq (reg_list ?_)
 refine l_alloc (cs := [.slice none 0 0, .slice none 0 0, .int .i64 0]) hF hW rfl Z120 rfl (fun b1 a w hF hW => ?_)
 refine ls_nil (c_then ?_)
 refine wp_scope_straight ?_
 refine c_seq ?_
 obtain ⟨x1, h1, H⟩ := bindE H
 obtain ⟨x2, h2, H⟩ := bindE H
 refine wp_oneQ (fun a w => ∃ b2 : Nat, ∃ v2 : Value, ∃ v3 : Value, Fr 64 [] [(0, .int .i64 p0), (1, v1), (4, .pointer (some ⟨b1, 0, none⟩)), (5, .pointer (some ⟨b2, 0, none⟩)), (11, .int .i64 p0), (12, v2), (13, .int .i64 p0), (14, v3), (15, .agg #[v2, v3, .int .i64 (-1)])] a ∧ Stw ⟨Y, [], w0⟩ [(b2, [v2, v3, .int .i64 (-1)]), (b1, [.slice none 0 0, .slice none 0 0, .int .i64 0])] [row v3 3 (Rp.int .i64) x2, row v2 3 (Rp.int .i64) x1] w) ?_ ?_
 ·
  refine reg_tree (PT.st 0 (PT.st 2 (PT.alt 1 (PT.alt 3 (PT.st 4 (PT.alt 5 (PT.alt 6 PT.done PT.stop) PT.stop)) (PT.alt 5 (PT.alt 3 (PT.st 4 (PT.alt 6 PT.done PT.stop)) PT.stop) PT.stop)) (PT.alt 3 (PT.alt 1 (PT.st 4 (PT.alt 5 (PT.alt 6 PT.done PT.stop) PT.stop)) (PT.alt 5 (PT.alt 1 (PT.st 4 (PT.alt 6 PT.done PT.stop)) PT.stop) PT.stop)) (PT.alt 5 (PT.alt 1 (PT.alt 3 (PT.st 4 (PT.alt 6 PT.done PT.stop)) PT.stop) (PT.alt 3 (PT.alt 1 (PT.st 4 (PT.alt 6 PT.done PT.stop)) PT.stop) PT.stop)) PT.stop))))) (CN ⟨Y, [], w0⟩ [] []) (fun ch a d v w h => by cases d <;> exact h) MO (by kernel_rfl) hW (fun w hW => ⟨_, _, hW, all_nil, all_nil⟩) (fun w hW => ?_)
  iterate 2 refine pt_t (R := []) hF rfl rfl (yC fun M Z hN hZ => y_move hF rfl) rfl rfl (fun a hF => ?_)
  refine pt_f rfl ?_ ?_
  ·
   refine l_make (r := (Rp.int .i64)) (0 : Int) hF hW rfl L46 Z3 rfl rfl (fun w A => Fl.int.mk' w A _) h1 rfl (fun v2 a w hF hW => ?_)
   refine pt_next (N2 := []) (NZ2 := []) (N3 := []) (NZ3 := []) hW rfl rfl all_nil all_nil ?_
   refine pt_f rfl ?_ ?_
   ·
    refine l_make (r := (Rp.int .i64)) (0 : Int) hF hW rfl L46 Z3 rfl rfl (fun w A => Fl.int.mk' w A _) h2 rfl (fun v3 a w hF hW => ?_)
    refine pt_next (N2 := []) (NZ2 := []) (N3 := []) (NZ3 := []) hW rfl rfl all_nil all_nil ?_
    refine pt_t (R := []) hF rfl rfl (yC fun M Z hN hZ => y_build (v := Value.agg #[v2, v3, .int .i64 (-1)]) B120 hF rfl (fill_cons rfl (cells_one (hW.one (k := 1) rfl)) rfl (fill_cons rfl (cells_one (hW.one (k := 0) rfl)) rfl (fill_cons rfl rfl rfl fill_nil))) rfl) rfl rfl (fun a hF => ?_)
    refine pt_f1 rfl ?_
    refine l_alloc (cs := [.slice none 0 0, .slice none 0 0, .int .i64 0]) hF hW rfl Z120 rfl (fun b2 a w hF hW => ?_)
    refine pt_next (N2 := []) (NZ2 := []) (N3 := []) (NZ3 := []) hW rfl rfl all_nil all_nil ?_
    refine pt_f1 rfl ?_
    refine l_store (vs := [v2, v3, .int .i64 (-1)]) (M' := [(b2, [v2, v3, .int .i64 (-1)]), (b1, [.slice none 0 0, .slice none 0 0, .int .i64 0])]) 0 hF hW rfl rfl rfl T120 rfl rfl rfl (one_cons (hW.one (k := 1) rfl) (one_cons (hW.one (k := 0) rfl) (one_cons rfl one_nil))) rfl (fun w hW => ?_)
    refine pt_next (N2 := []) (NZ2 := []) (N3 := []) (NZ3 := []) hW rfl rfl all_nil all_nil ?_
    have hW := hW.frontZ (i := 1) rfl rfl
    have hW := hW.frontZ (i := 1) rfl rfl
    have hW := hW.frontM (i := 1) rfl rfl
    have hW := hW.frontM (i := 1) rfl rfl
    refine pt_end ?_
    exact ⟨b2, v2, v3, hF.re ⟨rfl, rfl, rfl, rfl, rfl, rfl, rfl, rfl, rfl, trivial⟩, hW⟩
   refine pt_f rfl ?_ ?_
   ·
    refine l_alloc (cs := [.slice none 0 0, .slice none 0 0, .int .i64 0]) hF hW rfl Z120 rfl (fun b2 a w hF hW => ?_)
    refine pt_next (N2 := []) (NZ2 := []) (N3 := []) (NZ3 := []) hW rfl rfl all_nil all_nil ?_
    refine pt_f1 rfl ?_
    refine l_make (r := (Rp.int .i64)) (0 : Int) hF hW rfl L46 Z3 rfl rfl (fun w A => Fl.int.mk' w A _) h2 rfl (fun v3 a w hF hW => ?_)
    refine pt_next (N2 := []) (NZ2 := []) (N3 := []) (NZ3 := []) hW rfl rfl all_nil all_nil ?_
    refine pt_t (R := []) hF rfl rfl (yC fun M Z hN hZ => y_build (v := Value.agg #[v2, v3, .int .i64 (-1)]) B120 hF rfl (fill_cons rfl (cells_one (hW.one (k := 1) rfl)) rfl (fill_cons rfl (cells_one (hW.one (k := 0) rfl)) rfl (fill_cons rfl rfl rfl fill_nil))) rfl) rfl rfl (fun a hF => ?_)
    refine pt_f1 rfl ?_
    refine l_store (vs := [v2, v3, .int .i64 (-1)]) (M' := [(b2, [v2, v3, .int .i64 (-1)]), (b1, [.slice none 0 0, .slice none 0 0, .int .i64 0])]) 0 hF hW rfl rfl rfl T120 rfl rfl rfl (one_cons (hW.one (k := 1) rfl) (one_cons (hW.one (k := 0) rfl) (one_cons rfl one_nil))) rfl (fun w hW => ?_)
    refine pt_next (N2 := []) (NZ2 := []) (N3 := []) (NZ3 := []) hW rfl rfl all_nil all_nil ?_
    have hW := hW.frontZ (i := 1) rfl rfl
    have hW := hW.frontZ (i := 1) rfl rfl
    have hW := hW.frontM (i := 1) rfl rfl
    have hW := hW.frontM (i := 1) rfl rfl
    refine pt_end ?_
    exact ⟨b2, v2, v3, hF.re ⟨rfl, rfl, rfl, rfl, rfl, rfl, rfl, rfl, rfl, trivial⟩, hW⟩
   exact trivial
  refine pt_f rfl ?_ ?_
  ·
   refine l_make (r := (Rp.int .i64)) (0 : Int) hF hW rfl L46 Z3 rfl rfl (fun w A => Fl.int.mk' w A _) h2 rfl (fun v3 a w hF hW => ?_)
   refine pt_next (N2 := []) (NZ2 := []) (N3 := []) (NZ3 := []) hW rfl rfl all_nil all_nil ?_
   refine pt_f rfl ?_ ?_
   ·
    refine l_make (r := (Rp.int .i64)) (0 : Int) hF hW rfl L46 Z3 rfl rfl (fun w A => Fl.int.mk' w A _) h1 rfl (fun v2 a w hF hW => ?_)
    refine pt_next (N2 := []) (NZ2 := []) (N3 := []) (NZ3 := []) hW rfl rfl all_nil all_nil ?_
    refine pt_t (R := []) hF rfl rfl (yC fun M Z hN hZ => y_build (v := Value.agg #[v2, v3, .int .i64 (-1)]) B120 hF rfl (fill_cons rfl (cells_one (hW.one (k := 0) rfl)) rfl (fill_cons rfl (cells_one (hW.one (k := 1) rfl)) rfl (fill_cons rfl rfl rfl fill_nil))) rfl) rfl rfl (fun a hF => ?_)
    refine pt_f1 rfl ?_
    refine l_alloc (cs := [.slice none 0 0, .slice none 0 0, .int .i64 0]) hF hW rfl Z120 rfl (fun b2 a w hF hW => ?_)
    refine pt_next (N2 := []) (NZ2 := []) (N3 := []) (NZ3 := []) hW rfl rfl all_nil all_nil ?_
    refine pt_f1 rfl ?_
    refine l_store (vs := [v2, v3, .int .i64 (-1)]) (M' := [(b2, [v2, v3, .int .i64 (-1)]), (b1, [.slice none 0 0, .slice none 0 0, .int .i64 0])]) 0 hF hW rfl rfl rfl T120 rfl rfl rfl (one_cons (hW.one (k := 0) rfl) (one_cons (hW.one (k := 1) rfl) (one_cons rfl one_nil))) rfl (fun w hW => ?_)
    refine pt_next (N2 := []) (NZ2 := []) (N3 := []) (NZ3 := []) hW rfl rfl all_nil all_nil ?_
    have hW := hW.frontZ (i := 1) rfl rfl
    have hW := hW.frontM (i := 1) rfl rfl
    have hW := hW.frontM (i := 1) rfl rfl
    refine pt_end ?_
    exact ⟨b2, v2, v3, hF.re ⟨rfl, rfl, rfl, rfl, rfl, rfl, rfl, rfl, rfl, trivial⟩, hW⟩
   refine pt_f rfl ?_ ?_
   ·
    refine l_alloc (cs := [.slice none 0 0, .slice none 0 0, .int .i64 0]) hF hW rfl Z120 rfl (fun b2 a w hF hW => ?_)
    refine pt_next (N2 := []) (NZ2 := []) (N3 := []) (NZ3 := []) hW rfl rfl all_nil all_nil ?_
    refine pt_f1 rfl ?_
    refine l_make (r := (Rp.int .i64)) (0 : Int) hF hW rfl L46 Z3 rfl rfl (fun w A => Fl.int.mk' w A _) h1 rfl (fun v2 a w hF hW => ?_)
    refine pt_next (N2 := []) (NZ2 := []) (N3 := []) (NZ3 := []) hW rfl rfl all_nil all_nil ?_
    refine pt_t (R := []) hF rfl rfl (yC fun M Z hN hZ => y_build (v := Value.agg #[v2, v3, .int .i64 (-1)]) B120 hF rfl (fill_cons rfl (cells_one (hW.one (k := 0) rfl)) rfl (fill_cons rfl (cells_one (hW.one (k := 1) rfl)) rfl (fill_cons rfl rfl rfl fill_nil))) rfl) rfl rfl (fun a hF => ?_)
    refine pt_f1 rfl ?_
    refine l_store (vs := [v2, v3, .int .i64 (-1)]) (M' := [(b2, [v2, v3, .int .i64 (-1)]), (b1, [.slice none 0 0, .slice none 0 0, .int .i64 0])]) 0 hF hW rfl rfl rfl T120 rfl rfl rfl (one_cons (hW.one (k := 0) rfl) (one_cons (hW.one (k := 1) rfl) (one_cons rfl one_nil))) rfl (fun w hW => ?_)
    refine pt_next (N2 := []) (NZ2 := []) (N3 := []) (NZ3 := []) hW rfl rfl all_nil all_nil ?_
    have hW := hW.frontZ (i := 1) rfl rfl
    have hW := hW.frontM (i := 1) rfl rfl
    have hW := hW.frontM (i := 1) rfl rfl
    refine pt_end ?_
    exact ⟨b2, v2, v3, hF.re ⟨rfl, rfl, rfl, rfl, rfl, rfl, rfl, rfl, rfl, trivial⟩, hW⟩
   exact trivial
  refine pt_f rfl ?_ ?_
  ·
   refine l_alloc (cs := [.slice none 0 0, .slice none 0 0, .int .i64 0]) hF hW rfl Z120 rfl (fun b2 a w hF hW => ?_)
   refine pt_next (N2 := []) (NZ2 := []) (N3 := []) (NZ3 := []) hW rfl rfl all_nil all_nil ?_
   refine pt_f rfl ?_ ?_
   ·
    refine l_make (r := (Rp.int .i64)) (0 : Int) hF hW rfl L46 Z3 rfl rfl (fun w A => Fl.int.mk' w A _) h1 rfl (fun v2 a w hF hW => ?_)
    refine pt_next (N2 := []) (NZ2 := []) (N3 := []) (NZ3 := []) hW rfl rfl all_nil all_nil ?_
    refine pt_f1 rfl ?_
    refine l_make (r := (Rp.int .i64)) (0 : Int) hF hW rfl L46 Z3 rfl rfl (fun w A => Fl.int.mk' w A _) h2 rfl (fun v3 a w hF hW => ?_)
    refine pt_next (N2 := []) (NZ2 := []) (N3 := []) (NZ3 := []) hW rfl rfl all_nil all_nil ?_
    refine pt_t (R := []) hF rfl rfl (yC fun M Z hN hZ => y_build (v := Value.agg #[v2, v3, .int .i64 (-1)]) B120 hF rfl (fill_cons rfl (cells_one (hW.one (k := 1) rfl)) rfl (fill_cons rfl (cells_one (hW.one (k := 0) rfl)) rfl (fill_cons rfl rfl rfl fill_nil))) rfl) rfl rfl (fun a hF => ?_)
    refine pt_f1 rfl ?_
    refine l_store (vs := [v2, v3, .int .i64 (-1)]) (M' := [(b2, [v2, v3, .int .i64 (-1)]), (b1, [.slice none 0 0, .slice none 0 0, .int .i64 0])]) 0 hF hW rfl rfl rfl T120 rfl rfl rfl (one_cons (hW.one (k := 1) rfl) (one_cons (hW.one (k := 0) rfl) (one_cons rfl one_nil))) rfl (fun w hW => ?_)
    refine pt_next (N2 := []) (NZ2 := []) (N3 := []) (NZ3 := []) hW rfl rfl all_nil all_nil ?_
    have hW := hW.frontZ (i := 1) rfl rfl
    have hW := hW.frontZ (i := 1) rfl rfl
    have hW := hW.frontM (i := 1) rfl rfl
    have hW := hW.frontM (i := 1) rfl rfl
    refine pt_end ?_
    exact ⟨b2, v2, v3, hF.re ⟨rfl, rfl, rfl, rfl, rfl, rfl, rfl, rfl, rfl, trivial⟩, hW⟩
   refine pt_f rfl ?_ ?_
   ·
    refine l_make (r := (Rp.int .i64)) (0 : Int) hF hW rfl L46 Z3 rfl rfl (fun w A => Fl.int.mk' w A _) h2 rfl (fun v3 a w hF hW => ?_)
    refine pt_next (N2 := []) (NZ2 := []) (N3 := []) (NZ3 := []) hW rfl rfl all_nil all_nil ?_
    refine pt_f1 rfl ?_
    refine l_make (r := (Rp.int .i64)) (0 : Int) hF hW rfl L46 Z3 rfl rfl (fun w A => Fl.int.mk' w A _) h1 rfl (fun v2 a w hF hW => ?_)
    refine pt_next (N2 := []) (NZ2 := []) (N3 := []) (NZ3 := []) hW rfl rfl all_nil all_nil ?_
    refine pt_t (R := []) hF rfl rfl (yC fun M Z hN hZ => y_build (v := Value.agg #[v2, v3, .int .i64 (-1)]) B120 hF rfl (fill_cons rfl (cells_one (hW.one (k := 0) rfl)) rfl (fill_cons rfl (cells_one (hW.one (k := 1) rfl)) rfl (fill_cons rfl rfl rfl fill_nil))) rfl) rfl rfl (fun a hF => ?_)
    refine pt_f1 rfl ?_
    refine l_store (vs := [v2, v3, .int .i64 (-1)]) (M' := [(b2, [v2, v3, .int .i64 (-1)]), (b1, [.slice none 0 0, .slice none 0 0, .int .i64 0])]) 0 hF hW rfl rfl rfl T120 rfl rfl rfl (one_cons (hW.one (k := 0) rfl) (one_cons (hW.one (k := 1) rfl) (one_cons rfl one_nil))) rfl (fun w hW => ?_)
    refine pt_next (N2 := []) (NZ2 := []) (N3 := []) (NZ3 := []) hW rfl rfl all_nil all_nil ?_
    have hW := hW.frontZ (i := 1) rfl rfl
    have hW := hW.frontM (i := 1) rfl rfl
    have hW := hW.frontM (i := 1) rfl rfl
    refine pt_end ?_
    exact ⟨b2, v2, v3, hF.re ⟨rfl, rfl, rfl, rfl, rfl, rfl, rfl, rfl, rfl, trivial⟩, hW⟩
   exact trivial
  exact trivial
 rintro a w ⟨b2, v2, v3, hF, hW⟩
 refine c_then ?_
 refine c_seq ?_
 refine wp_label ?_
 refine c_then ?_
 obtain ⟨o1, G1, K1⟩ := bindE H
 refine c_seqJ (fun a w => ∃ x3 : List Int, ∃ x4 : List Int, ∃ x5 : Int, some ((x3, x4, x5)) = some o1 ∧ Fr 64 [] [(4, .pointer (some ⟨b1, 0, none⟩)), (5, .pointer (some ⟨b2, 0, none⟩))] a ∧ Stw ⟨Y, [], w0⟩ [(b2, [v2, v3, .int .i64 x5]), (b1, [.slice none 0 0, .slice none 0 0, .int .i64 0])] [row v2 3 (Rp.int .i64) x3, row v3 3 (Rp.int .i64) x4] w) ?_ ?_
 ·
  have H := G1
  clear G1 K1
  refine c_seq (reg_list ?_)
  refine ls hF hW rfl ((y_assign hF rfl).q) (fun a w hF hW => ?_)
  refine ls_nil (c_then ?_)
  refine wp_block ?_
  have hW := hW.frontZ (i := 1) rfl rfl
  have hW := hW.frontM (i := 1) rfl rfl
  have hW := hW.frontM (i := 1) rfl rfl
  refine c_loopW H (fun s a w => Fr 64 [] [(0, .int .i64 p0), (1, v1), (4, .pointer (some ⟨b1, 0, none⟩)), (5, .pointer (some ⟨b2, 0, none⟩)), (6, .int .i64 s.1)] a ∧ Stw ⟨Y, [], w0⟩ [(b2, [v2, v3, .int .i64 (-1)]), (b1, [.slice none 0 0, .slice none 0 0, .int .i64 0])] [row v2 3 (Rp.int .i64) s.2.1, row v3 3 (Rp.int .i64) s.2.2] w) ⟨hF.re ⟨rfl, rfl, rfl, rfl, rfl, trivial⟩, hW⟩ (fun s o a w H L2 hR => ?_)
  obtain ⟨x6, x7, x8⟩ := s
  obtain ⟨hF, hW⟩ := hR
  have hF : Fr 64 [] [(0, .int .i64 p0), (1, v1), (4, .pointer (some ⟨b1, 0, none⟩)), (5, .pointer (some ⟨b2, 0, none⟩)), (6, .int .i64 x6)] a := hF
  have hW : Stw ⟨Y, [], w0⟩ [(b2, [v2, v3, .int .i64 (-1)]), (b1, [.slice none 0 0, .slice none 0 0, .int .i64 0])] [row v2 3 (Rp.int .i64) x7, row v3 3 (Rp.int .i64) x8] w := hW
  rw [diff_solve_l1] at H
  obtain ⟨o3, G3, K3, L3⟩ := orE H
  refine c_seqJ (fun a w => ∃ x9 : List Int, ∃ x10 : List Int, some (Sum.inl (x9, x10)) = some o3 ∧ Fr 64 [] [(0, .int .i64 p0), (1, v1), (4, .pointer (some ⟨b1, 0, none⟩)), (5, .pointer (some ⟨b2, 0, none⟩)), (6, .int .i64 x6)] a ∧ Stw ⟨Y, [], w0⟩ [(b2, [v2, v3, .int .i64 (-1)]), (b1, [.slice none 0 0, .slice none 0 0, .int .i64 0])] [row v2 3 (Rp.int .i64) x9, row v3 3 (Rp.int .i64) x10] w) ?_ ?_
  ·
   have H := G3
   clear G3 K3
   refine wp_block ?_
   refine c_seq (reg_list ?_)
   refine ls hF hW rfl ((y_assign hF rfl).q) (fun a w hF hW => ?_)
   refine ls_nil (c_then ?_)
   obtain ⟨o4, G4, K4, L4⟩ := orE H
   refine c_seqJ (fun a w => ∃ x11 : Bool, ∃ x12 : List Int, ∃ x13 : List Int, some (Sum.inl (x11, x12, x13)) = some o4 ∧ Fr 64 [] [(0, .int .i64 p0), (1, v1), (4, .pointer (some ⟨b1, 0, none⟩)), (5, .pointer (some ⟨b2, 0, none⟩)), (6, .int .i64 x6), (7, .bool x11)] a ∧ Stw ⟨Y, [], w0⟩ [(b2, [v2, v3, .int .i64 (-1)]), (b1, [.slice none 0 0, .slice none 0 0, .int .i64 0])] [row v2 3 (Rp.int .i64) x12, row v3 3 (Rp.int .i64) x13] w) ?_ ?_
   ·
    have H := G4
    clear G4 K4
    refine c_seq (reg_list ?_)
    refine ls hF hW rfl ((y_move hF rfl).q) (fun a w hF hW => ?_)
    refine ls hF hW rfl ((y_len (r := R98) (l := p1) u96_ rfl hF rfl (rdc_ro h_v1)).q) (fun a w hF hW => ?_)
    refine ls hF hW rfl ((y_move hF rfl).q) (fun a w hF hW => ?_)
    refine ls_nil (c_then ?_)
    refine wp_block ?_
    have hW := hW.frontZ (i := 1) rfl rfl
    have hW := hW.frontZ (i := 1) rfl rfl
    have hW := hW.frontM (i := 1) rfl rfl
    have hW := hW.frontM (i := 1) rfl rfl
    refine c_loopW H (fun s a w => Fr 64 [] [(0, .int .i64 p0), (1, v1), (4, .pointer (some ⟨b1, 0, none⟩)), (5, .pointer (some ⟨b2, 0, none⟩)), (6, .int .i64 x6), (7, .bool s.1), (18, v1), (19, .int .i64 (p1.length : Int)), (20, .int .i64 s.2.1)] a ∧ Stw ⟨Y, [], w0⟩ [(b2, [v2, v3, .int .i64 (-1)]), (b1, [.slice none 0 0, .slice none 0 0, .int .i64 0])] [row v2 3 (Rp.int .i64) s.2.2.1, row v3 3 (Rp.int .i64) s.2.2.2] w) ⟨hF.re ⟨rfl, rfl, rfl, rfl, rfl, rfl, rfl, rfl, rfl, trivial⟩, hW⟩ (fun s o a w H L5 hR => ?_)
    obtain ⟨x14, x15, x16, x17⟩ := s
    obtain ⟨hF, hW⟩ := hR
    have hF : Fr 64 [] [(0, .int .i64 p0), (1, v1), (4, .pointer (some ⟨b1, 0, none⟩)), (5, .pointer (some ⟨b2, 0, none⟩)), (6, .int .i64 x6), (7, .bool x14), (18, v1), (19, .int .i64 (p1.length : Int)), (20, .int .i64 x15)] a := hF
    have hW : Stw ⟨Y, [], w0⟩ [(b2, [v2, v3, .int .i64 (-1)]), (b1, [.slice none 0 0, .slice none 0 0, .int .i64 0])] [row v2 3 (Rp.int .i64) x16, row v3 3 (Rp.int .i64) x17] w := hW
    rw [diff_solve_l2] at H
    refine c_seq (reg_list ?_)
    refine ls hF hW rfl ((y_lss hF rfl rfl).q) (fun a w hF hW => ?_)
    refine ls_nil (c_then ?_)
    refine c_seq ?_
    refine c_cond hF rfl (fun hb => ?_) (fun hb => ?_)
    ·
     have H := iteT (of_decide_eq_true hb) H
     rw [hb] at hF
     clear hb
     refine wp_skip ?_
     refine c_then ?_
     obtain ⟨o6, G6, K6, L6⟩ := orE H
     refine c_seqJ (fun a w => ∃ x18 : Bool, ∃ x19 : List Int, ∃ x20 : List Int, some (Sum.inl (x18, x19, x20)) = some o6 ∧ Fr 64 [] [(0, .int .i64 p0), (1, v1), (4, .pointer (some ⟨b1, 0, none⟩)), (5, .pointer (some ⟨b2, 0, none⟩)), (6, .int .i64 x6), (7, .bool x18), (18, v1), (19, .int .i64 (p1.length : Int)), (20, .int .i64 x15)] a ∧ Stw ⟨Y, [], w0⟩ [(b2, [v2, v3, .int .i64 (-1)]), (b1, [.slice none 0 0, .slice none 0 0, .int .i64 0])] [row v2 3 (Rp.int .i64) x19, row v3 3 (Rp.int .i64) x20] w) ?_ ?_
     ·
      have H := G6
      clear G6 K6
      refine wp_block ?_
      refine c_seq (reg_list ?_)
      refine ls hF hW rfl ((y_move hF rfl).q) (fun a w hF hW => ?_)
      obtain ⟨x21, h3, H⟩ := bindE H
      refine ls hF hW rfl ((y_index (r := R98) L96 hF rfl rfl (rdc_ro h_v1) h3).q) (fun a w hF hW => ?_)
      refine ls hF hW rfl ((y_load_el (y := Value.agg #[.int .i64 x21.1, .int .i64 x21.2.1, .int .i64 x21.2.2]) (j := 0) (i := x15) hF rfl rfl (rdc_ro h_v1) h3 F98.to T98 rfl).q) (fun a w hF hW => ?_)
      refine l_alloc (cs := [.int .i64 0, .int .i64 0, .int .i64 0]) hF hW rfl Z98 rfl (fun b3 a w hF hW => ?_)
      refine ls hF hW rfl ((y_assign hF rfl).q) (fun a w hF hW => ?_)
      refine l_store (vs := [.int .i64 x21.1, .int .i64 x21.2.1, .int .i64 x21.2.2]) (M' := [(b3, [.int .i64 x21.1, .int .i64 x21.2.1, .int .i64 x21.2.2]), (b2, [v2, v3, .int .i64 (-1)]), (b1, [.slice none 0 0, .slice none 0 0, .int .i64 0])]) 0 hF hW rfl rfl rfl T98 rfl rfl rfl rfl rfl (fun w hW => ?_)
      refine ls_nil (c_then ?_)
      refine c_seq ?_
      refine reg_quiet hW MO (by kernel_rfl) ?_
      refine qs hF rfl ((y_fieldAddr u120_ rfl rfl rfl T46 hF rfl 0 rfl).q) (fun a hF => ?_)
      refine qs hF rfl ((y_load (v := v2) 1 hF rfl rfl T46 rfl).q) (fun a hF => ?_)
      refine qs hF rfl ((y_fieldAddr u98_ rfl rfl rfl T3 hF rfl 0 rfl).q) (fun a hF => ?_)
      refine qs hF rfl ((y_load (v := Value.int .i64 x21.1) 0 hF rfl rfl T3 rfl).q) (fun a hF => ?_)
      obtain ⟨x22, h4, H⟩ := bindE H
      refine qs hF rfl ((y_index (r := (Rp.int .i64)) L46 hF rfl rfl (rdc_row 0 rfl) h4).q) (fun a hF => ?_)
      refine qs hF rfl ((y_load_el (y := Value.int .i64 x22) (j := 0) (i := x21.1) hF rfl rfl (rdc_row 0 rfl) h4 Fl.int.to T3 rfl).q) (fun a hF => ?_)
      refine qs hF rfl ((y_fieldAddr u98_ rfl rfl rfl T3 hF rfl 2 rfl).q) (fun a hF => ?_)
      refine qs hF rfl ((y_load (v := Value.int .i64 x21.2.2) 0 hF rfl rfl T3 rfl).q) (fun a hF => ?_)
      refine qs hF rfl ((y_add hF rfl rfl rfl).q) (fun a hF => ?_)
      refine qs hF rfl ((y_assign hF rfl).q) (fun a hF => ?_)
      refine quiet_end (fun w hW => ?_)
      refine c_then ?_
      refine c_seq ?_
      refine c_seq (reg_list ?_)
      refine ls hF hW rfl ((y_fieldAddr u120_ rfl rfl rfl T46 hF rfl 0 rfl).q) (fun a w hF hW => ?_)
      refine ls hF hW rfl ((y_load (v := v2) 1 hF rfl rfl T46 rfl).q) (fun a w hF hW => ?_)
      refine ls hF hW rfl ((y_fieldAddr u98_ rfl rfl rfl T3 hF rfl 1 rfl).q) (fun a w hF hW => ?_)
      refine ls hF hW rfl ((y_load (v := Value.int .i64 x21.2.1) 0 hF rfl rfl T3 rfl).q) (fun a w hF hW => ?_)
      obtain ⟨x23, h5, H⟩ := bindE H
      refine ls hF hW rfl ((y_index (r := (Rp.int .i64)) L46 hF rfl rfl (rdc_row 0 rfl) h5).q) (fun a w hF hW => ?_)
      refine ls hF hW rfl ((y_load_el (y := Value.int .i64 x23) (j := 0) (i := x21.2.1) hF rfl rfl (rdc_row 0 rfl) h5 Fl.int.to T3 rfl).q) (fun a w hF hW => ?_)
      refine ls hF hW rfl ((y_move hF rfl).q) (fun a w hF hW => ?_)
      refine ls hF hW rfl ((y_geq hF rfl rfl).q) (fun a w hF hW => ?_)
      refine ls_nil (c_then ?_)
      refine c_cond hF rfl (fun hb => ?_) (fun hb => ?_)
      ·
       have H := iteT (of_decide_eq_true hb) H
       rw [hb] at hF
       clear hb
       refine wp_exit ?_
       refine e_then ?_
       refine e_block ?_
       refine c_then ?_
       have hW := hW.frontZ (i := 1) rfl rfl
       have hW := hW.frontZ (i := 1) rfl rfl
       have hW := hW.frontM (i := 2) rfl rfl
       have hW := hW.frontM (i := 2) rfl rfl
       have hW := hW.sub (M' := [(b2, [v2, v3, .int .i64 (-1)]), (b1, [.slice none 0 0, .slice none 0 0, .int .i64 0])]) (Z' := [row v2 3 (Rp.int .i64) x16, row v3 3 (Rp.int .i64) x17]) (List.Sublist.cons_cons _ (List.Sublist.cons_cons _ (List.nil_sublist _))) (List.Sublist.refl _)
       exact ⟨_, _, _, H, hF.re ⟨rfl, rfl, rfl, rfl, rfl, rfl, rfl, rfl, rfl, trivial⟩, hW⟩
      ·
       have H := iteF (of_decide_eq_false hb) H
       rw [hb] at hF
       clear hb
       refine wp_skip ?_
       refine c_then ?_
       refine c_seq ?_
       refine reg_plan [(true, 0), (true, 1), (true, 2), (true, 3), (true, 4), (true, 5), (true, 6), (true, 7), (true, 8), (true, 9), (true, 10), (false, 11), (true, 12), (false, 13)] (CN ⟨Y, [], w0⟩ [(some 11, b2, [v2, v3, .int .i64 (-1)]), (some 11, b3, [.int .i64 x21.1, .int .i64 x21.2.1, .int .i64 x21.2.2]), (some 13, b2, [v2, v3, .int .i64 (-1)]), (some 13, b3, [.int .i64 x21.1, .int .i64 x21.2.1, .int .i64 x21.2.2])] []) (fun ch a d v w h => by cases d <;> exact h) MO (by kernel_rfl) hW (fun w hW => ⟨_, _, hW, (all_cons (fun _ => (.tail _ (.head _))) (all_cons (fun _ => (.head _)) (all_cons (fun _ => (.tail _ (.head _))) (all_cons (fun _ => (.head _)) all_nil)))), all_nil⟩) (fun w hW => ?_)
       refine pl_t (R := []) hF rfl rfl (yC fun M Z hN hZ => y_fieldAddr u120_ rfl rfl rfl T46 hF rfl 0 rfl) rfl rfl (fun a hF => ?_)
       refine pl_t (R := [11]) hF rfl rfl (yC fun M Z hN hZ => y_load_m (cs := [v2, v3, .int .i64 (-1)]) (v := v2) hF rfl (hN ((some 11), b2, [v2, v3, .int .i64 (-1)]) (.head _) rfl) T46 rfl) (by kernel_rfl) rfl (fun a hF => ?_)
       refine pl_t (R := []) hF rfl rfl (yC fun M Z hN hZ => y_fieldAddr u98_ rfl rfl rfl T3 hF rfl 1 rfl) rfl rfl (fun a hF => ?_)
       refine pl_t (R := [11]) hF rfl rfl (yC fun M Z hN hZ => y_load_m (cs := [.int .i64 x21.1, .int .i64 x21.2.1, .int .i64 x21.2.2]) (v := Value.int .i64 x21.2.1) hF rfl (hN ((some 11), b3, [.int .i64 x21.1, .int .i64 x21.2.1, .int .i64 x21.2.2]) (.tail _ (.head _)) rfl) T3 rfl) (by kernel_rfl) rfl (fun a hF => ?_)
       refine pl_t (R := []) hF rfl rfl (yC fun M Z hN hZ => y_fieldAddr u120_ rfl rfl rfl T46 hF rfl 1 rfl) rfl rfl (fun a hF => ?_)
       refine pl_t (R := [13]) hF rfl rfl (yC fun M Z hN hZ => y_load_m (cs := [v2, v3, .int .i64 (-1)]) (v := v3) hF rfl (hN ((some 13), b2, [v2, v3, .int .i64 (-1)]) (.tail _ (.tail _ (.head _))) rfl) T46 rfl) (by kernel_rfl) rfl (fun a hF => ?_)
       refine pl_t (R := []) hF rfl rfl (yC fun M Z hN hZ => y_fieldAddr u98_ rfl rfl rfl T3 hF rfl 1 rfl) rfl rfl (fun a hF => ?_)
       refine pl_t (R := [13]) hF rfl rfl (yC fun M Z hN hZ => y_load_m (cs := [.int .i64 x21.1, .int .i64 x21.2.1, .int .i64 x21.2.2]) (v := Value.int .i64 x21.2.1) hF rfl (hN ((some 13), b3, [.int .i64 x21.1, .int .i64 x21.2.1, .int .i64 x21.2.2]) (.tail _ (.tail _ (.tail _ (.head _)))) rfl) T3 rfl) (by kernel_rfl) rfl (fun a hF => ?_)
       iterate 2 refine pl_t (R := []) hF rfl rfl (yC fun M Z hN hZ => y_move hF rfl) rfl rfl (fun a hF => ?_)
       obtain ⟨x24, h6, H⟩ := bindE H
       refine pl_t (R := []) hF rfl rfl (yC fun M Z hN hZ => y_indexV (r := (Rp.int .i64)) L46 hF rfl rfl (vs_of hW (rdc_row 0 rfl)) h6) rfl rfl (fun a hF => ?_)
       refine pl_f rfl ?_
       refine l_store_el (i := x21.2.1) (j := 0) (vs := [.int .i64 (w64 (x22 + x21.2.2))]) (x' := w64 (x22 + x21.2.2)) hF hW rfl rfl rfl (k := 0) rfl rfl h6 T3 rfl rfl rfl rfl (fun A cs _ => Fl.int.sto (by rfl) _ _ _) (fun w hW => ?_)
       refine pl_next (N2 := []) (NZ2 := []) (N3 := [(some 11, b2, [v2, v3, .int .i64 (-1)]), (some 11, b3, [.int .i64 x21.1, .int .i64 x21.2.1, .int .i64 x21.2.2]), (some 13, b2, [v2, v3, .int .i64 (-1)]), (some 13, b3, [.int .i64 x21.1, .int .i64 x21.2.1, .int .i64 x21.2.2])]) (NZ3 := []) hW rfl rfl (all_cons (fun h => rel_dead (by kernel_rfl) h) (all_cons (fun h => rel_dead (by kernel_rfl) h) (all_cons (fun _ => (.tail _ (.head _))) (all_cons (fun _ => (.head _)) all_nil)))) all_nil ?_
       obtain ⟨x25, h7, H⟩ := bindE H
       refine pl_t (R := []) hF rfl rfl (yC fun M Z hN hZ => y_indexV (r := (Rp.int .i64)) L46 hF rfl rfl (vs_of hW (rdc_row 1 rfl)) h7) rfl rfl (fun a hF => ?_)
       refine pl_f rfl ?_
       refine l_store_el (i := x21.2.1) (j := 0) (vs := [.int .i64 x15]) (x' := x15) hF hW rfl rfl rfl (k := 1) rfl rfl h7 T3 rfl rfl rfl rfl (fun A cs _ => Fl.int.sto (by rfl) _ _ _) (fun w hW => ?_)
       refine pl_next (N2 := []) (NZ2 := []) (N3 := [(some 11, b2, [v2, v3, .int .i64 (-1)]), (some 11, b3, [.int .i64 x21.1, .int .i64 x21.2.1, .int .i64 x21.2.2]), (some 13, b2, [v2, v3, .int .i64 (-1)]), (some 13, b3, [.int .i64 x21.1, .int .i64 x21.2.1, .int .i64 x21.2.2])]) (NZ3 := []) hW rfl rfl (all_cons (fun h => rel_dead (by kernel_rfl) h) (all_cons (fun h => rel_dead (by kernel_rfl) h) (all_cons (fun h => rel_dead (by kernel_rfl) h) (all_cons (fun h => rel_dead (by kernel_rfl) h) all_nil)))) all_nil ?_
       refine pl_end ?_
       refine c_then ?_
       refine c_seq (reg_list ?_)
       refine ls hF hW rfl ((y_assign hF rfl).q) (fun a w hF hW => ?_)
       refine ls_nil (c_then ?_)
       refine c_seq (reg_list ?_)
       iterate 2 refine ls hF hW rfl ((y_move hF rfl).q) (fun a w hF hW => ?_)
       refine ls hF hW rfl ((y_eql hF rfl rfl).q) (fun a w hF hW => ?_)
       refine ls_nil (c_then ?_)
       refine c_cond hF rfl (fun hb => ?_) (fun hb => ?_)
       ·
        have H := iteT (of_decide_eq_true hb) H
        rw [hb] at hF
        clear hb
        refine c_seq (reg_list ?_)
        refine ls hF hW rfl ((y_fieldAddr u98_ rfl rfl rfl T3 hF rfl 1 rfl).q) (fun a w hF hW => ?_)
        refine ls hF hW rfl ((y_load (v := Value.int .i64 x21.2.1) 0 hF rfl rfl T3 rfl).q) (fun a w hF hW => ?_)
        refine ls hF hW rfl ((y_fieldAddr u120_ rfl rfl rfl T3 hF rfl 2 rfl).q) (fun a w hF hW => ?_)
        refine l_store (vs := [.int .i64 x21.2.1]) (M' := [(b3, [.int .i64 x21.1, .int .i64 x21.2.1, .int .i64 x21.2.2]), (b2, [v2, v3, .int .i64 x21.2.1]), (b1, [.slice none 0 0, .slice none 0 0, .int .i64 0])]) 1 hF hW rfl rfl rfl T3 rfl rfl rfl rfl rfl (fun w hW => ?_)
        refine ls_nil (c_then ?_)
        refine wp_exit ?_
        refine e_pass rfl ?_
        iterate 2 refine e_then ?_
        refine e_pass rfl ?_
        refine e_then ?_
        refine e_pass rfl ?_
        iterate 2 refine e_then ?_
        refine e_block ?_
        refine c_then ?_
        have hW := hW.frontZ (i := 1) rfl rfl
        have hW := hW.frontM (i := 2) rfl rfl
        have hW := hW.frontM (i := 2) rfl rfl
        have hW := hW.sub (M' := [(b2, [v2, v3, .int .i64 x21.2.1]), (b1, [.slice none 0 0, .slice none 0 0, .int .i64 0])]) (Z' := [row v2 3 (Rp.int .i64) (setAt x16 x21.2.1 (w64 (x22 + x21.2.2))), row v3 3 (Rp.int .i64) (setAt x17 x21.2.1 x15)]) (List.Sublist.cons_cons _ (List.Sublist.cons_cons _ (List.nil_sublist _))) (List.Sublist.refl _)
        have H := L6 _ H
        have H := L5 _ H
        have H := L4 _ H
        have H := L3 _ H
        have H := L2 _ H
        exact ⟨_, _, _, H, hF.re ⟨rfl, rfl, trivial⟩, hW⟩
       ·
        have H := iteF (of_decide_eq_false hb) H
        rw [hb] at hF
        clear hb
        refine wp_skip ?_
        refine b_normal ?_
        refine c_then ?_
        have hW := hW.frontZ (i := 1) rfl rfl
        have hW := hW.frontM (i := 2) rfl rfl
        have hW := hW.frontM (i := 2) rfl rfl
        have hW := hW.sub (M' := [(b2, [v2, v3, .int .i64 (-1)]), (b1, [.slice none 0 0, .slice none 0 0, .int .i64 0])]) (Z' := [row v2 3 (Rp.int .i64) (setAt x16 x21.2.1 (w64 (x22 + x21.2.2))), row v3 3 (Rp.int .i64) (setAt x17 x21.2.1 x15)]) (List.Sublist.cons_cons _ (List.Sublist.cons_cons _ (List.nil_sublist _))) (List.Sublist.refl _)
        exact ⟨_, _, _, H, hF.re ⟨rfl, rfl, rfl, rfl, rfl, rfl, rfl, rfl, rfl, trivial⟩, hW⟩
     rintro a w ⟨x18, x19, x20, hj, hF, hW⟩
     have H := K6 _ hj
     clear hj G6 K6 L6
     refine reg_list ?_
     refine ls hF hW rfl ((y_add hF rfl rfl rfl).q) (fun a w hF hW => ?_)
     refine ls hF hW rfl ((y_move hF rfl).q) (fun a w hF hW => ?_)
     refine ls_nil (c_then ?_)
     have hW := hW.frontZ (i := 1) rfl rfl
     have hW := hW.frontZ (i := 1) rfl rfl
     have hW := hW.frontM (i := 1) rfl rfl
     have hW := hW.frontM (i := 1) rfl rfl
     exact ⟨_, H, hF.re ⟨rfl, rfl, rfl, rfl, rfl, rfl, rfl, rfl, rfl, trivial⟩, hW⟩
    ·
     have H := iteF (of_decide_eq_false hb) H
     rw [hb] at hF
     clear hb
     refine wp_exit ?_
     iterate 2 refine e_then ?_
     refine e_block ?_
     refine c_then ?_
     have hW := hW.frontZ (i := 1) rfl rfl
     have hW := hW.frontZ (i := 1) rfl rfl
     have hW := hW.frontM (i := 1) rfl rfl
     have hW := hW.frontM (i := 1) rfl rfl
     have H := L5 _ H
     exact ⟨_, _, _, H, hF.re ⟨rfl, rfl, rfl, rfl, rfl, rfl, trivial⟩, hW⟩
   rintro a w ⟨x11, x12, x13, hj, hF, hW⟩
   have H := K4 _ hj
   clear hj G4 K4 L4
   refine c_seq (reg_list ?_)
   refine ls hF hW rfl ((y_move hF rfl).q) (fun a w hF hW => ?_)
   refine ls hF hW rfl ((y_not hF rfl).q) (fun a w hF hW => ?_)
   refine ls_nil (c_then ?_)
   refine c_cond hF rfl (fun hb => ?_) (fun hb => ?_)
   ·
    have H := iteT hb H
    rw [hb] at hF
    clear hb
    refine wp_exit ?_
    refine e_pass rfl ?_
    iterate 2 refine e_then ?_
    refine e_block ?_
    refine c_then ?_
    have hW := hW.frontZ (i := 1) rfl rfl
    have hW := hW.frontZ (i := 1) rfl rfl
    have hW := hW.frontM (i := 1) rfl rfl
    have hW := hW.frontM (i := 1) rfl rfl
    have H := L3 _ H
    have H := L2 _ H
    exact ⟨_, _, _, H, hF.re ⟨rfl, rfl, trivial⟩, hW⟩
   ·
    have H := iteF (by rw [hb]; decide) H
    rw [hb] at hF
    clear hb
    refine wp_skip ?_
    refine b_normal ?_
    refine c_then ?_
    have hW := hW.frontZ (i := 1) rfl rfl
    have hW := hW.frontZ (i := 1) rfl rfl
    have hW := hW.frontM (i := 1) rfl rfl
    have hW := hW.frontM (i := 1) rfl rfl
    exact ⟨_, _, H, hF.re ⟨rfl, rfl, rfl, rfl, rfl, trivial⟩, hW⟩
  rintro a w ⟨x9, x10, hj, hF, hW⟩
  have H := K3 _ hj
  clear hj G3 K3 L3
  refine reg_list ?_
  refine ls hF hW rfl ((y_move hF rfl).q) (fun a w hF hW => ?_)
  refine ls hF hW rfl ((y_add hF rfl rfl rfl).q) (fun a w hF hW => ?_)
  refine ls hF hW rfl ((y_assign hF rfl).q) (fun a w hF hW => ?_)
  refine ls_nil (c_then ?_)
  have hW := hW.frontZ (i := 1) rfl rfl
  have hW := hW.frontZ (i := 1) rfl rfl
  have hW := hW.frontM (i := 1) rfl rfl
  have hW := hW.frontM (i := 1) rfl rfl
  exact ⟨_, H, hF.re ⟨rfl, rfl, rfl, rfl, rfl, trivial⟩, hW⟩
 rintro a w ⟨x3, x4, x5, hj, hF, hW⟩
 have hj := Option.some.inj hj
 subst hj
 have H := K1
 clear G1 K1
 refine c_seq (reg_list ?_)
 refine ls hF hW rfl ((y_load (v := Value.agg #[v2, v3, .int .i64 x5]) 0 hF rfl rfl T120 rfl).q) (fun a w hF hW => ?_)
 refine l_store (vs := [v2, v3, .int .i64 x5]) (M' := [(b2, [v2, v3, .int .i64 x5]), (b1, [v2, v3, .int .i64 x5])]) 1 hF hW rfl rfl rfl T120 rfl rfl rfl (one_cons (hW.one (k := 0) rfl) (one_cons (hW.one (k := 1) rfl) (one_cons rfl one_nil))) rfl (fun w hW => ?_)
 refine ls_nil (c_then ?_)
 refine wp_ret ?_
 refine sc_r ?_
 have H := Option.some.inj H
 subst H
 refine post1 (.inl rfl) hF hW rfl (rv_cell 1 hF rfl rfl T120 rfl) ?_
 have hW := hW.frontZ (i := 1) rfl rfl
 have hW := hW.frontZ (i := 1) rfl rfl
 have hW := hW.sub (M' := []) (Z' := [row v2 3 (Rp.int .i64) x3, row v3 3 (Rp.int .i64) x4]) (List.nil_sublist _) (List.Sublist.refl _)
 exact ⟨((v2), (v3)), rfl, hW⟩

theorem H58 : Has Try.prog 58 := ⟨fun args w => run_callFunc_body Try.func58 rfl (by decide) args w⟩
noncomputable def diff_Earliest (p0 : Int) (p1 : List (Int × Int × Int)) : Option (List Int × Bool) := (diff_Right p0 p1).bind fun x1 => (if (!x1) = true then some (([] : List Int), false) else (diff_solve p0 p1).bind fun x2 => (if 0 ≤ x2.2.2 then some (([] : List Int), false) else some (x2.1, true)))
theorem diff_Earliest_c (Y : Nat → Prop) (w0 : World) (v1 : Value) (p0 : Int) (p1 : List (Int × Int × Int)) (r : List Int × Bool) (H : diff_Earliest p0 p1 = some r) (h_v1 : Sl w0 (NX []) R98 v1 p1) :
    Calls Try.prog 41 #[.int .i64 p0, v1] w0 fun e w' => ∃ x : Value, e = .returned (.tuple #[x, .bool r.2]) ∧ Stw ⟨Y, [], w0⟩ [] [row (x) 3 (Rp.int .i64) r.1] w' := by
 refine enter Try.func41 rfl Try.ntmps41 rfl (fun a hF => ?_)
 have hW := Stw.start Y w0
 unfold diff_Earliest at H
 refine c_seq (reg_list ?_)
 iterate 2 refine ls hF hW rfl ((y_assign hF rfl).q) (fun a w hF hW => ?_)
 refine ls_nil (c_then ?_)
 refine c_seq ?_
 refine c_seq (reg_list ?_)
 iterate 2 refine ls hF hW rfl ((y_move hF rfl).q) (fun a w hF hW => ?_)
 obtain ⟨x1, h1, H⟩ := bindE H
 refine ls hF hW rfl (y_call (v := Value.bool x1) hF H57 rfl (fun w hW => diff_Right_c any w (v1) p0 p1 _ h1 (((rdc_ro h_v1) : Rdc _ _ _ _ _ _) w hW).nx)) (fun a w hF hW => ?_)
 refine ls hF hW rfl ((y_not hF rfl).q) (fun a w hF hW => ?_)
 refine ls_nil (c_then ?_)
 refine c_cond hF rfl (fun hb => ?_) (fun hb => ?_)
 ·
  have H := iteT hb H
  rw [hb] at hF
  clear hb
  refine c_seq (reg_list ?_)
  iterate 2 refine ls hF hW rfl ((y_assign hF rfl).q) (fun a w hF hW => ?_)
  refine ls_nil (c_then ?_)
  refine wp_ret ?_
  refine r_then ?_
  have H := Option.some.inj H
  subst H
  refine post2 (.inl rfl) hF hW rfl (rv_tmp hF rfl) (rv_tmp hF rfl) ?_
  have hW := hW.nilRow 3 (Rp.int .i64)
  exact ⟨(Value.slice none 0 0), rfl, hW⟩
 ·
  have H := iteF (by rw [hb]; decide) H
  rw [hb] at hF
  clear hb
  refine wp_skip ?_
  refine c_then ?_
  refine c_seq (reg_list ?_)
  iterate 2 refine ls hF hW rfl ((y_move hF rfl).q) (fun a w hF hW => ?_)
  obtain ⟨x2, h2, H⟩ := bindE H
  refine l_callG (Ml := []) (Zl := []) (M := []) (Z := []) (β := Value × Value) (rv := fun x => .agg #[x.1, x.2, .int .i64 x2.2.2]) (MM := fun x => []) (ZZ := fun x => [row x.1 3 (Rp.int .i64) x2.1, row x.2 3 (Rp.int .i64) x2.2.1]) hF hW H58 rfl rfl (fun hL => diff_solve_c _ w (v1) p0 p1 _ h2 ((rdc_ro h_v1) w hW).nx) (fun x a w hF hW => ?_)
  obtain ⟨v2, v3⟩ := x
  have hW : Stw ⟨Y, [], w0⟩ [] [row v2 3 (Rp.int .i64) x2.1, row v3 3 (Rp.int .i64) x2.2.1] w := hW
  refine l_alloc (cs := [.slice none 0 0, .slice none 0 0, .int .i64 0]) hF hW rfl Z120 rfl (fun b1 a w hF hW => ?_)
  refine l_store (vs := [v2, v3, .int .i64 x2.2.2]) (M' := [(b1, [v2, v3, .int .i64 x2.2.2])]) 0 hF hW rfl rfl rfl T120 rfl rfl rfl (one_cons (hW.one (k := 0) rfl) (one_cons (hW.one (k := 1) rfl) (one_cons rfl one_nil))) rfl (fun w hW => ?_)
  refine ls_nil (c_then ?_)
  refine c_seq ?_
  refine c_seq (reg_list ?_)
  refine ls hF hW rfl ((y_fieldAddr u120_ rfl rfl rfl T3 hF rfl 2 rfl).q) (fun a w hF hW => ?_)
  refine ls hF hW rfl ((y_load (v := Value.int .i64 x2.2.2) 0 hF rfl rfl T3 rfl).q) (fun a w hF hW => ?_)
  refine ls hF hW rfl ((y_geq hF rfl rfl).q) (fun a w hF hW => ?_)
  refine ls_nil (c_then ?_)
  refine c_cond hF rfl (fun hb => ?_) (fun hb => ?_)
  ·
   have H := iteT (of_decide_eq_true hb) H
   rw [hb] at hF
   clear hb
   refine c_seq (reg_list ?_)
   iterate 2 refine ls hF hW rfl ((y_assign hF rfl).q) (fun a w hF hW => ?_)
   refine ls_nil (c_then ?_)
   refine wp_ret ?_
   refine r_then ?_
   have H := Option.some.inj H
   subst H
   refine post2 (.inl rfl) hF hW rfl (rv_tmp hF rfl) (rv_tmp hF rfl) ?_
   have hW := hW.nilRow 3 (Rp.int .i64)
   have hW := hW.sub (M' := []) (Z' := [row (Value.slice none 0 0) 3 (Rp.int .i64) ([])]) (List.nil_sublist _) (List.Sublist.cons_cons _ (List.nil_sublist _))
   exact ⟨(Value.slice none 0 0), rfl, hW⟩
  ·
   have H := iteF (of_decide_eq_false hb) H
   rw [hb] at hF
   clear hb
   refine wp_skip ?_
   refine c_then ?_
   refine c_seq (reg_list ?_)
   refine ls hF hW rfl ((y_fieldAddr u120_ rfl rfl rfl T46 hF rfl 0 rfl).q) (fun a w hF hW => ?_)
   refine ls hF hW rfl ((y_load (v := v2) 0 hF rfl rfl T46 rfl).q) (fun a w hF hW => ?_)
   iterate 2 refine ls hF hW rfl ((y_assign hF rfl).q) (fun a w hF hW => ?_)
   refine ls_nil (c_then ?_)
   refine wp_ret ?_
   have H := Option.some.inj H
   subst H
   refine post2 (.inl rfl) hF hW rfl (rv_tmp hF rfl) (rv_tmp hF rfl) ?_
   have hW := hW.sub (M' := []) (Z' := [row v2 3 (Rp.int .i64) x2.1]) (List.nil_sublist _) (List.Sublist.cons_cons _ (List.nil_sublist _))
   exact ⟨(v2), rfl, hW⟩

theorem H41 : Has Try.prog 41 := ⟨fun args w => run_callFunc_body Try.func41 rfl (by decide) args w⟩
noncomputable def plan_switches_l1 (p0 : List (Int × Int × Int × Int)) (p1 : Int) : (List Int × Int) → Option ((List Int × Int) ⊕ (List Int))
  | (x2, x3) => (if x3 < (p0.length : Int) then ((ix p0 x3).bind fun x5 => (if x5.2.2.2 = p1 then (app x2 ([x5.1] : List Int)).bind fun x6 => some x6 else some x2)).bind fun x4 => some (.inl (x4, w64 (x3 + 1))) else some (.inr x2))
noncomputable def plan_switches (p0 : List (Int × Int × Int × Int)) (p1 : Int) : Option (List Int) := (loopW (plan_switches_l1 p0 p1) ([], 0)).bind fun x1 => (slices_Sort_int_int x1).bind fun x7 => (slices_Compact_int_int x7).bind fun x8 => some x8
theorem plan_switches_c (Y : Nat → Prop) (w0 : World) (v1 : Value) (p0 : List (Int × Int × Int × Int)) (p1 : Int) (r : List Int) (H : plan_switches p0 p1 = some r) (h_v1 : Sl w0 (NX []) R85 v1 p0) :
    Calls Try.prog 42 #[v1, .int .i64 p1] w0 fun e w' => ∃ x : Value, e = .returned (x) ∧ Stw ⟨Y, [], w0⟩ [] [row (x) 3 (Rp.int .i64) r] w' := by
 refine enter Try.func42 rfl Try.ntmps42 rfl (fun a hF => ?_)
 have hW := Stw.start Y w0
 unfold plan_switches at H
 refine c_seq (reg_list ?_)
 refine ls hF hW rfl ((y_assign hF rfl).q) (fun a w hF hW => ?_)
 refine ls_nil (c_then ?_)
 refine c_seq (reg_list ?_)
 refine ls hF hW rfl ((y_assign hF rfl).q) (fun a w hF hW => ?_)
 refine ls_nil (c_then ?_)
 obtain ⟨o1, G1, K1⟩ := bindE H
 refine c_seqJ (fun a w => ∃ x1 : List Int, ∃ v2 : Value, some (x1) = some o1 ∧ Fr 28 [] [(4, .slice none 0 0), (5, v2)] a ∧ Stw ⟨Y, [], w0⟩ [] [row v2 3 (Rp.int .i64) x1] w) ?_ ?_
 ·
  have H := G1
  clear G1 K1
  refine c_seq (reg_list ?_)
  refine ls hF hW rfl ((y_move hF rfl).q) (fun a w hF hW => ?_)
  refine ls hF hW rfl ((y_len (r := R85) (l := p0) u30_ rfl hF rfl (rdc_ro h_v1)).q) (fun a w hF hW => ?_)
  refine ls hF hW rfl ((y_move hF rfl).q) (fun a w hF hW => ?_)
  refine ls_nil (c_then ?_)
  refine wp_block ?_
  have hW := hW.nilRow 3 (Rp.int .i64)
  refine c_loopW H (fun s a w => ∃ v3 : Value, Fr 28 [] [(1, .int .i64 p1), (4, .slice none 0 0), (5, v3), (8, v1), (9, .int .i64 (p0.length : Int)), (10, .int .i64 s.2)] a ∧ Stw ⟨Y, [], w0⟩ [] [row v3 3 (Rp.int .i64) s.1] w) ⟨(Value.slice none 0 0), hF.re ⟨rfl, rfl, rfl, rfl, rfl, rfl, trivial⟩, hW⟩ (fun s o a w H L2 hR => ?_)
  obtain ⟨x2, x3⟩ := s
  obtain ⟨v3, hF, hW⟩ := hR
  have hF : Fr 28 [] [(1, .int .i64 p1), (4, .slice none 0 0), (5, v3), (8, v1), (9, .int .i64 (p0.length : Int)), (10, .int .i64 x3)] a := hF
  have hW : Stw ⟨Y, [], w0⟩ [] [row v3 3 (Rp.int .i64) x2] w := hW
  rw [plan_switches_l1] at H
  refine c_seq (reg_list ?_)
  refine ls hF hW rfl ((y_lss hF rfl rfl).q) (fun a w hF hW => ?_)
  refine ls_nil (c_then ?_)
  refine c_seq ?_
  refine c_cond hF rfl (fun hb => ?_) (fun hb => ?_)
  ·
   have H := iteT (of_decide_eq_true hb) H
   rw [hb] at hF
   clear hb
   refine wp_skip ?_
   refine c_then ?_
   obtain ⟨o3, G3, K3⟩ := bindE H
   refine c_seqJ (fun a w => ∃ x4 : List Int, ∃ v4 : Value, some (x4) = some o3 ∧ Fr 28 [] [(1, .int .i64 p1), (4, .slice none 0 0), (5, v4), (8, v1), (9, .int .i64 (p0.length : Int)), (10, .int .i64 x3)] a ∧ Stw ⟨Y, [], w0⟩ [] [row v4 3 (Rp.int .i64) x4] w) ?_ ?_
   ·
    have H := G3
    clear G3 K3
    refine wp_block ?_
    refine c_seq (reg_list ?_)
    obtain ⟨x5, h1, H⟩ := bindE H
    refine ls hF hW rfl ((y_index (r := R85) L30 hF rfl rfl (rdc_ro h_v1) h1).q) (fun a w hF hW => ?_)
    refine ls hF hW rfl ((y_load_el (y := Value.agg #[.int .i64 x5.1, .int .i64 x5.2.1, .int .i64 x5.2.2.1, .int .i64 x5.2.2.2]) (j := 0) (i := x3) hF rfl rfl (rdc_ro h_v1) h1 F85.to T85 rfl).q) (fun a w hF hW => ?_)
    refine l_alloc (cs := [.int .i64 0, .int .i64 0, .int .i64 0, .int .i64 0]) hF hW rfl Z85 rfl (fun b1 a w hF hW => ?_)
    refine l_store (vs := [.int .i64 x5.1, .int .i64 x5.2.1, .int .i64 x5.2.2.1, .int .i64 x5.2.2.2]) (M' := [(b1, [.int .i64 x5.1, .int .i64 x5.2.1, .int .i64 x5.2.2.1, .int .i64 x5.2.2.2])]) 0 hF hW rfl rfl rfl T85 rfl rfl rfl rfl rfl (fun w hW => ?_)
    refine ls_nil (c_then ?_)
    refine c_seq (reg_list ?_)
    refine ls hF hW rfl ((y_fieldAddr u85_ rfl rfl rfl T3 hF rfl 3 rfl).q) (fun a w hF hW => ?_)
    refine ls hF hW rfl ((y_load (v := Value.int .i64 x5.2.2.2) 0 hF rfl rfl T3 rfl).q) (fun a w hF hW => ?_)
    refine ls hF hW rfl ((y_move hF rfl).q) (fun a w hF hW => ?_)
    refine ls hF hW rfl ((y_eql hF rfl rfl).q) (fun a w hF hW => ?_)
    refine ls_nil (c_then ?_)
    refine c_cond hF rfl (fun hb => ?_) (fun hb => ?_)
    ·
     have H := iteT (of_decide_eq_true hb) H
     rw [hb] at hF
     clear hb
     refine reg_list ?_
     refine ls hF hW rfl ((y_move hF rfl).q) (fun a w hF hW => ?_)
     refine ls hF hW rfl ((y_fieldAddr u85_ rfl rfl rfl T3 hF rfl 0 rfl).q) (fun a w hF hW => ?_)
     refine ls hF hW rfl ((y_load (v := Value.int .i64 x5.1) 0 hF rfl rfl T3 rfl).q) (fun a w hF hW => ?_)
     refine l_lit (z := Value.int .i64 0) (cs := [.int .i64 x5.1]) (Rp.int .i64) ([x5.1] : List Int) hF hW rfl L46 Z3 rfl rfl rfl rfl rfl rfl (Fl.int.repL _ _ ([x5.1] : List Int)) (fun v5 a w hF hW => ?_)
     obtain ⟨x6, h2, H⟩ := bindE H
     refine l_append (r := (Rp.int .i64)) (i := 1) hF hW rfl L46 rfl rfl rfl rfl (src_row hW 0 rfl) h2 rfl (fun v6 a w hF hW => ?_)
     have hW : Stw ⟨Y, [], w0⟩ [(b1, [.int .i64 x5.1, .int .i64 x5.2.1, .int .i64 x5.2.2.1, .int .i64 x5.2.2.2])] [row v6 3 (Rp.int .i64) x6, row v5 3 (Rp.int .i64) ([x5.1] : List Int)] w := hW
     refine ls hF hW rfl ((y_assign hF rfl).q) (fun a w hF hW => ?_)
     refine ls_nil ?_
     refine b_normal ?_
     refine c_then ?_
     have hW := hW.sub (M' := []) (Z' := [row v6 3 (Rp.int .i64) x6]) (List.nil_sublist _) (List.Sublist.cons_cons _ (List.nil_sublist _))
     exact ⟨_, (v6), H, hF.re ⟨rfl, rfl, rfl, rfl, rfl, rfl, trivial⟩, hW⟩
    ·
     have H := iteF (of_decide_eq_false hb) H
     rw [hb] at hF
     clear hb
     refine wp_skip ?_
     refine b_normal ?_
     refine c_then ?_
     have hW := hW.sub (M' := []) (Z' := [row v3 3 (Rp.int .i64) x2]) (List.nil_sublist _) (List.Sublist.refl _)
     exact ⟨_, (v3), H, hF.re ⟨rfl, rfl, rfl, rfl, rfl, rfl, trivial⟩, hW⟩
   rintro a w ⟨x4, v4, hj, hF, hW⟩
   have hj := Option.some.inj hj
   subst hj
   have H := K3
   clear G3 K3
   refine reg_list ?_
   refine ls hF hW rfl ((y_add hF rfl rfl rfl).q) (fun a w hF hW => ?_)
   refine ls hF hW rfl ((y_move hF rfl).q) (fun a w hF hW => ?_)
   refine ls_nil (c_then ?_)
   exact ⟨_, H, (v4), hF.re ⟨rfl, rfl, rfl, rfl, rfl, rfl, trivial⟩, hW⟩
  ·
   have H := iteF (of_decide_eq_false hb) H
   rw [hb] at hF
   clear hb
   refine wp_exit ?_
   iterate 2 refine e_then ?_
   refine e_block ?_
   refine c_then ?_
   have H := L2 _ H
   exact ⟨_, (v3), H, hF.re ⟨rfl, rfl, trivial⟩, hW⟩
 rintro a w ⟨x1, v2, hj, hF, hW⟩
 have hj := Option.some.inj hj
 subst hj
 have H := K1
 clear G1 K1
 refine c_seq (reg_list ?_)
 refine ls hF hW rfl ((y_move hF rfl).q) (fun a w hF hW => ?_)
 obtain ⟨x7, h3, H⟩ := bindE H
 refine l_callG (Ml := []) (Zl := [row v2 3 (Rp.int .i64) x1]) (M := []) (Z := []) (β := Unit) (rv := fun x => .tuple #[]) (MM := fun x => []) (ZZ := fun x => [row v2 3 (Rp.int .i64) x7]) hF hW H59 rfl rfl (fun hL => slices_Sort_int_int_c _ _ w (v2) x1 _ h3 hL) (fun x a w hF hW => ?_)
 have hW : Stw ⟨Y, [], w0⟩ [] [row v2 3 (Rp.int .i64) x7] w := hW
 refine ls_nil (c_then ?_)
 refine c_seq (reg_list ?_)
 refine ls hF hW rfl ((y_move hF rfl).q) (fun a w hF hW => ?_)
 obtain ⟨x8, h4, H⟩ := bindE H
 refine l_callG (Ml := []) (Zl := [row v2 3 (Rp.int .i64) x7]) (M := []) (Z := []) (β := Value) (rv := fun x => x) (MM := fun x => []) (ZZ := fun x => [row x 3 (Rp.int .i64) x8]) hF hW H60 rfl rfl (fun hL => slices_Compact_int_int_c _ _ w (v2) x7 _ h4 hL) (fun x a w hF hW => ?_)
 obtain ⟨v7, rfl⟩ : ∃ y, y = x := ⟨x, rfl⟩
 have hW : Stw ⟨Y, [], w0⟩ [] [row v7 3 (Rp.int .i64) x8] w := hW
 refine ls hF hW rfl ((y_assign hF rfl).q) (fun a w hF hW => ?_)
 refine ls_nil (c_then ?_)
 refine wp_ret ?_
 have H := Option.some.inj H
 subst H
 refine post1 (.inl rfl) hF hW rfl (rv_tmp hF rfl) ?_
 exact ⟨(v7), rfl, hW⟩

theorem u31_ : type_of% Try.underlying31 := Try.underlying31
theorem u48_ : type_of% Try.underlying48 := Try.underlying48
theorem H42 : Has Try.prog 42 := ⟨fun args w => run_callFunc_body Try.func42 rfl (by decide) args w⟩
theorem B48 : Bt Try.prog 48 [.int .i64 0, .int .i64 0, .slice none 0 0] [(0, 1), (1, 1), (2, 1)] := ⟨⟨.agg #[.int .i64 0, .int .i64 0, .slice none 0 0], by kernel_rfl, rfl⟩, ⟨_, u48_, fun w => by kernel_rfl⟩⟩
theorem Z48 : (Try.prog.info? 48).bind (·.zero) = some (.agg #[.int .i64 0, .int .i64 0, .slice none 0 0]) := by kernel_rfl
abbrev R48 : Rp (Int × Int × List Int) := (Rp.pair (Rp.int .i64) (Rp.pair (Rp.int .i64) (Rp.slice (Rp.int .i64))))
theorem L31 : Et Try.prog 31 48 3 40 := Et.of u31_ (by kernel_rfl) (by kernel_rfl) (by kernel_rfl) (by decide)
noncomputable def plan_rounds_l1 (p2 : Int) (x1 : List Int) : ((List (Int × Int × Int)) × Int) → Option (((List (Int × Int × Int)) × Int) ⊕ (List (Int × Int × Int)))
  | (x3, x4) => (if x4 < (w64 ((x1.length : Int) - 1)) then (app x3 ([(x4, w64 (x4 + 1), p2)] : List (Int × Int × Int))).bind fun x5 => some (.inl (x5, w64 (x4 + 1))) else some (.inr x3))
noncomputable def plan_rounds_l2 (p0 : List (Int × Int × Int × Int)) (p1 : Int) (x1 : List Int) (x6 : List Int × Bool) : ((List (Int × Int × List Int)) × Int) → Option (((List (Int × Int × List Int)) × Int) ⊕ (List (Int × Int × List Int)))
  | (x8, x9) => (if x9 < (x6.1.length : Int) then (ix x6.1 x9).bind fun x10 => (ix x1 x9).bind fun x11 => (ix x1 x9).bind fun x12 => (plan_switches p0 x12).bind fun x13 => (app x8 ([(x11, w64 (p1 + x10), x13)] : List (Int × Int × List Int))).bind fun x14 => some (.inl (x14, w64 (x9 + 1))) else some (.inr x8))
noncomputable def plan_rounds (p0 : List (Int × Int × Int × Int)) (p1 : Int) (p2 : Int) : Option (List (Int × Int × List Int)) := (level_Rounds p0).bind fun x1 => (loopW (plan_rounds_l1 p2 x1) ([], 0)).bind fun x2 => (diff_Earliest (x1.length : Int) x2).bind fun x6 => (loopW (plan_rounds_l2 p0 p1 x1 x6) ([], 0)).bind fun x7 => some x7
theorem plan_rounds_c (Y : Nat → Prop) (w0 : World) (v1 : Value) (p0 : List (Int × Int × Int × Int)) (p1 : Int) (p2 : Int) (r : (List (Int × Int × List Int))) (H : plan_rounds p0 p1 p2 = some r) (h_v1 : Sl w0 (NX []) R85 v1 p0) :
    Calls Try.prog 22 #[v1, .int .i64 p1, .int .i64 p2] w0 fun e w' => ∃ x : Value, e = .returned (x) ∧ Stw ⟨Y, [], w0⟩ [] [row (x) 48 R48 r] w' := by
 refine enter Try.func22 rfl Try.ntmps22 rfl (fun a hF => ?_)
 have hW := Stw.start Y w0
 unfold plan_rounds at H
 refine c_seq (reg_list ?_)
 refine ls hF hW rfl ((y_assign hF rfl).q) (fun a w hF hW => ?_)
 refine ls_nil (c_then ?_)
 refine c_seq (reg_list ?_)
 refine ls hF hW rfl ((y_move hF rfl).q) (fun a w hF hW => ?_)
 obtain ⟨x1, h1, H⟩ := bindE H
 refine l_callG (Ml := []) (Zl := []) (M := []) (Z := []) (β := Value) (rv := fun x => x) (MM := fun x => []) (ZZ := fun x => [row x 3 (Rp.int .i64) x1]) hF hW H40 rfl rfl (fun hL => level_Rounds_c _ w (v1) p0 _ h1 ((rdc_ro h_v1) w hW).nx) (fun x a w hF hW => ?_)
 obtain ⟨v2, rfl⟩ : ∃ y, y = x := ⟨x, rfl⟩
 have hW : Stw ⟨Y, [], w0⟩ [] [row v2 3 (Rp.int .i64) x1] w := hW
 refine ls hF hW rfl ((y_assign hF rfl).q) (fun a w hF hW => ?_)
 refine ls_nil (c_then ?_)
 refine c_seq (reg_list ?_)
 refine ls hF hW rfl ((y_assign hF rfl).q) (fun a w hF hW => ?_)
 refine ls_nil (c_then ?_)
 obtain ⟨o1, G1, K1⟩ := bindE H
 refine c_seqJ (fun a w => ∃ x2 : List (Int × Int × Int), ∃ v3 : Value, some (x2) = some o1 ∧ Fr 65 [] [(0, v1), (1, .int .i64 p1), (6, .slice none 0 0), (7, v2), (8, v3)] a ∧ Stw ⟨Y, [], w0⟩ [] [row v2 3 (Rp.int .i64) x1, row v3 98 R98 x2] w) ?_ ?_
 ·
  have H := G1
  clear G1 K1
  refine c_seq (reg_list ?_)
  refine ls hF hW rfl ((y_move hF rfl).q) (fun a w hF hW => ?_)
  refine ls hF hW rfl ((y_len (r := (Rp.int .i64)) (l := x1) u46_ rfl hF rfl (rdc_row 0 rfl)).q) (fun a w hF hW => ?_)
  refine ls hF hW rfl ((y_sub hF rfl rfl rfl).q) (fun a w hF hW => ?_)
  refine ls hF hW rfl ((y_move hF rfl).q) (fun a w hF hW => ?_)
  refine ls_nil (c_then ?_)
  refine wp_block ?_
  have hW := hW.nilRow 98 R98
  have hW := hW.frontZ (i := 1) rfl rfl
  refine c_loopW H (fun s a w => ∃ v4 : Value, Fr 65 [] [(0, v1), (1, .int .i64 p1), (2, .int .i64 p2), (6, .slice none 0 0), (7, v2), (8, v4), (19, .int .i64 (w64 ((x1.length : Int) - 1))), (20, .int .i64 s.2)] a ∧ Stw ⟨Y, [], w0⟩ [] [row v2 3 (Rp.int .i64) x1, row v4 98 R98 s.1] w) ⟨(Value.slice none 0 0), hF.re ⟨rfl, rfl, rfl, rfl, rfl, rfl, rfl, rfl, trivial⟩, hW⟩ (fun s o a w H L2 hR => ?_)
  obtain ⟨x3, x4⟩ := s
  obtain ⟨v4, hF, hW⟩ := hR
  have hF : Fr 65 [] [(0, v1), (1, .int .i64 p1), (2, .int .i64 p2), (6, .slice none 0 0), (7, v2), (8, v4), (19, .int .i64 (w64 ((x1.length : Int) - 1))), (20, .int .i64 x4)] a := hF
  have hW : Stw ⟨Y, [], w0⟩ [] [row v2 3 (Rp.int .i64) x1, row v4 98 R98 x3] w := hW
  rw [plan_rounds_l1] at H
  refine c_seq (reg_list ?_)
  refine ls hF hW rfl ((y_lss hF rfl rfl).q) (fun a w hF hW => ?_)
  refine ls_nil (c_then ?_)
  refine c_seq ?_
  refine c_cond hF rfl (fun hb => ?_) (fun hb => ?_)
  ·
   have H := iteT (of_decide_eq_true hb) H
   rw [hb] at hF
   clear hb
   refine wp_skip ?_
   refine c_then ?_
   refine c_seq ?_
   refine wp_block ?_
   refine c_seq (reg_list ?_)
   refine ls hF hW rfl ((y_move hF rfl).q) (fun a w hF hW => ?_)
   refine ls hF hW rfl ((y_assign hF rfl).q) (fun a w hF hW => ?_)
   refine ls_nil (c_then ?_)
   refine reg_list ?_
   iterate 3 refine ls hF hW rfl ((y_move hF rfl).q) (fun a w hF hW => ?_)
   refine ls hF hW rfl ((y_add hF rfl rfl rfl).q) (fun a w hF hW => ?_)
   refine ls hF hW rfl ((y_move hF rfl).q) (fun a w hF hW => ?_)
   refine ls hF hW rfl ((y_build (v := Value.agg #[.int .i64 x4, .int .i64 (w64 (x4 + 1)), .int .i64 p2]) B98 hF rfl rfl rfl).q) (fun a w hF hW => ?_)
   refine l_lit (z := Value.agg #[.int .i64 0, .int .i64 0, .int .i64 0]) (cs := [.int .i64 x4, .int .i64 (w64 (x4 + 1)), .int .i64 p2]) R98 ([(x4, w64 (x4 + 1), p2)] : List (Int × Int × Int)) hF hW rfl L96 Z98 rfl rfl rfl rfl rfl rfl (F98.repL _ _ ([(x4, w64 (x4 + 1), p2)] : List (Int × Int × Int))) (fun v5 a w hF hW => ?_)
   obtain ⟨x5, h2, H⟩ := bindE H
   refine l_append (r := R98) (i := 2) hF hW rfl L96 rfl rfl rfl rfl (src_row hW 0 rfl) h2 rfl (fun v6 a w hF hW => ?_)
   have hW : Stw ⟨Y, [], w0⟩ [] [row v6 98 R98 x5, row v5 98 R98 ([(x4, w64 (x4 + 1), p2)] : List (Int × Int × Int)), row v2 3 (Rp.int .i64) x1] w := hW
   refine ls hF hW rfl ((y_assign hF rfl).q) (fun a w hF hW => ?_)
   refine ls_nil ?_
   refine b_normal ?_
   refine c_then ?_
   refine reg_list ?_
   refine ls hF hW rfl ((y_add hF rfl rfl rfl).q) (fun a w hF hW => ?_)
   refine ls hF hW rfl ((y_move hF rfl).q) (fun a w hF hW => ?_)
   refine ls_nil (c_then ?_)
   have hW := hW.frontZ (i := 2) rfl rfl
   have hW := hW.sub (M' := []) (Z' := [row v2 3 (Rp.int .i64) x1, row v6 98 R98 x5]) (List.Sublist.refl _) (List.Sublist.cons_cons _ (List.Sublist.cons_cons _ (List.nil_sublist _)))
   exact ⟨_, H, (v6), hF.re ⟨rfl, rfl, rfl, rfl, rfl, rfl, rfl, rfl, trivial⟩, hW⟩
  ·
   have H := iteF (of_decide_eq_false hb) H
   rw [hb] at hF
   clear hb
   refine wp_exit ?_
   iterate 2 refine e_then ?_
   refine e_block ?_
   refine c_then ?_
   have hW := hW.frontZ (i := 1) rfl rfl
   have hW := hW.frontZ (i := 1) rfl rfl
   have H := L2 _ H
   exact ⟨_, (v4), H, hF.re ⟨rfl, rfl, rfl, rfl, rfl, trivial⟩, hW⟩
 rintro a w ⟨x2, v3, hj, hF, hW⟩
 have hj := Option.some.inj hj
 subst hj
 have H := K1
 clear G1 K1
 refine c_seq (reg_list ?_)
 refine ls hF hW rfl ((y_move hF rfl).q) (fun a w hF hW => ?_)
 refine ls hF hW rfl ((y_len (r := (Rp.int .i64)) (l := x1) u46_ rfl hF rfl (rdc_row 0 rfl)).q) (fun a w hF hW => ?_)
 refine ls hF hW rfl ((y_move hF rfl).q) (fun a w hF hW => ?_)
 obtain ⟨x6, h3, H⟩ := bindE H
 refine l_callG (Ml := []) (Zl := []) (M := []) (Z := [row v2 3 (Rp.int .i64) x1, row v3 98 R98 x2]) (β := Value) (rv := fun x => .tuple #[x, .bool x6.2]) (MM := fun x => []) (ZZ := fun x => [row x 3 (Rp.int .i64) x6.1]) hF hW H41 rfl rfl (fun hL => diff_Earliest_c _ w (v3) (x1.length : Int) x2 _ h3 ((rdc_row 1 rfl) w hW).nx) (fun x a w hF hW => ?_)
 obtain ⟨v7, rfl⟩ : ∃ y, y = x := ⟨x, rfl⟩
 have hW : Stw ⟨Y, [], w0⟩ [] [row v7 3 (Rp.int .i64) x6.1, row v2 3 (Rp.int .i64) x1, row v3 98 R98 x2] w := hW
 refine ls hF hW rfl ((y_move hF rfl).q) (fun a w hF hW => ?_)
 refine ls hF hW rfl ((y_extract (v := v7) hF rfl rfl).q) (fun a w hF hW => ?_)
 refine ls hF hW rfl ((y_extract (v := Value.bool x6.2) hF rfl rfl).q) (fun a w hF hW => ?_)
 iterate 2 refine ls hF hW rfl ((y_assign hF rfl).q) (fun a w hF hW => ?_)
 refine ls_nil (c_then ?_)
 refine c_seq (reg_list ?_)
 refine ls hF hW rfl ((y_assign hF rfl).q) (fun a w hF hW => ?_)
 refine ls_nil (c_then ?_)
 obtain ⟨o3, G3, K3⟩ := bindE H
 refine c_seqJ (fun a w => ∃ x7 : List (Int × Int × List Int), ∃ v8 : Value, some (x7) = some o3 ∧ Fr 65 [] [(6, .slice none 0 0), (12, v8)] a ∧ Stw ⟨Y, [], w0⟩ [] [row v8 48 R48 x7] w) ?_ ?_
 ·
  have H := G3
  clear G3 K3
  refine c_seq (reg_list ?_)
  refine ls hF hW rfl ((y_move hF rfl).q) (fun a w hF hW => ?_)
  refine ls hF hW rfl ((y_len (r := (Rp.int .i64)) (l := x6.1) u46_ rfl hF rfl (rdc_row 0 rfl)).q) (fun a w hF hW => ?_)
  refine ls hF hW rfl ((y_move hF rfl).q) (fun a w hF hW => ?_)
  refine ls_nil (c_then ?_)
  refine wp_block ?_
  have hW := hW.nilRow 48 R48
  have hW := hW.frontZ (i := 1) rfl rfl
  have hW := hW.frontZ (i := 1) rfl rfl
  have hW := hW.frontZ (i := 2) rfl rfl
  have hW := hW.sub (M' := []) (Z' := [row v2 3 (Rp.int .i64) x1, row (Value.slice none 0 0) 48 R48 ([]), row v7 3 (Rp.int .i64) x6.1]) (List.Sublist.refl _) (List.Sublist.cons_cons _ (List.Sublist.cons_cons _ (List.Sublist.cons_cons _ (List.nil_sublist _))))
  refine c_loopW H (fun s a w => ∃ v9 : Value, Fr 65 [] [(0, v1), (1, .int .i64 p1), (6, .slice none 0 0), (7, v2), (12, v9), (39, v7), (40, .int .i64 (x6.1.length : Int)), (41, .int .i64 s.2)] a ∧ Stw ⟨Y, [], w0⟩ [] [row v2 3 (Rp.int .i64) x1, row v9 48 R48 s.1, row v7 3 (Rp.int .i64) x6.1] w) ⟨(Value.slice none 0 0), hF.re ⟨rfl, rfl, rfl, rfl, rfl, rfl, rfl, rfl, trivial⟩, hW⟩ (fun s o a w H L4 hR => ?_)
  obtain ⟨x8, x9⟩ := s
  obtain ⟨v9, hF, hW⟩ := hR
  have hF : Fr 65 [] [(0, v1), (1, .int .i64 p1), (6, .slice none 0 0), (7, v2), (12, v9), (39, v7), (40, .int .i64 (x6.1.length : Int)), (41, .int .i64 x9)] a := hF
  have hW : Stw ⟨Y, [], w0⟩ [] [row v2 3 (Rp.int .i64) x1, row v9 48 R48 x8, row v7 3 (Rp.int .i64) x6.1] w := hW
  rw [plan_rounds_l2] at H
  refine c_seq (reg_list ?_)
  refine ls hF hW rfl ((y_lss hF rfl rfl).q) (fun a w hF hW => ?_)
  refine ls_nil (c_then ?_)
  refine c_seq ?_
  refine c_cond hF rfl (fun hb => ?_) (fun hb => ?_)
  ·
   have H := iteT (of_decide_eq_true hb) H
   rw [hb] at hF
   clear hb
   refine wp_skip ?_
   refine c_then ?_
   refine c_seq ?_
   refine wp_block ?_
   refine c_seq (reg_list ?_)
   refine ls hF hW rfl ((y_move hF rfl).q) (fun a w hF hW => ?_)
   obtain ⟨x10, h4, H⟩ := bindE H
   refine ls hF hW rfl ((y_index (r := (Rp.int .i64)) L46 hF rfl rfl (rdc_row 2 rfl) h4).q) (fun a w hF hW => ?_)
   refine ls hF hW rfl ((y_load_el (y := Value.int .i64 x10) (j := 0) (i := x9) hF rfl rfl (rdc_row 2 rfl) h4 Fl.int.to T3 rfl).q) (fun a w hF hW => ?_)
   iterate 2 refine ls hF hW rfl ((y_assign hF rfl).q) (fun a w hF hW => ?_)
   refine ls_nil (c_then ?_)
   refine reg_plan [(true, 0), (true, 1), (true, 2), (true, 3), (true, 4), (true, 5), (true, 6), (true, 7), (true, 8), (true, 9), (true, 10), (true, 11), (true, 12), (false, 13), (true, 14), (false, 15), (false, 16), (false, 17)] (CN ⟨Y, [], w0⟩ [] [(some 17, row v2 3 (Rp.int .i64) x1), (some 13, row v2 3 (Rp.int .i64) x1)]) (fun ch a d v w h => by cases d <;> exact h) MO (by kernel_rfl) hW (fun w hW => ⟨_, _, hW, all_nil, (all_cons (fun _ => (.head _)) (all_cons (fun _ => (.head _)) all_nil))⟩) (fun w hW => ?_)
   iterate 3 refine pl_t (R := []) hF rfl rfl (yC fun M Z hN hZ => y_move hF rfl) rfl rfl (fun a hF => ?_)
   obtain ⟨x11, h5, H⟩ := bindE H
   refine pl_t (R := []) hF rfl rfl (yC fun M Z hN hZ => y_indexV (r := (Rp.int .i64)) L46 hF rfl rfl (vs_of hW (rdc_row 0 rfl)) h5) rfl rfl (fun a hF => ?_)
   refine pl_t (R := [17]) hF rfl rfl (yC fun M Z hN hZ => y_load_el (y := Value.int .i64 x11) (j := 0) (i := x9) hF rfl rfl (rdc_mrow (hZ ((some 17), row v2 3 (Rp.int .i64) x1) (.head _) rfl)) h5 Fl.int.to T3 rfl) (by kernel_rfl) rfl (fun a hF => ?_)
   iterate 2 refine pl_t (R := []) hF rfl rfl (yC fun M Z hN hZ => y_move hF rfl) rfl rfl (fun a hF => ?_)
   refine pl_t (R := []) hF rfl rfl (yC fun M Z hN hZ => y_add hF rfl rfl rfl) rfl rfl (fun a hF => ?_)
   iterate 3 refine pl_t (R := []) hF rfl rfl (yC fun M Z hN hZ => y_move hF rfl) rfl rfl (fun a hF => ?_)
   obtain ⟨x12, h6, H⟩ := bindE H
   refine pl_t (R := []) hF rfl rfl (yC fun M Z hN hZ => y_indexV (r := (Rp.int .i64)) L46 hF rfl rfl (vs_of hW (rdc_row 0 rfl)) h6) rfl rfl (fun a hF => ?_)
   refine pl_t (R := [13]) hF rfl rfl (yC fun M Z hN hZ => y_load_el (y := Value.int .i64 x12) (j := 0) (i := x9) hF rfl rfl (rdc_mrow (hZ ((some 13), row v2 3 (Rp.int .i64) x1) (.tail _ (.head _)) rfl)) h6 Fl.int.to T3 rfl) (by kernel_rfl) rfl (fun a hF => ?_)
   refine pl_f rfl ?_
   obtain ⟨x13, h7, H⟩ := bindE H
   refine l_callG (Ml := []) (Zl := []) (M := []) (Z := [row v2 3 (Rp.int .i64) x1, row v9 48 R48 x8, row v7 3 (Rp.int .i64) x6.1]) (β := Value) (rv := fun x => x) (MM := fun x => []) (ZZ := fun x => [row x 3 (Rp.int .i64) x13]) hF hW H42 rfl rfl (fun hL => plan_switches_c _ w (v1) p0 x12 _ h7 ((rdc_ro h_v1) w hW).nx) (fun x a w hF hW => ?_)
   obtain ⟨v10, rfl⟩ : ∃ y, y = x := ⟨x, rfl⟩
   have hW : Stw ⟨Y, [], w0⟩ [] [row v10 3 (Rp.int .i64) x13, row v2 3 (Rp.int .i64) x1, row v9 48 R48 x8, row v7 3 (Rp.int .i64) x6.1] w := hW
   refine pl_next (N2 := []) (NZ2 := []) (N3 := []) (NZ3 := [(some 17, row v2 3 (Rp.int .i64) x1), (some 13, row v2 3 (Rp.int .i64) x1)]) hW rfl rfl all_nil (all_cons (fun _ => (.tail _ (.head _))) (all_cons (fun h => rel_dead (by kernel_rfl) h) all_nil)) ?_
   refine pl_t (R := []) hF rfl rfl (yC fun M Z hN hZ => y_build (v := Value.agg #[.int .i64 x11, .int .i64 (w64 (p1 + x10)), v10]) B48 hF rfl (fill_cons rfl rfl rfl (fill_cons rfl rfl rfl (fill_cons rfl (cells_one (hW.one (k := 0) rfl)) rfl fill_nil))) rfl) rfl rfl (fun a hF => ?_)
   refine pl_f rfl ?_
   have hW := hW.freeze
   refine l_lit (z := Value.agg #[.int .i64 0, .int .i64 0, .slice none 0 0]) (cs := [.int .i64 x11, .int .i64 (w64 (p1 + x10)), v10]) R48 ([(x11, w64 (p1 + x10), x13)] : List (Int × Int × List Int)) hF hW rfl L31 Z48 rfl rfl rfl (fill_cons rfl rfl rfl fill_nil) rfl rfl ⟨[Value.int .i64 x11, Value.int .i64 (w64 (p1 + x10)), v10], _, rfl, ⟨[Value.int .i64 x11], [Value.int .i64 (w64 (p1 + x10)), v10], rfl, rfl, ⟨[Value.int .i64 (w64 (p1 + x10))], [v10], rfl, rfl, ⟨_, rfl, (hW.item (i := 0) rfl)⟩⟩⟩, rfl⟩ (fun v11 a w hF hW => ?_)
   refine pl_next (N2 := []) (NZ2 := []) (N3 := []) (NZ3 := [(some 17, row v2 3 (Rp.int .i64) x1), (some 13, row v2 3 (Rp.int .i64) x1)]) hW rfl rfl all_nil (all_cons (fun _ => (.tail _ (.tail _ (.head _)))) (all_cons (fun h => rel_dead (by kernel_rfl) h) all_nil)) ?_
   refine pl_f rfl ?_
   obtain ⟨x14, h8, H⟩ := bindE H
   refine l_append (r := R48) (i := 3) hF hW rfl L31 rfl rfl rfl rfl (src_row hW 0 rfl) h8 rfl (fun v12 a w hF hW => ?_)
   have hW : Stw ⟨Y, [], w0⟩ [] [row v12 48 R48 x14, row v11 48 R48 ([(x11, w64 (p1 + x10), x13)] : List (Int × Int × List Int)), frz v10 (Rp.int .i64) x13, row v2 3 (Rp.int .i64) x1, row v7 3 (Rp.int .i64) x6.1] w := hW
   refine pl_next (N2 := []) (NZ2 := []) (N3 := []) (NZ3 := [(some 17, row v2 3 (Rp.int .i64) x1), (some 13, row v2 3 (Rp.int .i64) x1)]) hW rfl rfl all_nil (all_cons (fun _ => (.tail _ (.tail _ (.tail _ (.head _))))) (all_cons (fun h => rel_dead (by kernel_rfl) h) all_nil)) ?_
   refine pl_f rfl ?_
   refine ls hF hW rfl ((y_assign hF rfl).q) (fun a w hF hW => ?_)
   refine pl_next (N2 := []) (NZ2 := []) (N3 := []) (NZ3 := [(some 17, row v2 3 (Rp.int .i64) x1), (some 13, row v2 3 (Rp.int .i64) x1)]) hW rfl rfl all_nil (all_cons (fun h => rel_dead (by kernel_rfl) h) (all_cons (fun h => rel_dead (by kernel_rfl) h) all_nil)) ?_
   refine pl_end ?_
   refine b_normal ?_
   refine c_then ?_
   refine reg_list ?_
   refine ls hF hW rfl ((y_add hF rfl rfl rfl).q) (fun a w hF hW => ?_)
   refine ls hF hW rfl ((y_move hF rfl).q) (fun a w hF hW => ?_)
   refine ls_nil (c_then ?_)
   have hW := hW.frontZ (i := 4) rfl rfl
   have hW := hW.frontZ (i := 1) rfl rfl
   have hW := hW.frontZ (i := 4) rfl rfl
   have hW := hW.sub (M' := []) (Z' := [row v2 3 (Rp.int .i64) x1, row v12 48 R48 x14, row v7 3 (Rp.int .i64) x6.1]) (List.Sublist.refl _) (List.Sublist.cons_cons _ (List.Sublist.cons_cons _ (List.Sublist.cons_cons _ (List.nil_sublist _))))
   exact ⟨_, H, (v12), hF.re ⟨rfl, rfl, rfl, rfl, rfl, rfl, rfl, rfl, trivial⟩, hW⟩
  ·
   have H := iteF (of_decide_eq_false hb) H
   rw [hb] at hF
   clear hb
   refine wp_exit ?_
   iterate 2 refine e_then ?_
   refine e_block ?_
   refine c_then ?_
   have hW := hW.frontZ (i := 1) rfl rfl
   have hW := hW.sub (M' := []) (Z' := [row v9 48 R48 x8]) (List.Sublist.refl _) (List.Sublist.cons_cons _ (List.nil_sublist _))
   have H := L4 _ H
   exact ⟨_, (v9), H, hF.re ⟨rfl, rfl, trivial⟩, hW⟩
 rintro a w ⟨x7, v8, hj, hF, hW⟩
 have hj := Option.some.inj hj
 subst hj
 have H := K3
 clear G3 K3
 refine c_seq (reg_list ?_)
 refine ls hF hW rfl ((y_move hF rfl).q) (fun a w hF hW => ?_)
 refine ls hF hW rfl ((y_assign hF rfl).q) (fun a w hF hW => ?_)
 refine ls_nil (c_then ?_)
 refine wp_ret ?_
 have H := Option.some.inj H
 subst H
 refine post1 (.inl rfl) hF hW rfl (rv_tmp hF rfl) ?_
 exact ⟨(v8), rfl, hW⟩

theorem H22 : Has Try.prog 22 := ⟨fun args w => run_callFunc_body Try.func22 rfl (by decide) args w⟩
theorem T31 : Ty Try.prog 31 false 1 := ⟨by kernel_rfl, by kernel_rfl⟩
abbrev RX48 : Rp (Int × Int × (Value × List Int)) := (Rp.pair (Rp.int .i64) (Rp.pair (Rp.int .i64) (Rp.vsl (Rp.int .i64))))
abbrev ER48 (p : Int × Int × (Value × List Int)) : Int × Int × List Int := (p.1, p.2.1, p.2.2.2)
theorem EX48 : Ex R48 RX48 ER48 := (Ex.pair Ex.rfl' (Ex.pair Ex.rfl' Ex.sliceF))
abbrev EE48 (a : Int × Int × (Value × List Int)) : List Value := [.int .i64 a.1, .int .i64 a.2.1, a.2.2.1]
theorem FE48 : Flat RX48 EE48 := (Flat.pair Fl.int.to (Flat.pair Fl.int.to Flat.vsl))
noncomputable def plan_Make (p0 : Int × (List (Int × Int × Int × Int × Int × Int)) × (List (Int × Int))) (p1 : List (List Int)) (p2 : List (List Int)) (p3 : Int) (p4 : Int) (p5 : Int) : Option (((List (Int × Int × Int × Int)) × (List (Int × Int × List Int)) × Int × Int × Int × Int) × Int) := (if (decide (p3 < 0) || (decide (1099511627776 < p3) || (decide (p4 < 0) || (decide (1048576 < p4) || (decide (p5 < 0) || decide (1048576 < p5)))))) = true then some ((([] : List (Int × Int × Int × Int)), ([] : List (Int × Int × List Int)), 0, 0, 0, 0), 2) else (level_Moves p0 p1 p2).bind fun x1 => (if x1.2 ≠ 0 then some ((([] : List (Int × Int × Int × Int)), ([] : List (Int × Int × List Int)), 0, 0, 0, 0), x1.2) else (if (x1.1.length : Int) = 0 then some ((([] : List (Int × Int × Int × Int)), ([] : List (Int × Int × List Int)), 0, 0, 0, 0), 7) else (plan_Life p0).bind fun x2 => (plan_Gap p0 p4).bind fun x3 => (plan_rounds x1.1 (w64 ((w64 ((w64 ((w64 (p3 + p5)) + p4)) + x2)) + 1)) x3).bind fun x4 => (ix x4 (w64 ((x4.length : Int) - 1))).bind fun x5 => (if 1099511627776 < (w64 (x5.2.1 + p4)) then some ((([] : List (Int × Int × Int × Int)), ([] : List (Int × Int × List Int)), 0, 0, 0, 0), 11) else some ((x1.1, x4, p4, x2, w64 ((w64 ((w64 ((w64 ((w64 ((w64 (p3 + p5)) + p4)) + x2)) + 1)) - p4)) - x2), w64 (x5.2.1 + p4)), 0)))))
theorem plan_Make_c (Y : Nat → Prop) (w0 : World) (v1 : Value) (v2 : Value) (v3 : Value) (v4 : Value) (p0 : Int × (List (Int × Int × Int × Int × Int × Int)) × (List (Int × Int))) (p1 : List (List Int)) (p2 : List (List Int)) (p3 : Int) (p4 : Int) (p5 : Int) (r : ((List (Int × Int × Int × Int)) × (List (Int × Int × List Int)) × Int × Int × Int × Int) × Int) (H : plan_Make p0 p1 p2 p3 p4 p5 = some r) (h_v1 : Sl w0 (NX []) R62 v1 p0.2.1) (h_v2 : Sl w0 (NX []) R64 v2 p0.2.2) (h_v3 : Sl w0 (NX []) (Rp.slice (Rp.int .i64)) v3 p1) (h_v4 : Sl w0 (NX []) (Rp.slice (Rp.int .i64)) v4 p2) :
    Calls Try.prog 9 #[.agg #[.int .i64 p0.1, v1, v2], v3, v4, .int .i64 p3, .int .i64 p4, .int .i64 p5] w0 fun e w' => ∃ x : Value × Value, e = .returned (.tuple #[.agg #[x.1, x.2, .int .i64 r.1.2.2.1, .int .i64 r.1.2.2.2.1, .int .i64 r.1.2.2.2.2.1, .int .i64 r.1.2.2.2.2.2], .int .i64 r.2]) ∧ Stw ⟨Y, [], w0⟩ [] [row (x.1) 85 R85 r.1.1, row (x.2) 48 R48 r.1.2.1] w' := by
 refine enter Try.func9 rfl Try.ntmps9 rfl (fun a hF => ?_)
 have hW := Stw.start Y w0
 obtain ⟨v5, h1, h_v3⟩ := h_v3.ex EX46
 obtain ⟨v6, h2, h_v4⟩ := h_v4.ex EX46
 unfold plan_Make at H
 refine c_seq (reg_list ?_)
 refine l_box (cs := [.int .i64 p0.1, v1, v2]) hF hW rfl rfl rfl (fun b1 a w hF hW => ?_)
 refine l_alloc (cs := [.slice none 0 0, .slice none 0 0, .int .i64 0, .int .i64 0, .int .i64 0, .int .i64 0]) hF hW rfl Z33 rfl (fun b2 a w hF hW => ?_)
 refine ls hF hW rfl ((y_assign hF rfl).q) (fun a w hF hW => ?_)
 refine ls_nil (c_then ?_)
 refine c_seq ?_
 refine c_seqJ (fun a w => Fr 101 [] [(1, v3), (2, v4), (3, .int .i64 p3), (4, .int .i64 p4), (5, .int .i64 p5), (6, .pointer (some ⟨b1, 0, none⟩)), (12, .pointer (some ⟨b2, 0, none⟩)), (13, .int .i64 0), (39, .bool (decide (p3 < 0) || (decide (1099511627776 < p3) || (decide (p4 < 0) || (decide (1048576 < p4) || (decide (p5 < 0) || decide (1048576 < p5)))))))] a ∧ Stw ⟨Y, [], w0⟩ [(b2, [.slice none 0 0, .slice none 0 0, .int .i64 0, .int .i64 0, .int .i64 0, .int .i64 0]), (b1, [.int .i64 p0.1, v1, v2])] [] w) ?_ ?_
 ·
  refine reg_list ?_
  refine ls hF hW rfl ((y_move hF rfl).q) (fun a w hF hW => ?_)
  refine ls hF hW rfl ((y_lss hF rfl rfl).q) (fun a w hF hW => ?_)
  refine ls hF hW rfl ((y_move hF rfl).q) (fun a w hF hW => ?_)
  rcases Bool.eq_false_or_eq_true (decide (p3 < 0)) with hb0 | hb0
  ·
   rw [hb0] at hF
   iterate 2 refine lsn hF rfl rfl rfl rfl rfl rfl rfl (fun a hF => ?_)
   refine ls hF hW rfl ((y_pick_t hF rfl rfl rfl).q) (fun a w hF hW => ?_)
   refine ls hF hW rfl ((y_move hF rfl).q) (fun a w hF hW => ?_)
   iterate 2 refine lsn hF rfl rfl rfl rfl rfl rfl rfl (fun a hF => ?_)
   refine ls hF hW rfl ((y_pick_t hF rfl rfl rfl).q) (fun a w hF hW => ?_)
   refine ls hF hW rfl ((y_move hF rfl).q) (fun a w hF hW => ?_)
   iterate 2 refine lsn hF rfl rfl rfl rfl rfl rfl rfl (fun a hF => ?_)
   refine ls hF hW rfl ((y_pick_t hF rfl rfl rfl).q) (fun a w hF hW => ?_)
   refine ls hF hW rfl ((y_move hF rfl).q) (fun a w hF hW => ?_)
   iterate 2 refine lsn hF rfl rfl rfl rfl rfl rfl rfl (fun a hF => ?_)
   refine ls hF hW rfl ((y_pick_t hF rfl rfl rfl).q) (fun a w hF hW => ?_)
   refine ls hF hW rfl ((y_move hF rfl).q) (fun a w hF hW => ?_)
   iterate 2 refine lsn hF rfl rfl rfl rfl rfl rfl rfl (fun a hF => ?_)
   refine ls hF hW rfl ((y_pick_t hF rfl rfl rfl).q) (fun a w hF hW => ?_)
   refine ls_nil (c_then ?_)
   exact ⟨hF.re ⟨rfl, rfl, rfl, rfl, rfl, rfl, rfl, rfl, (by show some (Value.bool true) = some (Value.bool (decide (p3 < 0) || (decide (1099511627776 < p3) || (decide (p4 < 0) || (decide (1048576 < p4) || (decide (p5 < 0) || decide (1048576 < p5))))))); try rw [hb0]; all_goals simp only [Bool.not_true, Bool.not_false, Bool.true_and, Bool.false_and, Bool.true_or, Bool.false_or, Bool.and_true, Bool.or_false, cond_true, cond_false]), trivial⟩, hW⟩
  ·
   rw [hb0] at hF
   refine ls_w hF hW (wanted_y hF rfl rfl rfl rfl) rfl (Nat.le_of_ble_eq_true rfl) ((y_move hF rfl).q) (fun a w hF hW => ?_)
   refine ls_w hF hW (wanted_y hF rfl rfl rfl rfl) rfl (Nat.le_of_ble_eq_true rfl) ((y_gtr hF rfl rfl).q) (fun a w hF hW => ?_)
   refine ls hF hW rfl ((y_pick_f hF rfl rfl rfl).q) (fun a w hF hW => ?_)
   refine ls hF hW rfl ((y_move hF rfl).q) (fun a w hF hW => ?_)
   rcases Bool.eq_false_or_eq_true (decide (1099511627776 < p3)) with hb1 | hb1
   ·
    rw [hb1] at hF
    iterate 2 refine lsn hF rfl rfl rfl rfl rfl rfl rfl (fun a hF => ?_)
    refine ls hF hW rfl ((y_pick_t hF rfl rfl rfl).q) (fun a w hF hW => ?_)
    refine ls hF hW rfl ((y_move hF rfl).q) (fun a w hF hW => ?_)
    iterate 2 refine lsn hF rfl rfl rfl rfl rfl rfl rfl (fun a hF => ?_)
    refine ls hF hW rfl ((y_pick_t hF rfl rfl rfl).q) (fun a w hF hW => ?_)
    refine ls hF hW rfl ((y_move hF rfl).q) (fun a w hF hW => ?_)
    iterate 2 refine lsn hF rfl rfl rfl rfl rfl rfl rfl (fun a hF => ?_)
    refine ls hF hW rfl ((y_pick_t hF rfl rfl rfl).q) (fun a w hF hW => ?_)
    refine ls hF hW rfl ((y_move hF rfl).q) (fun a w hF hW => ?_)
    iterate 2 refine lsn hF rfl rfl rfl rfl rfl rfl rfl (fun a hF => ?_)
    refine ls hF hW rfl ((y_pick_t hF rfl rfl rfl).q) (fun a w hF hW => ?_)
    refine ls_nil (c_then ?_)
    exact ⟨hF.re ⟨rfl, rfl, rfl, rfl, rfl, rfl, rfl, rfl, (by show some (Value.bool true) = some (Value.bool (decide (p3 < 0) || (decide (1099511627776 < p3) || (decide (p4 < 0) || (decide (1048576 < p4) || (decide (p5 < 0) || decide (1048576 < p5))))))); try rw [hb1]; try rw [hb0]; all_goals simp only [Bool.not_true, Bool.not_false, Bool.true_and, Bool.false_and, Bool.true_or, Bool.false_or, Bool.and_true, Bool.or_false, cond_true, cond_false]), trivial⟩, hW⟩
   ·
    rw [hb1] at hF
    refine ls_w hF hW (wanted_y hF rfl rfl rfl rfl) rfl (Nat.le_of_ble_eq_true rfl) ((y_move hF rfl).q) (fun a w hF hW => ?_)
    refine ls_w hF hW (wanted_y hF rfl rfl rfl rfl) rfl (Nat.le_of_ble_eq_true rfl) ((y_lss hF rfl rfl).q) (fun a w hF hW => ?_)
    refine ls hF hW rfl ((y_pick_f hF rfl rfl rfl).q) (fun a w hF hW => ?_)
    refine ls hF hW rfl ((y_move hF rfl).q) (fun a w hF hW => ?_)
    rcases Bool.eq_false_or_eq_true (decide (p4 < 0)) with hb2 | hb2
    ·
     rw [hb2] at hF
     iterate 2 refine lsn hF rfl rfl rfl rfl rfl rfl rfl (fun a hF => ?_)
     refine ls hF hW rfl ((y_pick_t hF rfl rfl rfl).q) (fun a w hF hW => ?_)
     refine ls hF hW rfl ((y_move hF rfl).q) (fun a w hF hW => ?_)
     iterate 2 refine lsn hF rfl rfl rfl rfl rfl rfl rfl (fun a hF => ?_)
     refine ls hF hW rfl ((y_pick_t hF rfl rfl rfl).q) (fun a w hF hW => ?_)
     refine ls hF hW rfl ((y_move hF rfl).q) (fun a w hF hW => ?_)
     iterate 2 refine lsn hF rfl rfl rfl rfl rfl rfl rfl (fun a hF => ?_)
     refine ls hF hW rfl ((y_pick_t hF rfl rfl rfl).q) (fun a w hF hW => ?_)
     refine ls_nil (c_then ?_)
     exact ⟨hF.re ⟨rfl, rfl, rfl, rfl, rfl, rfl, rfl, rfl, (by show some (Value.bool true) = some (Value.bool (decide (p3 < 0) || (decide (1099511627776 < p3) || (decide (p4 < 0) || (decide (1048576 < p4) || (decide (p5 < 0) || decide (1048576 < p5))))))); try rw [hb1]; try rw [hb0]; try rw [hb2]; all_goals simp only [Bool.not_true, Bool.not_false, Bool.true_and, Bool.false_and, Bool.true_or, Bool.false_or, Bool.and_true, Bool.or_false, cond_true, cond_false]), trivial⟩, hW⟩
    ·
     rw [hb2] at hF
     refine ls_w hF hW (wanted_y hF rfl rfl rfl rfl) rfl (Nat.le_of_ble_eq_true rfl) ((y_move hF rfl).q) (fun a w hF hW => ?_)
     refine ls_w hF hW (wanted_y hF rfl rfl rfl rfl) rfl (Nat.le_of_ble_eq_true rfl) ((y_gtr hF rfl rfl).q) (fun a w hF hW => ?_)
     refine ls hF hW rfl ((y_pick_f hF rfl rfl rfl).q) (fun a w hF hW => ?_)
     refine ls hF hW rfl ((y_move hF rfl).q) (fun a w hF hW => ?_)
     rcases Bool.eq_false_or_eq_true (decide (1048576 < p4)) with hb3 | hb3
     ·
      rw [hb3] at hF
      iterate 2 refine lsn hF rfl rfl rfl rfl rfl rfl rfl (fun a hF => ?_)
      refine ls hF hW rfl ((y_pick_t hF rfl rfl rfl).q) (fun a w hF hW => ?_)
      refine ls hF hW rfl ((y_move hF rfl).q) (fun a w hF hW => ?_)
      iterate 2 refine lsn hF rfl rfl rfl rfl rfl rfl rfl (fun a hF => ?_)
      refine ls hF hW rfl ((y_pick_t hF rfl rfl rfl).q) (fun a w hF hW => ?_)
      refine ls_nil (c_then ?_)
      exact ⟨hF.re ⟨rfl, rfl, rfl, rfl, rfl, rfl, rfl, rfl, (by show some (Value.bool true) = some (Value.bool (decide (p3 < 0) || (decide (1099511627776 < p3) || (decide (p4 < 0) || (decide (1048576 < p4) || (decide (p5 < 0) || decide (1048576 < p5))))))); try rw [hb1]; try rw [hb3]; try rw [hb0]; try rw [hb2]; all_goals simp only [Bool.not_true, Bool.not_false, Bool.true_and, Bool.false_and, Bool.true_or, Bool.false_or, Bool.and_true, Bool.or_false, cond_true, cond_false]), trivial⟩, hW⟩
     ·
      rw [hb3] at hF
      refine ls_w hF hW (wanted_y hF rfl rfl rfl rfl) rfl (Nat.le_of_ble_eq_true rfl) ((y_move hF rfl).q) (fun a w hF hW => ?_)
      refine ls_w hF hW (wanted_y hF rfl rfl rfl rfl) rfl (Nat.le_of_ble_eq_true rfl) ((y_lss hF rfl rfl).q) (fun a w hF hW => ?_)
      refine ls hF hW rfl ((y_pick_f hF rfl rfl rfl).q) (fun a w hF hW => ?_)
      refine ls hF hW rfl ((y_move hF rfl).q) (fun a w hF hW => ?_)
      rcases Bool.eq_false_or_eq_true (decide (p5 < 0)) with hb4 | hb4
      ·
       rw [hb4] at hF
       iterate 2 refine lsn hF rfl rfl rfl rfl rfl rfl rfl (fun a hF => ?_)
       refine ls hF hW rfl ((y_pick_t hF rfl rfl rfl).q) (fun a w hF hW => ?_)
       refine ls_nil (c_then ?_)
       exact ⟨hF.re ⟨rfl, rfl, rfl, rfl, rfl, rfl, rfl, rfl, (by show some (Value.bool true) = some (Value.bool (decide (p3 < 0) || (decide (1099511627776 < p3) || (decide (p4 < 0) || (decide (1048576 < p4) || (decide (p5 < 0) || decide (1048576 < p5))))))); try rw [hb1]; try rw [hb3]; try rw [hb0]; try rw [hb2]; try rw [hb4]; all_goals simp only [Bool.not_true, Bool.not_false, Bool.true_and, Bool.false_and, Bool.true_or, Bool.false_or, Bool.and_true, Bool.or_false, cond_true, cond_false]), trivial⟩, hW⟩
      ·
       rw [hb4] at hF
       refine ls_w hF hW (wanted_y hF rfl rfl rfl rfl) rfl (Nat.le_of_ble_eq_true rfl) ((y_move hF rfl).q) (fun a w hF hW => ?_)
       refine ls_w hF hW (wanted_y hF rfl rfl rfl rfl) rfl (Nat.le_of_ble_eq_true rfl) ((y_gtr hF rfl rfl).q) (fun a w hF hW => ?_)
       refine ls hF hW rfl ((y_pick_f hF rfl rfl rfl).q) (fun a w hF hW => ?_)
       refine ls_nil (c_then ?_)
       exact ⟨hF.re ⟨rfl, rfl, rfl, rfl, rfl, rfl, rfl, rfl, (by show some (Value.bool (decide (1048576 < p5))) = some (Value.bool (decide (p3 < 0) || (decide (1099511627776 < p3) || (decide (p4 < 0) || (decide (1048576 < p4) || (decide (p5 < 0) || decide (1048576 < p5))))))); try rw [hb1]; try rw [hb3]; try rw [hb0]; try rw [hb2]; try rw [hb4]; all_goals simp only [Bool.not_true, Bool.not_false, Bool.true_and, Bool.false_and, Bool.true_or, Bool.false_or, Bool.and_true, Bool.or_false, cond_true, cond_false]), trivial⟩, hW⟩
 rintro a w ⟨hF, hW⟩
 refine c_cond hF rfl (fun hb => ?_) (fun hb => ?_)
 ·
  have H := iteT hb H
  rw [hb] at hF
  clear hb
  refine c_seq (reg_list ?_)
  refine ls hF hW rfl ((y_build (v := Value.agg #[.slice none 0 0, .slice none 0 0, .int .i64 0, .int .i64 0, .int .i64 0, .int .i64 0]) B33 hF rfl rfl rfl).q) (fun a w hF hW => ?_)
  refine l_store (vs := [.slice none 0 0, .slice none 0 0, .int .i64 0, .int .i64 0, .int .i64 0, .int .i64 0]) (M' := [(b2, [.slice none 0 0, .slice none 0 0, .int .i64 0, .int .i64 0, .int .i64 0, .int .i64 0]), (b1, [.int .i64 p0.1, v1, v2])]) 0 hF hW rfl rfl rfl T33 rfl rfl rfl rfl rfl (fun w hW => ?_)
  refine ls hF hW rfl ((y_assign hF rfl).q) (fun a w hF hW => ?_)
  refine ls_nil (c_then ?_)
  refine wp_ret ?_
  refine r_then ?_
  have H := Option.some.inj H
  subst H
  refine post2 (.inl rfl) hF hW rfl (rv_cell 0 hF rfl rfl T33 rfl) (rv_tmp hF rfl) ?_
  have hW := hW.nilRow 85 R85
  have hW := hW.nilRow 48 R48
  have hW := hW.frontZ (i := 1) rfl rfl
  have hW := hW.sub (M' := []) (Z' := [row (Value.slice none 0 0) 85 R85 ([]), row (Value.slice none 0 0) 48 R48 ([])]) (List.nil_sublist _) (List.Sublist.refl _)
  exact ⟨((Value.slice none 0 0), (Value.slice none 0 0)), rfl, hW⟩
 ·
  have H := iteF (by rw [hb]; decide) H
  rw [hb] at hF
  clear hb
  refine wp_skip ?_
  refine c_then ?_
  refine c_seq (reg_list ?_)
  refine ls hF hW rfl ((y_load (v := Value.agg #[.int .i64 p0.1, v1, v2]) 1 hF rfl rfl T25 rfl).q) (fun a w hF hW => ?_)
  iterate 2 refine ls hF hW rfl ((y_move hF rfl).q) (fun a w hF hW => ?_)
  obtain ⟨x1, h3, H⟩ := bindE H
  refine l_callG (Ml := []) (Zl := []) (M := [(b2, [.slice none 0 0, .slice none 0 0, .int .i64 0, .int .i64 0, .int .i64 0, .int .i64 0]), (b1, [.int .i64 p0.1, v1, v2])]) (Z := []) (β := Value) (rv := fun x => .tuple #[x, .int .i64 x1.2]) (MM := fun x => []) (ZZ := fun x => [row x 85 R85 x1.1]) hF hW H21 rfl rfl (fun hL => level_Moves_c _ w (v1) (v2) (v3) (v4) p0 p1 p2 _ h3 ((rdc_ro h_v1) w hW).nx ((rdc_ro h_v2) w hW).nx ((rdc_hide EX46 h1 (rdc_ro h_v3)) w hW).nx ((rdc_hide EX46 h2 (rdc_ro h_v4)) w hW).nx) (fun x a w hF hW => ?_)
  obtain ⟨v7, rfl⟩ : ∃ y, y = x := ⟨x, rfl⟩
  have hW : Stw ⟨Y, [], w0⟩ [(b2, [.slice none 0 0, .slice none 0 0, .int .i64 0, .int .i64 0, .int .i64 0, .int .i64 0]), (b1, [.int .i64 p0.1, v1, v2])] [row v7 85 R85 x1.1] w := hW
  refine ls hF hW rfl ((y_move hF rfl).q) (fun a w hF hW => ?_)
  refine ls hF hW rfl ((y_extract (v := v7) hF rfl rfl).q) (fun a w hF hW => ?_)
  refine ls hF hW rfl ((y_extract (v := Value.int .i64 x1.2) hF rfl rfl).q) (fun a w hF hW => ?_)
  iterate 2 refine ls hF hW rfl ((y_assign hF rfl).q) (fun a w hF hW => ?_)
  refine ls_nil (c_then ?_)
  refine c_seq ?_
  refine c_seq (reg_list ?_)
  refine ls hF hW rfl ((y_move hF rfl).q) (fun a w hF hW => ?_)
  refine ls hF hW rfl ((y_neq hF rfl rfl).q) (fun a w hF hW => ?_)
  refine ls_nil (c_then ?_)
  refine c_cond hF rfl (fun hb => ?_) (fun hb => ?_)
  ·
   have H := iteT (of_decide_eq_true hb) H
   rw [hb] at hF
   clear hb
   refine c_seq (reg_list ?_)
   refine ls hF hW rfl ((y_build (v := Value.agg #[.slice none 0 0, .slice none 0 0, .int .i64 0, .int .i64 0, .int .i64 0, .int .i64 0]) B33 hF rfl rfl rfl).q) (fun a w hF hW => ?_)
   refine ls hF hW rfl ((y_move hF rfl).q) (fun a w hF hW => ?_)
   refine l_store (vs := [.slice none 0 0, .slice none 0 0, .int .i64 0, .int .i64 0, .int .i64 0, .int .i64 0]) (M' := [(b2, [.slice none 0 0, .slice none 0 0, .int .i64 0, .int .i64 0, .int .i64 0, .int .i64 0]), (b1, [.int .i64 p0.1, v1, v2])]) 0 hF hW rfl rfl rfl T33 rfl rfl rfl rfl rfl (fun w hW => ?_)
   refine ls hF hW rfl ((y_assign hF rfl).q) (fun a w hF hW => ?_)
   refine ls_nil (c_then ?_)
   refine wp_ret ?_
   refine r_then ?_
   have H := Option.some.inj H
   subst H
   refine post2 (.inl rfl) hF hW rfl (rv_cell 0 hF rfl rfl T33 rfl) (rv_tmp hF rfl) ?_
   have hW := hW.nilRow 85 R85
   have hW := hW.nilRow 48 R48
   have hW := hW.frontZ (i := 1) rfl rfl
   have hW := hW.sub (M' := []) (Z' := [row (Value.slice none 0 0) 85 R85 ([]), row (Value.slice none 0 0) 48 R48 ([])]) (List.nil_sublist _) (List.Sublist.cons_cons _ (List.Sublist.cons_cons _ (List.nil_sublist _)))
   exact ⟨((Value.slice none 0 0), (Value.slice none 0 0)), rfl, hW⟩
  ·
   have H := iteF (of_decide_eq_false hb) H
   rw [hb] at hF
   clear hb
   refine wp_skip ?_
   refine c_then ?_
   refine c_seq ?_
   refine c_seq (reg_list ?_)
   refine ls hF hW rfl ((y_move hF rfl).q) (fun a w hF hW => ?_)
   refine ls hF hW rfl ((y_len (r := R85) (l := x1.1) u30_ rfl hF rfl (rdc_row 0 rfl)).q) (fun a w hF hW => ?_)
   refine ls hF hW rfl ((y_eql hF rfl rfl).q) (fun a w hF hW => ?_)
   refine ls_nil (c_then ?_)
   refine c_cond hF rfl (fun hb => ?_) (fun hb => ?_)
   ·
    have H := iteT (of_decide_eq_true hb) H
    rw [hb] at hF
    clear hb
    refine c_seq (reg_list ?_)
    refine ls hF hW rfl ((y_build (v := Value.agg #[.slice none 0 0, .slice none 0 0, .int .i64 0, .int .i64 0, .int .i64 0, .int .i64 0]) B33 hF rfl rfl rfl).q) (fun a w hF hW => ?_)
    refine l_store (vs := [.slice none 0 0, .slice none 0 0, .int .i64 0, .int .i64 0, .int .i64 0, .int .i64 0]) (M' := [(b2, [.slice none 0 0, .slice none 0 0, .int .i64 0, .int .i64 0, .int .i64 0, .int .i64 0]), (b1, [.int .i64 p0.1, v1, v2])]) 0 hF hW rfl rfl rfl T33 rfl rfl rfl rfl rfl (fun w hW => ?_)
    refine ls hF hW rfl ((y_assign hF rfl).q) (fun a w hF hW => ?_)
    refine ls_nil (c_then ?_)
    refine wp_ret ?_
    refine r_then ?_
    have H := Option.some.inj H
    subst H
    refine post2 (.inl rfl) hF hW rfl (rv_cell 0 hF rfl rfl T33 rfl) (rv_tmp hF rfl) ?_
    have hW := hW.nilRow 85 R85
    have hW := hW.nilRow 48 R48
    have hW := hW.frontZ (i := 1) rfl rfl
    have hW := hW.sub (M' := []) (Z' := [row (Value.slice none 0 0) 85 R85 ([]), row (Value.slice none 0 0) 48 R48 ([])]) (List.nil_sublist _) (List.Sublist.cons_cons _ (List.Sublist.cons_cons _ (List.nil_sublist _)))
    exact ⟨((Value.slice none 0 0), (Value.slice none 0 0)), rfl, hW⟩
   ·
    have H := iteF (of_decide_eq_false hb) H
    rw [hb] at hF
    clear hb
    refine wp_skip ?_
    refine c_then ?_
    refine c_seq (reg_list ?_)
    iterate 2 refine ls hF hW rfl ((y_move hF rfl).q) (fun a w hF hW => ?_)
    refine ls hF hW rfl ((y_load (v := Value.agg #[.int .i64 p0.1, v1, v2]) 1 hF rfl rfl T25 rfl).q) (fun a w hF hW => ?_)
    obtain ⟨x2, h4, H⟩ := bindE H
    refine ls hF hW rfl (y_call (v := Value.int .i64 x2) hF H12 rfl (fun w hW => plan_Life_c any w (v1) (v2) p0 _ h4 (((rdc_ro h_v1) : Rdc _ _ _ _ _ _) w hW).nx (((rdc_ro h_v2) : Rdc _ _ _ _ _ _) w hW).nx)) (fun a w hF hW => ?_)
    refine ls hF hW rfl ((y_build (v := Value.agg #[v7, .slice none 0 0, .int .i64 p4, .int .i64 x2, .int .i64 0, .int .i64 0]) B33 hF rfl (fill_cons rfl (cells_one (hW.one (k := 0) rfl)) rfl (fill_cons rfl rfl rfl (fill_cons rfl rfl rfl fill_nil))) rfl).q) (fun a w hF hW => ?_)
    refine l_alloc (cs := [.slice none 0 0, .slice none 0 0, .int .i64 0, .int .i64 0, .int .i64 0, .int .i64 0]) hF hW rfl Z33 rfl (fun b3 a w hF hW => ?_)
    refine l_store (vs := [v7, .slice none 0 0, .int .i64 p4, .int .i64 x2, .int .i64 0, .int .i64 0]) (M' := [(b3, [v7, .slice none 0 0, .int .i64 p4, .int .i64 x2, .int .i64 0, .int .i64 0]), (b2, [.slice none 0 0, .slice none 0 0, .int .i64 0, .int .i64 0, .int .i64 0, .int .i64 0]), (b1, [.int .i64 p0.1, v1, v2])]) 0 hF hW rfl rfl rfl T33 rfl rfl rfl (one_cons (hW.one (k := 0) rfl) (one_cons rfl (one_cons rfl (one_cons rfl (one_cons rfl (one_cons rfl one_nil)))))) rfl (fun w hW => ?_)
    refine ls_nil (c_then ?_)
    refine c_seq (reg_list ?_)
    iterate 2 refine ls hF hW rfl ((y_move hF rfl).q) (fun a w hF hW => ?_)
    refine ls hF hW rfl ((y_add hF rfl rfl rfl).q) (fun a w hF hW => ?_)
    refine ls hF hW rfl ((y_move hF rfl).q) (fun a w hF hW => ?_)
    refine ls hF hW rfl ((y_add hF rfl rfl rfl).q) (fun a w hF hW => ?_)
    refine ls hF hW rfl ((y_fieldAddr u33_ rfl rfl rfl T3 hF rfl 3 rfl).q) (fun a w hF hW => ?_)
    refine ls hF hW rfl ((y_load (v := Value.int .i64 x2) 0 hF rfl rfl T3 rfl).q) (fun a w hF hW => ?_)
    iterate 2 refine ls hF hW rfl ((y_add hF rfl rfl rfl).q) (fun a w hF hW => ?_)
    refine ls hF hW rfl ((y_assign hF rfl).q) (fun a w hF hW => ?_)
    refine ls_nil (c_then ?_)
    refine c_seq (reg_list ?_)
    iterate 2 refine ls hF hW rfl ((y_move hF rfl).q) (fun a w hF hW => ?_)
    refine ls hF hW rfl ((y_load (v := Value.agg #[.int .i64 p0.1, v1, v2]) 2 hF rfl rfl T25 rfl).q) (fun a w hF hW => ?_)
    refine ls hF hW rfl ((y_move hF rfl).q) (fun a w hF hW => ?_)
    obtain ⟨x3, h5, H⟩ := bindE H
    refine ls hF hW rfl (y_call (v := Value.int .i64 x3) hF H20 rfl (fun w hW => plan_Gap_c any w (v1) (v2) p0 p4 _ h5 (((rdc_ro h_v1) : Rdc _ _ _ _ _ _) w hW).nx (((rdc_ro h_v2) : Rdc _ _ _ _ _ _) w hW).nx)) (fun a w hF hW => ?_)
    obtain ⟨x4, h6, H⟩ := bindE H
    refine l_callG (Ml := []) (Zl := []) (M := [(b3, [v7, .slice none 0 0, .int .i64 p4, .int .i64 x2, .int .i64 0, .int .i64 0]), (b2, [.slice none 0 0, .slice none 0 0, .int .i64 0, .int .i64 0, .int .i64 0, .int .i64 0]), (b1, [.int .i64 p0.1, v1, v2])]) (Z := [row v7 85 R85 x1.1]) (β := Value) (rv := fun x => x) (MM := fun x => []) (ZZ := fun x => [row x 48 R48 x4]) hF hW H22 rfl rfl (fun hL => plan_rounds_c _ w (v7) x1.1 (w64 ((w64 ((w64 ((w64 (p3 + p5)) + p4)) + x2)) + 1)) x3 _ h6 ((rdc_row 0 rfl) w hW).nx) (fun x a w hF hW => ?_)
    obtain ⟨v8, rfl⟩ : ∃ y, y = x := ⟨x, rfl⟩
    have hW : Stw ⟨Y, [], w0⟩ [(b3, [v7, .slice none 0 0, .int .i64 p4, .int .i64 x2, .int .i64 0, .int .i64 0]), (b2, [.slice none 0 0, .slice none 0 0, .int .i64 0, .int .i64 0, .int .i64 0, .int .i64 0]), (b1, [.int .i64 p0.1, v1, v2])] [row v8 48 R48 x4, row v7 85 R85 x1.1] w := hW
    refine ls hF hW rfl ((y_fieldAddr u33_ rfl rfl rfl T31 hF rfl 1 rfl).q) (fun a w hF hW => ?_)
    refine l_store1 (M' := [(b3, [v7, v8, .int .i64 p4, .int .i64 x2, .int .i64 0, .int .i64 0]), (b2, [.slice none 0 0, .slice none 0 0, .int .i64 0, .int .i64 0, .int .i64 0, .int .i64 0]), (b1, [.int .i64 p0.1, v1, v2])]) 0 hF hW rfl rfl rfl T31 (hW.one (k := 0) rfl) rfl rfl (fun w hW => ?_)
    refine ls_nil (c_then ?_)
    refine c_seq (reg_list ?_)
    iterate 2 refine ls hF hW rfl ((y_move hF rfl).q) (fun a w hF hW => ?_)
    refine ls hF hW rfl ((y_sub hF rfl rfl rfl).q) (fun a w hF hW => ?_)
    refine ls hF hW rfl ((y_fieldAddr u33_ rfl rfl rfl T3 hF rfl 3 rfl).q) (fun a w hF hW => ?_)
    refine ls hF hW rfl ((y_load (v := Value.int .i64 x2) 0 hF rfl rfl T3 rfl).q) (fun a w hF hW => ?_)
    refine ls hF hW rfl ((y_sub hF rfl rfl rfl).q) (fun a w hF hW => ?_)
    refine ls hF hW rfl ((y_fieldAddr u33_ rfl rfl rfl T3 hF rfl 4 rfl).q) (fun a w hF hW => ?_)
    refine l_store (vs := [.int .i64 (w64 ((w64 ((w64 ((w64 ((w64 ((w64 (p3 + p5)) + p4)) + x2)) + 1)) - p4)) - x2))]) (M' := [(b3, [v7, v8, .int .i64 p4, .int .i64 x2, .int .i64 (w64 ((w64 ((w64 ((w64 ((w64 ((w64 (p3 + p5)) + p4)) + x2)) + 1)) - p4)) - x2)), .int .i64 0]), (b2, [.slice none 0 0, .slice none 0 0, .int .i64 0, .int .i64 0, .int .i64 0, .int .i64 0]), (b1, [.int .i64 p0.1, v1, v2])]) 0 hF hW rfl rfl rfl T3 rfl rfl rfl rfl rfl (fun w hW => ?_)
    refine ls_nil (c_then ?_)
    refine c_seq ?_
    obtain ⟨v9, h7, hW⟩ := hW.exR EX48
    refine reg_list ?_
    refine ls hF hW rfl ((y_fieldAddr u33_ rfl rfl rfl T31 hF rfl 1 rfl).q) (fun a w hF hW => ?_)
    refine ls hF hW rfl ((y_load (v := v8) 0 hF rfl rfl T31 rfl).q) (fun a w hF hW => ?_)
    refine ls hF hW rfl ((y_fieldAddr u33_ rfl rfl rfl T31 hF rfl 1 rfl).q) (fun a w hF hW => ?_)
    refine ls hF hW rfl ((y_load (v := v8) 0 hF rfl rfl T31 rfl).q) (fun a w hF hW => ?_)
    refine ls hF hW rfl ((y_len (r := R48) (l := x4) u31_ rfl hF rfl (rdc_hide EX48 h7 (rdc_row 0 rfl))).q) (fun a w hF hW => ?_)
    refine ls hF hW rfl ((y_sub hF rfl rfl rfl).q) (fun a w hF hW => ?_)
    obtain ⟨x5, h8, H⟩ := bindE H
    obtain ⟨v10, h9, h10⟩ := ix_ex h7 h8
    have h11 : EE48 v10 = [.int .i64 x5.1, .int .i64 x5.2.1, (v10.2.2.1)] := congrArg (fun q : Int × Int × List Int => ([.int .i64 q.1, .int .i64 q.2.1, (v10.2.2.1)] : List Value)) h10
    refine ls hF hW rfl ((y_index (r := RX48) L31 hF rfl rfl (rdc_row 0 rfl) h9).q) (fun a w hF hW => ?_)
    refine ls hF hW rfl ((y_fieldAddr u48_ rfl rfl rfl T3 hF rfl (voff v8 + (w64 ((x4.length : Int) - 1)).toNat * 3 + 1) rfl).q) (fun a w hF hW => ?_)
    refine ls hF hW rfl ((y_load_el (y := Value.int .i64 x5.2.1) (j := 1) (i := w64 ((x4.length : Int) - 1)) (enc := EE48) hF rfl rfl (rdc_row 0 rfl) h9 FE48 T3 (by rw [h11]; rfl)).q) (fun a w hF hW => ?_)
    have hW := hW.note (hW.rowAt (k := 0) rfl h9 (Path.snd (Path.snd Path.here)) (congrArg (fun q : Int × Int × List Int => q.2.2) h10))
    refine ls hF hW rfl ((y_move hF rfl).q) (fun a w hF hW => ?_)
    refine ls hF hW rfl ((y_add hF rfl rfl rfl).q) (fun a w hF hW => ?_)
    refine ls hF hW rfl ((y_fieldAddr u33_ rfl rfl rfl T3 hF rfl 5 rfl).q) (fun a w hF hW => ?_)
    refine l_store (vs := [.int .i64 (w64 (x5.2.1 + p4))]) (M' := [(b3, [v7, v8, .int .i64 p4, .int .i64 x2, .int .i64 (w64 ((w64 ((w64 ((w64 ((w64 ((w64 (p3 + p5)) + p4)) + x2)) + 1)) - p4)) - x2)), .int .i64 (w64 (x5.2.1 + p4))]), (b2, [.slice none 0 0, .slice none 0 0, .int .i64 0, .int .i64 0, .int .i64 0, .int .i64 0]), (b1, [.int .i64 p0.1, v1, v2])]) 0 hF hW rfl rfl rfl T3 rfl rfl rfl rfl rfl (fun w hW => ?_)
    refine ls_nil (c_then ?_)
    refine c_seq ?_
    refine c_seq (reg_list ?_)
    refine ls hF hW rfl ((y_fieldAddr u33_ rfl rfl rfl T3 hF rfl 5 rfl).q) (fun a w hF hW => ?_)
    refine ls hF hW rfl ((y_load (v := Value.int .i64 (w64 (x5.2.1 + p4))) 0 hF rfl rfl T3 rfl).q) (fun a w hF hW => ?_)
    refine ls hF hW rfl ((y_gtr hF rfl rfl).q) (fun a w hF hW => ?_)
    refine ls_nil (c_then ?_)
    refine c_cond hF rfl (fun hb => ?_) (fun hb => ?_)
    ·
     have H := iteT (of_decide_eq_true hb) H
     rw [hb] at hF
     clear hb
     refine c_seq (reg_list ?_)
     refine ls hF hW rfl ((y_build (v := Value.agg #[.slice none 0 0, .slice none 0 0, .int .i64 0, .int .i64 0, .int .i64 0, .int .i64 0]) B33 hF rfl rfl rfl).q) (fun a w hF hW => ?_)
     refine l_store (vs := [.slice none 0 0, .slice none 0 0, .int .i64 0, .int .i64 0, .int .i64 0, .int .i64 0]) (M' := [(b3, [v7, v8, .int .i64 p4, .int .i64 x2, .int .i64 (w64 ((w64 ((w64 ((w64 ((w64 ((w64 (p3 + p5)) + p4)) + x2)) + 1)) - p4)) - x2)), .int .i64 (w64 (x5.2.1 + p4))]), (b2, [.slice none 0 0, .slice none 0 0, .int .i64 0, .int .i64 0, .int .i64 0, .int .i64 0]), (b1, [.int .i64 p0.1, v1, v2])]) 1 hF hW rfl rfl rfl T33 rfl rfl rfl rfl rfl (fun w hW => ?_)
     refine ls hF hW rfl ((y_assign hF rfl).q) (fun a w hF hW => ?_)
     refine ls_nil (c_then ?_)
     refine wp_ret ?_
     refine r_then ?_
     have H := Option.some.inj H
     subst H
     refine post2 (.inl rfl) hF hW rfl (rv_cell 1 hF rfl rfl T33 rfl) (rv_tmp hF rfl) ?_
     have hW := hW.nilRow 85 R85
     have hW := hW.nilRow 48 R48
     have hW := hW.frontZ (i := 1) rfl rfl
     have hW := hW.sub (M' := []) (Z' := [row (Value.slice none 0 0) 85 R85 ([]), row (Value.slice none 0 0) 48 R48 ([])]) (List.nil_sublist _) (List.Sublist.cons_cons _ (List.Sublist.cons_cons _ (List.nil_sublist _)))
     exact ⟨((Value.slice none 0 0), (Value.slice none 0 0)), rfl, hW⟩
    ·
     have H := iteF (of_decide_eq_false hb) H
     rw [hb] at hF
     clear hb
     refine wp_skip ?_
     refine c_then ?_
     refine c_seq (reg_list ?_)
     refine ls hF hW rfl ((y_load (v := Value.agg #[v7, v8, .int .i64 p4, .int .i64 x2, .int .i64 (w64 ((w64 ((w64 ((w64 ((w64 ((w64 (p3 + p5)) + p4)) + x2)) + 1)) - p4)) - x2)), .int .i64 (w64 (x5.2.1 + p4))]) 0 hF rfl rfl T33 rfl).q) (fun a w hF hW => ?_)
     refine l_store (vs := [v7, v8, .int .i64 p4, .int .i64 x2, .int .i64 (w64 ((w64 ((w64 ((w64 ((w64 ((w64 (p3 + p5)) + p4)) + x2)) + 1)) - p4)) - x2)), .int .i64 (w64 (x5.2.1 + p4))]) (M' := [(b3, [v7, v8, .int .i64 p4, .int .i64 x2, .int .i64 (w64 ((w64 ((w64 ((w64 ((w64 ((w64 (p3 + p5)) + p4)) + x2)) + 1)) - p4)) - x2)), .int .i64 (w64 (x5.2.1 + p4))]), (b2, [v7, v8, .int .i64 p4, .int .i64 x2, .int .i64 (w64 ((w64 ((w64 ((w64 ((w64 ((w64 (p3 + p5)) + p4)) + x2)) + 1)) - p4)) - x2)), .int .i64 (w64 (x5.2.1 + p4))]), (b1, [.int .i64 p0.1, v1, v2])]) 1 hF hW rfl rfl rfl T33 rfl rfl rfl (one_cons (hW.one (k := 2) rfl) (one_cons (hW.one (k := 1) rfl) (one_cons rfl (one_cons rfl (one_cons rfl (one_cons rfl one_nil)))))) rfl (fun w hW => ?_)
     refine ls hF hW rfl ((y_assign hF rfl).q) (fun a w hF hW => ?_)
     refine ls_nil (c_then ?_)
     refine wp_ret ?_
     have H := Option.some.inj H
     subst H
     refine post2 (.inl rfl) hF hW rfl (rv_cell 1 hF rfl rfl T33 rfl) (rv_tmp hF rfl) ?_
     have hW := hW.frontZ (i := 1) rfl rfl
     have hW := hW.hideR EX48 h7
     have hW := hW.frontZ (i := 2) rfl rfl
     have hW := hW.sub (M' := []) (Z' := [row v7 85 R85 x1.1, row v8 48 R48 x4]) (List.nil_sublist _) (List.Sublist.cons_cons _ (List.Sublist.cons_cons _ (List.nil_sublist _)))
     exact ⟨((v7), (v8)), rfl, hW⟩

end Go.Proofs.Ytjcaadbafjgefaa
