/- The functions of layer 24, Hp. Conditions: none. -/
import Derived.Test.YtjcaadbafjgefaatA4
namespace Go.Proofs.Ytjcaadbafjgefaa
open Go Go.RowKit
set_option linter.unusedVariables false
set_option linter.unusedSimpArgs false
set_option maxRecDepth 20000
theorem Lj : type_of% Try.underlying120 := Try.underlying120
theorem UP : Has Try.prog 57 := ⟨fun args w => An Try.func57 rfl (by decide) args w⟩
theorem Om : (Try.prog.info? 120).bind (·.zero) = some (.agg #[.slice none 0 0, .slice none 0 0, .int .i64 0]) := by kernel_rfl
theorem PK : Bt Try.prog 120 [.slice none 0 0, .slice none 0 0, .int .i64 0] [(0, 1), (1, 1), (2, 1)] := ⟨⟨.agg #[.slice none 0 0, .slice none 0 0, .int .i64 0], by kernel_rfl, rfl⟩, ⟨_, Lj, fun w => by kernel_rfl⟩⟩
theorem Mx : Ty Try.prog 120 true 3 := ⟨by kernel_rfl, by kernel_rfl⟩
noncomputable def CA (p0 : Int) (p1 : List (Int × Int × Int)) (x6 : Int) : (Bool × Int × List Int × List Int) → Option ((Bool × Int × List Int × List Int) ⊕ ((Bool × List Int × List Int) ⊕ ((List Int × List Int) ⊕ ((Int × List Int × List Int) ⊕ (List Int × List Int × Int)))))
  | (x14, x15, x16, x17) => (if x15 < (p1.length : Int) then E6 ((ix p1 x15).bind fun x21 => (ix x16 x21.1).bind fun x22 => (ix x16 x21.2.1).bind fun x23 => (if (AA (x22 + x21.2.2)) ≤ x23 then some (.inl (x14, x16, x17)) else (ix x16 x21.2.1).bind fun x24 => (ix x17 x21.2.1).bind fun x25 => (if x6 = p0 then some (.inr (.inr (.inr (.inr (.inr ((AQ x16 x21.2.1 (AA (x22 + x21.2.2))), (AQ x17 x21.2.1 x15), x21.2.1)))))) else some (.inl (true, (AQ x16 x21.2.1 (AA (x22 + x21.2.2))), (AQ x17 x21.2.1 x15)))))) fun (x18, x19, x20) => some (.inl (x18, AA (x15 + 1), x19, x20)) else some (.inr (.inl (x14, x16, x17))))
noncomputable def DB (p0 : Int) (p1 : List (Int × Int × Int)) : (Int × List Int × List Int) → Option ((Int × List Int × List Int) ⊕ (List Int × List Int × Int))
  | (x6, x7, x8) => E6 (E6 (AE (CA p0 p1 x6) (false, 0, x7, x8)) fun (x11, x12, x13) => (if (!x11) = true then some (.inr (.inr (x12, x13, (-1)))) else some (.inl (x12, x13)))) fun (x9, x10) => some (.inl (AA (x6 + 1), x9, x10))
noncomputable def Gb (p0 : Int) (p1 : List (Int × Int × Int)) : Option (List Int × List Int × Int) := (mk p0 (0 : Int)).bind fun x1 => (mk p0 (0 : Int)).bind fun x2 => (AE (DB p0 p1) (1, x1, x2)).bind fun (x3, x4, x5) => some (x3, x4, x5)
theorem Nw (Y : Nat → Prop) (w0 : World) (v1 : Value) (p0 : Int) (p1 : List (Int × Int × Int)) (r : (List Int × List Int × Int)) (H : Gb p0 p1 = some r) (h_v1 : Sl w0 (NX []) MZ v1 p1) :
    Calls Try.prog 58 #[.int .i64 p0, v1] w0 fun e w' => ∃ x : Value × Value, e = .returned (.agg #[x.1, x.2, .int .i64 r.2.2]) ∧ Stw ⟨Y, [], w0⟩ [] [row (x.1) 3 (Rp.int .i64) r.1, row (x.2) 3 (Rp.int .i64) r.2.1] w' := by
 refine enter Try.func58 Aa Try.ntmps58 Aa fun a F => ?_
 have W := Stw.start Y w0
 unfold Gb at H
 refine Ah (Ac ?_)
 refine Cn (cs := [.slice none 0 0, .slice none 0 0, .int .i64 0]) F W Aa Om Aa fun b1 a w F W => ?_
 refine Ae (Ab (wp_scope_straight (Ah ?_)))
 obtain ⟨x1, h1, H⟩ := Al H
 obtain ⟨x2, h2, H⟩ := Al H
 refine Q1 (fun a w => ∃ b2 : Nat, ∃ v2 : Value, ∃ v3 : Value, Fr 64 [] [(0, .int .i64 p0), (1, v1), (4, .pointer (some ⟨b1, 0, none⟩)), (5, .pointer (some ⟨b2, 0, none⟩)), (11, .int .i64 p0), (12, v2), (13, .int .i64 p0), (14, v3), (15, .agg #[v2, v3, .int .i64 (-1)])] a ∧ Stw ⟨Y, [], w0⟩ [(b2, [v2, v3, .int .i64 (-1)]), (b1, [.slice none 0 0, .slice none 0 0, .int .i64 0])] [row v3 3 (Rp.int .i64) x2, row v2 3 (Rp.int .i64) x1] w) ?_ ?_
 ·
  refine PS (PT.st 0 (PT.st 2 (PT.alt 1 (PT.alt 3 (PT.st 4 (PT.alt 5 (PT.alt 6 PT.done PT.stop) PT.stop)) (PT.alt 5 (PT.alt 3 (PT.st 4 (PT.alt 6 PT.done PT.stop)) PT.stop) PT.stop)) (PT.alt 3 (PT.alt 1 (PT.st 4 (PT.alt 5 (PT.alt 6 PT.done PT.stop) PT.stop)) (PT.alt 5 (PT.alt 1 (PT.st 4 (PT.alt 6 PT.done PT.stop)) PT.stop) PT.stop)) (PT.alt 5 (PT.alt 1 (PT.alt 3 (PT.st 4 (PT.alt 6 PT.done PT.stop)) PT.stop) (PT.alt 3 (PT.alt 1 (PT.st 4 (PT.alt 6 PT.done PT.stop)) PT.stop) PT.stop)) PT.stop))))) (CN ⟨Y, [], w0⟩ [] []) (fun ch a d v w h => by cases d <;> exact h) MO (by kernel_rfl) W (fun w W => ⟨_, _, W, AB, AB⟩) fun w W => ?_
  iterate 2 refine OA (R := []) F Aa Aa (yC fun M Z hN hZ => Ad F Aa) Aa Aa fun a F => ?_
  refine MS Aa ?_ ?_
  ·
   refine Iq (r := (Rp.int .i64)) (0 : Int) F W Aa Eo Z3 Aa Aa (fun w A => Fl.int.mk' w A _) h1 Aa fun v2 a w F W => ?_
   refine DA (N2 := []) (NZ2 := []) (N3 := []) (NZ3 := []) W Aa Aa AB AB ?_
   refine MS Aa ?_ ?_
   ·
    refine Iq (r := (Rp.int .i64)) (0 : Int) F W Aa Eo Z3 Aa Aa (fun w A => Fl.int.mk' w A _) h2 Aa fun v3 a w F W => ?_
    refine DA (N2 := []) (NZ2 := []) (N3 := []) (NZ3 := []) W Aa Aa AB AB ?_
    refine OA (R := []) F Aa Aa (yC fun M Z hN hZ => Cg (v := Value.agg #[v2, v3, .int .i64 (-1)]) PK F Aa (A9 Aa (Cm (W.one (k := 1) Aa)) Aa (A9 Aa (Cm (W.one (k := 0) Aa)) Aa (A9 Aa Aa Aa De))) Aa) Aa Aa fun a F => ?_
    refine I4 Aa ?_
    refine Cn (cs := [.slice none 0 0, .slice none 0 0, .int .i64 0]) F W Aa Om Aa fun b2 a w F W => ?_
    refine DA (N2 := []) (NZ2 := []) (N3 := []) (NZ3 := []) W Aa Aa AB AB ?_
    refine I4 Aa ?_
    refine Br (vs := [v2, v3, .int .i64 (-1)]) (M' := [(b2, [v2, v3, .int .i64 (-1)]), (b1, [.slice none 0 0, .slice none 0 0, .int .i64 0])]) 0 F W Aa Aa Aa Mx Aa Aa Aa (AN (W.one (k := 1) Aa) (AN (W.one (k := 0) Aa) (AN Aa Em))) Aa fun w W => ?_
    refine DA (N2 := []) (NZ2 := []) (N3 := []) (NZ3 := []) W Aa Aa AB AB ?_
    have W := W.frontZ (i := 1) Aa Aa
    have W := W.frontZ (i := 1) Aa Aa
    have W := W.frontM (i := 1) Aa Aa
    have W := W.frontM (i := 1) Aa Aa
    refine KK ?_
    exact ⟨b2, v2, v3, F.re ⟨rfl, Aa, Aa, Aa, Aa, Aa, Aa, Aa, Aa, trivial⟩, W⟩
   refine MS Aa ?_ ?_
   ·
    refine Cn (cs := [.slice none 0 0, .slice none 0 0, .int .i64 0]) F W Aa Om Aa fun b2 a w F W => ?_
    refine DA (N2 := []) (NZ2 := []) (N3 := []) (NZ3 := []) W Aa Aa AB AB ?_
    refine I4 Aa ?_
    refine Iq (r := (Rp.int .i64)) (0 : Int) F W Aa Eo Z3 Aa Aa (fun w A => Fl.int.mk' w A _) h2 Aa fun v3 a w F W => ?_
    refine DA (N2 := []) (NZ2 := []) (N3 := []) (NZ3 := []) W Aa Aa AB AB ?_
    refine OA (R := []) F Aa Aa (yC fun M Z hN hZ => Cg (v := Value.agg #[v2, v3, .int .i64 (-1)]) PK F Aa (A9 Aa (Cm (W.one (k := 1) Aa)) Aa (A9 Aa (Cm (W.one (k := 0) Aa)) Aa (A9 Aa Aa Aa De))) Aa) Aa Aa fun a F => ?_
    refine I4 Aa ?_
    refine Br (vs := [v2, v3, .int .i64 (-1)]) (M' := [(b2, [v2, v3, .int .i64 (-1)]), (b1, [.slice none 0 0, .slice none 0 0, .int .i64 0])]) 0 F W Aa Aa Aa Mx Aa Aa Aa (AN (W.one (k := 1) Aa) (AN (W.one (k := 0) Aa) (AN Aa Em))) Aa fun w W => ?_
    refine DA (N2 := []) (NZ2 := []) (N3 := []) (NZ3 := []) W Aa Aa AB AB ?_
    have W := W.frontZ (i := 1) Aa Aa
    have W := W.frontZ (i := 1) Aa Aa
    have W := W.frontM (i := 1) Aa Aa
    have W := W.frontM (i := 1) Aa Aa
    refine KK ?_
    exact ⟨b2, v2, v3, F.re ⟨rfl, Aa, Aa, Aa, Aa, Aa, Aa, Aa, Aa, trivial⟩, W⟩
   exact trivial
  refine MS Aa ?_ ?_
  ·
   refine Iq (r := (Rp.int .i64)) (0 : Int) F W Aa Eo Z3 Aa Aa (fun w A => Fl.int.mk' w A _) h2 Aa fun v3 a w F W => ?_
   refine DA (N2 := []) (NZ2 := []) (N3 := []) (NZ3 := []) W Aa Aa AB AB ?_
   refine MS Aa ?_ ?_
   ·
    refine Iq (r := (Rp.int .i64)) (0 : Int) F W Aa Eo Z3 Aa Aa (fun w A => Fl.int.mk' w A _) h1 Aa fun v2 a w F W => ?_
    refine DA (N2 := []) (NZ2 := []) (N3 := []) (NZ3 := []) W Aa Aa AB AB ?_
    refine OA (R := []) F Aa Aa (yC fun M Z hN hZ => Cg (v := Value.agg #[v2, v3, .int .i64 (-1)]) PK F Aa (A9 Aa (Cm (W.one (k := 0) Aa)) Aa (A9 Aa (Cm (W.one (k := 1) Aa)) Aa (A9 Aa Aa Aa De))) Aa) Aa Aa fun a F => ?_
    refine I4 Aa ?_
    refine Cn (cs := [.slice none 0 0, .slice none 0 0, .int .i64 0]) F W Aa Om Aa fun b2 a w F W => ?_
    refine DA (N2 := []) (NZ2 := []) (N3 := []) (NZ3 := []) W Aa Aa AB AB ?_
    refine I4 Aa ?_
    refine Br (vs := [v2, v3, .int .i64 (-1)]) (M' := [(b2, [v2, v3, .int .i64 (-1)]), (b1, [.slice none 0 0, .slice none 0 0, .int .i64 0])]) 0 F W Aa Aa Aa Mx Aa Aa Aa (AN (W.one (k := 0) Aa) (AN (W.one (k := 1) Aa) (AN Aa Em))) Aa fun w W => ?_
    refine DA (N2 := []) (NZ2 := []) (N3 := []) (NZ3 := []) W Aa Aa AB AB ?_
    have W := W.frontZ (i := 1) Aa Aa
    have W := W.frontM (i := 1) Aa Aa
    have W := W.frontM (i := 1) Aa Aa
    refine KK ?_
    exact ⟨b2, v2, v3, F.re ⟨rfl, Aa, Aa, Aa, Aa, Aa, Aa, Aa, Aa, trivial⟩, W⟩
   refine MS Aa ?_ ?_
   ·
    refine Cn (cs := [.slice none 0 0, .slice none 0 0, .int .i64 0]) F W Aa Om Aa fun b2 a w F W => ?_
    refine DA (N2 := []) (NZ2 := []) (N3 := []) (NZ3 := []) W Aa Aa AB AB ?_
    refine I4 Aa ?_
    refine Iq (r := (Rp.int .i64)) (0 : Int) F W Aa Eo Z3 Aa Aa (fun w A => Fl.int.mk' w A _) h1 Aa fun v2 a w F W => ?_
    refine DA (N2 := []) (NZ2 := []) (N3 := []) (NZ3 := []) W Aa Aa AB AB ?_
    refine OA (R := []) F Aa Aa (yC fun M Z hN hZ => Cg (v := Value.agg #[v2, v3, .int .i64 (-1)]) PK F Aa (A9 Aa (Cm (W.one (k := 0) Aa)) Aa (A9 Aa (Cm (W.one (k := 1) Aa)) Aa (A9 Aa Aa Aa De))) Aa) Aa Aa fun a F => ?_
    refine I4 Aa ?_
    refine Br (vs := [v2, v3, .int .i64 (-1)]) (M' := [(b2, [v2, v3, .int .i64 (-1)]), (b1, [.slice none 0 0, .slice none 0 0, .int .i64 0])]) 0 F W Aa Aa Aa Mx Aa Aa Aa (AN (W.one (k := 0) Aa) (AN (W.one (k := 1) Aa) (AN Aa Em))) Aa fun w W => ?_
    refine DA (N2 := []) (NZ2 := []) (N3 := []) (NZ3 := []) W Aa Aa AB AB ?_
    have W := W.frontZ (i := 1) Aa Aa
    have W := W.frontM (i := 1) Aa Aa
    have W := W.frontM (i := 1) Aa Aa
    refine KK ?_
    exact ⟨b2, v2, v3, F.re ⟨rfl, Aa, Aa, Aa, Aa, Aa, Aa, Aa, Aa, trivial⟩, W⟩
   exact trivial
  refine MS Aa ?_ ?_
  ·
   refine Cn (cs := [.slice none 0 0, .slice none 0 0, .int .i64 0]) F W Aa Om Aa fun b2 a w F W => ?_
   refine DA (N2 := []) (NZ2 := []) (N3 := []) (NZ3 := []) W Aa Aa AB AB ?_
   refine MS Aa ?_ ?_
   ·
    refine Iq (r := (Rp.int .i64)) (0 : Int) F W Aa Eo Z3 Aa Aa (fun w A => Fl.int.mk' w A _) h1 Aa fun v2 a w F W => ?_
    refine DA (N2 := []) (NZ2 := []) (N3 := []) (NZ3 := []) W Aa Aa AB AB ?_
    refine I4 Aa ?_
    refine Iq (r := (Rp.int .i64)) (0 : Int) F W Aa Eo Z3 Aa Aa (fun w A => Fl.int.mk' w A _) h2 Aa fun v3 a w F W => ?_
    refine DA (N2 := []) (NZ2 := []) (N3 := []) (NZ3 := []) W Aa Aa AB AB ?_
    refine OA (R := []) F Aa Aa (yC fun M Z hN hZ => Cg (v := Value.agg #[v2, v3, .int .i64 (-1)]) PK F Aa (A9 Aa (Cm (W.one (k := 1) Aa)) Aa (A9 Aa (Cm (W.one (k := 0) Aa)) Aa (A9 Aa Aa Aa De))) Aa) Aa Aa fun a F => ?_
    refine I4 Aa ?_
    refine Br (vs := [v2, v3, .int .i64 (-1)]) (M' := [(b2, [v2, v3, .int .i64 (-1)]), (b1, [.slice none 0 0, .slice none 0 0, .int .i64 0])]) 0 F W Aa Aa Aa Mx Aa Aa Aa (AN (W.one (k := 1) Aa) (AN (W.one (k := 0) Aa) (AN Aa Em))) Aa fun w W => ?_
    refine DA (N2 := []) (NZ2 := []) (N3 := []) (NZ3 := []) W Aa Aa AB AB ?_
    have W := W.frontZ (i := 1) Aa Aa
    have W := W.frontZ (i := 1) Aa Aa
    have W := W.frontM (i := 1) Aa Aa
    have W := W.frontM (i := 1) Aa Aa
    refine KK ?_
    exact ⟨b2, v2, v3, F.re ⟨rfl, Aa, Aa, Aa, Aa, Aa, Aa, Aa, Aa, trivial⟩, W⟩
   refine MS Aa ?_ ?_
   ·
    refine Iq (r := (Rp.int .i64)) (0 : Int) F W Aa Eo Z3 Aa Aa (fun w A => Fl.int.mk' w A _) h2 Aa fun v3 a w F W => ?_
    refine DA (N2 := []) (NZ2 := []) (N3 := []) (NZ3 := []) W Aa Aa AB AB ?_
    refine I4 Aa ?_
    refine Iq (r := (Rp.int .i64)) (0 : Int) F W Aa Eo Z3 Aa Aa (fun w A => Fl.int.mk' w A _) h1 Aa fun v2 a w F W => ?_
    refine DA (N2 := []) (NZ2 := []) (N3 := []) (NZ3 := []) W Aa Aa AB AB ?_
    refine OA (R := []) F Aa Aa (yC fun M Z hN hZ => Cg (v := Value.agg #[v2, v3, .int .i64 (-1)]) PK F Aa (A9 Aa (Cm (W.one (k := 0) Aa)) Aa (A9 Aa (Cm (W.one (k := 1) Aa)) Aa (A9 Aa Aa Aa De))) Aa) Aa Aa fun a F => ?_
    refine I4 Aa ?_
    refine Br (vs := [v2, v3, .int .i64 (-1)]) (M' := [(b2, [v2, v3, .int .i64 (-1)]), (b1, [.slice none 0 0, .slice none 0 0, .int .i64 0])]) 0 F W Aa Aa Aa Mx Aa Aa Aa (AN (W.one (k := 0) Aa) (AN (W.one (k := 1) Aa) (AN Aa Em))) Aa fun w W => ?_
    refine DA (N2 := []) (NZ2 := []) (N3 := []) (NZ3 := []) W Aa Aa AB AB ?_
    have W := W.frontZ (i := 1) Aa Aa
    have W := W.frontM (i := 1) Aa Aa
    have W := W.frontM (i := 1) Aa Aa
    refine KK ?_
    exact ⟨b2, v2, v3, F.re ⟨rfl, Aa, Aa, Aa, Aa, Aa, Aa, Aa, Aa, trivial⟩, W⟩
   exact trivial
  exact trivial
 rintro a w ⟨b2, v2, v3, F, W⟩
 refine Ab (Ah (wp_label (Ab ?_)))
 obtain ⟨o1, G1, K1⟩ := Al H
 refine AC (fun a w => ∃ x3 : List Int, ∃ x4 : List Int, ∃ x5 : Int, some ((x3, x4, x5)) = some o1 ∧ Fr 64 [] [(4, .pointer (some ⟨b1, 0, none⟩)), (5, .pointer (some ⟨b2, 0, none⟩))] a ∧ Stw ⟨Y, [], w0⟩ [(b2, [v2, v3, .int .i64 x5]), (b1, [.slice none 0 0, .slice none 0 0, .int .i64 0])] [row v2 3 (Rp.int .i64) x3, row v3 3 (Rp.int .i64) x4] w) ?_ ?_
 ·
  have H := G1
  clear G1 K1
  refine Ah (Ac ?_)
  refine ls F W Aa (Af F Aa).q fun a w F W => ?_
  refine Ae (Ab (wp_block ?_))
  have W := W.frontZ (i := 1) Aa Aa
  have W := W.frontM (i := 1) Aa Aa
  have W := W.frontM (i := 1) Aa Aa
  refine A1 H (fun s a w => Fr 64 [] [(0, .int .i64 p0), (1, v1), (4, .pointer (some ⟨b1, 0, none⟩)), (5, .pointer (some ⟨b2, 0, none⟩)), (6, .int .i64 s.1)] a ∧ Stw ⟨Y, [], w0⟩ [(b2, [v2, v3, .int .i64 (-1)]), (b1, [.slice none 0 0, .slice none 0 0, .int .i64 0])] [row v2 3 (Rp.int .i64) s.2.1, row v3 3 (Rp.int .i64) s.2.2] w) ⟨F.re ⟨rfl, Aa, Aa, Aa, Aa, trivial⟩, W⟩ fun s o a w H L2 hR => ?_
  obtain ⟨x6, x7, x8⟩ := s
  obtain ⟨F, W⟩ := hR
  have F : Fr 64 [] [(0, .int .i64 p0), (1, v1), (4, .pointer (some ⟨b1, 0, none⟩)), (5, .pointer (some ⟨b2, 0, none⟩)), (6, .int .i64 x6)] a := F
  have W : Stw ⟨Y, [], w0⟩ [(b2, [v2, v3, .int .i64 (-1)]), (b1, [.slice none 0 0, .slice none 0 0, .int .i64 0])] [row v2 3 (Rp.int .i64) x7, row v3 3 (Rp.int .i64) x8] w := W
  rw [DB] at H
  obtain ⟨o3, G3, K3, L3⟩ := Jb H
  refine AC (fun a w => ∃ x9 : List Int, ∃ x10 : List Int, some (Sum.inl (x9, x10)) = some o3 ∧ Fr 64 [] [(0, .int .i64 p0), (1, v1), (4, .pointer (some ⟨b1, 0, none⟩)), (5, .pointer (some ⟨b2, 0, none⟩)), (6, .int .i64 x6)] a ∧ Stw ⟨Y, [], w0⟩ [(b2, [v2, v3, .int .i64 (-1)]), (b1, [.slice none 0 0, .slice none 0 0, .int .i64 0])] [row v2 3 (Rp.int .i64) x9, row v3 3 (Rp.int .i64) x10] w) ?_ ?_
  ·
   have H := G3
   clear G3 K3
   refine wp_block (Ah (Ac ?_))
   refine ls F W Aa (Af F Aa).q fun a w F W => ?_
   refine Ae (Ab ?_)
   obtain ⟨o4, G4, K4, L4⟩ := Jb H
   refine AC (fun a w => ∃ x11 : Bool, ∃ x12 : List Int, ∃ x13 : List Int, some (Sum.inl (x11, x12, x13)) = some o4 ∧ Fr 64 [] [(0, .int .i64 p0), (1, v1), (4, .pointer (some ⟨b1, 0, none⟩)), (5, .pointer (some ⟨b2, 0, none⟩)), (6, .int .i64 x6), (7, .bool x11)] a ∧ Stw ⟨Y, [], w0⟩ [(b2, [v2, v3, .int .i64 (-1)]), (b1, [.slice none 0 0, .slice none 0 0, .int .i64 0])] [row v2 3 (Rp.int .i64) x12, row v3 3 (Rp.int .i64) x13] w) ?_ ?_
   ·
    have H := G4
    clear G4 K4
    refine Ah (Ac ?_)
    refine ls F W Aa (Ad F Aa).q fun a w F W => ?_
    refine ls F W Aa (BP (r := MZ) (l := p1) Qz Aa F Aa (Am h_v1)).q fun a w F W => ?_
    refine ls F W Aa (Ad F Aa).q fun a w F W => ?_
    refine Ae (Ab (wp_block ?_))
    have W := W.frontZ (i := 1) Aa Aa
    have W := W.frontZ (i := 1) Aa Aa
    have W := W.frontM (i := 1) Aa Aa
    have W := W.frontM (i := 1) Aa Aa
    refine A1 H (fun s a w => Fr 64 [] [(0, .int .i64 p0), (1, v1), (4, .pointer (some ⟨b1, 0, none⟩)), (5, .pointer (some ⟨b2, 0, none⟩)), (6, .int .i64 x6), (7, .bool s.1), (18, v1), (19, .int .i64 (p1.length : Int)), (20, .int .i64 s.2.1)] a ∧ Stw ⟨Y, [], w0⟩ [(b2, [v2, v3, .int .i64 (-1)]), (b1, [.slice none 0 0, .slice none 0 0, .int .i64 0])] [row v2 3 (Rp.int .i64) s.2.2.1, row v3 3 (Rp.int .i64) s.2.2.2] w) ⟨F.re ⟨rfl, Aa, Aa, Aa, Aa, Aa, Aa, Aa, Aa, trivial⟩, W⟩ fun s o a w H L5 hR => ?_
    obtain ⟨x14, x15, x16, x17⟩ := s
    obtain ⟨F, W⟩ := hR
    have F : Fr 64 [] [(0, .int .i64 p0), (1, v1), (4, .pointer (some ⟨b1, 0, none⟩)), (5, .pointer (some ⟨b2, 0, none⟩)), (6, .int .i64 x6), (7, .bool x14), (18, v1), (19, .int .i64 (p1.length : Int)), (20, .int .i64 x15)] a := F
    have W : Stw ⟨Y, [], w0⟩ [(b2, [v2, v3, .int .i64 (-1)]), (b1, [.slice none 0 0, .slice none 0 0, .int .i64 0])] [row v2 3 (Rp.int .i64) x16, row v3 3 (Rp.int .i64) x17] w := W
    rw [CA] at H
    refine Ah (Ac ?_)
    refine ls F W Aa (Bk F Aa Aa).q fun a w F W => ?_
    refine Ae (Ab (Ah ?_))
    refine Aw F Aa (fun hb => ?_) fun hb => ?_
    ·
     have H := AL (A6 hb) H
     rw [hb] at F
     clear hb
     refine wp_skip (Ab ?_)
     obtain ⟨o6, G6, K6, L6⟩ := Jb H
     refine AC (fun a w => ∃ x18 : Bool, ∃ x19 : List Int, ∃ x20 : List Int, some (Sum.inl (x18, x19, x20)) = some o6 ∧ Fr 64 [] [(0, .int .i64 p0), (1, v1), (4, .pointer (some ⟨b1, 0, none⟩)), (5, .pointer (some ⟨b2, 0, none⟩)), (6, .int .i64 x6), (7, .bool x18), (18, v1), (19, .int .i64 (p1.length : Int)), (20, .int .i64 x15)] a ∧ Stw ⟨Y, [], w0⟩ [(b2, [v2, v3, .int .i64 (-1)]), (b1, [.slice none 0 0, .slice none 0 0, .int .i64 0])] [row v2 3 (Rp.int .i64) x19, row v3 3 (Rp.int .i64) x20] w) ?_ ?_
     ·
      have H := G6
      clear G6 K6
      refine wp_block (Ah (Ac ?_))
      refine ls F W Aa (Ad F Aa).q fun a w F W => ?_
      obtain ⟨x21, h3, H⟩ := Al H
      refine ls F W Aa (Ay (r := MZ) SB F Aa Aa (Am h_v1) h3).q fun a w F W => ?_
      refine ls F W Aa (Ap (y := Value.agg #[.int .i64 x21.1, .int .i64 x21.2.1, .int .i64 x21.2.2]) (j := 0) (i := x15) F Aa Aa (Am h_v1) h3 SX.to Sz Aa).q fun a w F W => ?_
      refine Cn (cs := [.int .i64 0, .int .i64 0, .int .i64 0]) F W Aa SP Aa fun b3 a w F W => ?_
      refine ls F W Aa (Af F Aa).q fun a w F W => ?_
      refine Br (vs := [.int .i64 x21.1, .int .i64 x21.2.1, .int .i64 x21.2.2]) (M' := [(b3, [.int .i64 x21.1, .int .i64 x21.2.1, .int .i64 x21.2.2]), (b2, [v2, v3, .int .i64 (-1)]), (b1, [.slice none 0 0, .slice none 0 0, .int .i64 0])]) 0 F W Aa Aa Aa Sz Aa Aa Aa Aa Aa fun w W => ?_
      refine Ae (Ab (Ah ?_))
      refine BB W MO (by kernel_rfl) ?_
      refine qs F Aa (Ai Lj Aa Aa Aa JB F Aa 0 Aa).q fun a F => ?_
      refine qs F Aa (As (v := v2) 1 F Aa Aa JB Aa).q fun a F => ?_
      refine qs F Aa (Ai KN Aa Aa Aa T3 F Aa 0 Aa).q fun a F => ?_
      refine qs F Aa (As (v := Value.int .i64 x21.1) 0 F Aa Aa T3 Aa).q fun a F => ?_
      obtain ⟨x22, h4, H⟩ := Al H
      refine qs F Aa (Ay (r := (Rp.int .i64)) Eo F Aa Aa (Ao 0 Aa) h4).q fun a F => ?_
      refine qs F Aa (Ap (y := Value.int .i64 x22) (j := 0) (i := x21.1) F Aa Aa (Ao 0 Aa) h4 Fl.int.to T3 Aa).q fun a F => ?_
      refine qs F Aa (Ai KN Aa Aa Aa T3 F Aa 2 Aa).q fun a F => ?_
      refine qs F Aa (As (v := Value.int .i64 x21.2.2) 0 F Aa Aa T3 Aa).q fun a F => ?_
      refine qs F Aa (A3 F Aa Aa Aa).q fun a F => ?_
      refine qs F Aa (Af F Aa).q fun a F => ?_
      refine AR fun w W => ?_
      refine Ab (Ah (Ah (Ac ?_)))
      refine ls F W Aa (Ai Lj Aa Aa Aa JB F Aa 0 Aa).q fun a w F W => ?_
      refine ls F W Aa (As (v := v2) 1 F Aa Aa JB Aa).q fun a w F W => ?_
      refine ls F W Aa (Ai KN Aa Aa Aa T3 F Aa 1 Aa).q fun a w F W => ?_
      refine ls F W Aa (As (v := Value.int .i64 x21.2.1) 0 F Aa Aa T3 Aa).q fun a w F W => ?_
      obtain ⟨x23, h5, H⟩ := Al H
      refine ls F W Aa (Ay (r := (Rp.int .i64)) Eo F Aa Aa (Ao 0 Aa) h5).q fun a w F W => ?_
      refine ls F W Aa (Ap (y := Value.int .i64 x23) (j := 0) (i := x21.2.1) F Aa Aa (Ao 0 Aa) h5 Fl.int.to T3 Aa).q fun a w F W => ?_
      refine ls F W Aa (Ad F Aa).q fun a w F W => ?_
      refine ls F W Aa (Dj F Aa Aa).q fun a w F W => ?_
      refine Ae (Ab ?_)
      refine Aw F Aa (fun hb => ?_) fun hb => ?_
      ·
       have H := AL (A6 hb) H
       rw [hb] at F
       clear hb
       refine wp_exit (A5 (AU (Ab ?_)))
       have W := W.frontZ (i := 1) Aa Aa
       have W := W.frontZ (i := 1) Aa Aa
       have W := W.frontM (i := 2) Aa Aa
       have W := W.frontM (i := 2) Aa Aa
       have W := W.sub (M' := [(b2, [v2, v3, .int .i64 (-1)]), (b1, [.slice none 0 0, .slice none 0 0, .int .i64 0])]) (Z' := [row v2 3 (Rp.int .i64) x16, row v3 3 (Rp.int .i64) x17]) (List.Sublist.cons_cons _ (List.Sublist.cons_cons _ (List.nil_sublist _))) (List.Sublist.refl _)
       exact ⟨_, _, _, H, F.re ⟨rfl, Aa, Aa, Aa, Aa, Aa, Aa, Aa, Aa, trivial⟩, W⟩
      have H := AK (A7 hb) H
      rw [hb] at F
      clear hb
      refine wp_skip (Ab (Ah ?_))
      refine Ev [(true, 0), (true, 1), (true, 2), (true, 3), (true, 4), (true, 5), (true, 6), (true, 7), (true, 8), (true, 9), (true, 10), (false, 11), (true, 12), (false, 13)] (CN ⟨Y, [], w0⟩ [(some 11, b2, [v2, v3, .int .i64 (-1)]), (some 11, b3, [.int .i64 x21.1, .int .i64 x21.2.1, .int .i64 x21.2.2]), (some 13, b2, [v2, v3, .int .i64 (-1)]), (some 13, b3, [.int .i64 x21.1, .int .i64 x21.2.1, .int .i64 x21.2.2])] []) (fun ch a d v w h => by cases d <;> exact h) MO (by kernel_rfl) W (fun w W => ⟨_, _, W, (Bi (fun _ => (.tail _ (.head _))) (Bi (fun _ => (.head _)) (Bi (fun _ => (.tail _ (.head _))) (Bi (fun _ => (.head _)) AB)))), AB⟩) fun w W => ?_
      refine Bo (R := []) F Aa Aa (yC fun M Z hN hZ => Ai Lj Aa Aa Aa JB F Aa 0 Aa) Aa Aa fun a F => ?_
      refine Bo (R := [11]) F Aa Aa (yC fun M Z hN hZ => Ka (cs := [v2, v3, .int .i64 (-1)]) (v := v2) F Aa (hN ((some 11), b2, [v2, v3, .int .i64 (-1)]) (.head _) Aa) JB Aa) (by kernel_rfl) Aa fun a F => ?_
      refine Bo (R := []) F Aa Aa (yC fun M Z hN hZ => Ai KN Aa Aa Aa T3 F Aa 1 Aa) Aa Aa fun a F => ?_
      refine Bo (R := [11]) F Aa Aa (yC fun M Z hN hZ => Ka (cs := [.int .i64 x21.1, .int .i64 x21.2.1, .int .i64 x21.2.2]) (v := Value.int .i64 x21.2.1) F Aa (hN ((some 11), b3, [.int .i64 x21.1, .int .i64 x21.2.1, .int .i64 x21.2.2]) (.tail _ (.head _)) Aa) T3 Aa) (by kernel_rfl) Aa fun a F => ?_
      refine Bo (R := []) F Aa Aa (yC fun M Z hN hZ => Ai Lj Aa Aa Aa JB F Aa 1 Aa) Aa Aa fun a F => ?_
      refine Bo (R := [13]) F Aa Aa (yC fun M Z hN hZ => Ka (cs := [v2, v3, .int .i64 (-1)]) (v := v3) F Aa (hN ((some 13), b2, [v2, v3, .int .i64 (-1)]) (.tail _ (.tail _ (.head _))) Aa) JB Aa) (by kernel_rfl) Aa fun a F => ?_
      refine Bo (R := []) F Aa Aa (yC fun M Z hN hZ => Ai KN Aa Aa Aa T3 F Aa 1 Aa) Aa Aa fun a F => ?_
      refine Bo (R := [13]) F Aa Aa (yC fun M Z hN hZ => Ka (cs := [.int .i64 x21.1, .int .i64 x21.2.1, .int .i64 x21.2.2]) (v := Value.int .i64 x21.2.1) F Aa (hN ((some 13), b3, [.int .i64 x21.1, .int .i64 x21.2.1, .int .i64 x21.2.2]) (.tail _ (.tail _ (.tail _ (.head _)))) Aa) T3 Aa) (by kernel_rfl) Aa fun a F => ?_
      iterate 2 refine Bo (R := []) F Aa Aa (yC fun M Z hN hZ => Ad F Aa) Aa Aa fun a F => ?_
      obtain ⟨x24, h6, H⟩ := Al H
      refine Bo (R := []) F Aa Aa (yC fun M Z hN hZ => Bu (r := (Rp.int .i64)) Eo F Aa Aa (CT W (Ao 0 Aa)) h6) Aa Aa fun a F => ?_
      refine Gc Aa ?_
      refine Bh (i := x21.2.1) (j := 0) (vs := [.int .i64 (AA (x22 + x21.2.2))]) (x' := AA (x22 + x21.2.2)) F W Aa Aa Aa (k := 0) Aa Aa h6 T3 Aa Aa Aa Aa (fun A cs _ => Fl.int.sto (by rfl) _ _ _) fun w W => ?_
      refine CE (N2 := []) (NZ2 := []) (N3 := [(some 11, b2, [v2, v3, .int .i64 (-1)]), (some 11, b3, [.int .i64 x21.1, .int .i64 x21.2.1, .int .i64 x21.2.2]), (some 13, b2, [v2, v3, .int .i64 (-1)]), (some 13, b3, [.int .i64 x21.1, .int .i64 x21.2.1, .int .i64 x21.2.2])]) (NZ3 := []) W Aa Aa (Bi (fun h => Ch (by kernel_rfl) h) (Bi (fun h => Ch (by kernel_rfl) h) (Bi (fun _ => (.tail _ (.head _))) (Bi (fun _ => (.head _)) AB)))) AB ?_
      obtain ⟨x25, h7, H⟩ := Al H
      refine Bo (R := []) F Aa Aa (yC fun M Z hN hZ => Bu (r := (Rp.int .i64)) Eo F Aa Aa (CT W (Ao 1 Aa)) h7) Aa Aa fun a F => ?_
      refine Gc Aa ?_
      refine Bh (i := x21.2.1) (j := 0) (vs := [.int .i64 x15]) (x' := x15) F W Aa Aa Aa (k := 1) Aa Aa h7 T3 Aa Aa Aa Aa (fun A cs _ => Fl.int.sto (by rfl) _ _ _) fun w W => ?_
      refine CE (N2 := []) (NZ2 := []) (N3 := [(some 11, b2, [v2, v3, .int .i64 (-1)]), (some 11, b3, [.int .i64 x21.1, .int .i64 x21.2.1, .int .i64 x21.2.2]), (some 13, b2, [v2, v3, .int .i64 (-1)]), (some 13, b3, [.int .i64 x21.1, .int .i64 x21.2.1, .int .i64 x21.2.2])]) (NZ3 := []) W Aa Aa (Bi (fun h => Ch (by kernel_rfl) h) (Bi (fun h => Ch (by kernel_rfl) h) (Bi (fun h => Ch (by kernel_rfl) h) (Bi (fun h => Ch (by kernel_rfl) h) AB)))) AB ?_
      refine Gs (Ab (Ah (Ac ?_)))
      refine ls F W Aa (Af F Aa).q fun a w F W => ?_
      refine Ae (Ab (Ah (Ac ?_)))
      iterate 2 refine ls F W Aa (Ad F Aa).q fun a w F W => ?_
      refine ls F W Aa (Cy F Aa Aa).q fun a w F W => ?_
      refine Ae (Ab ?_)
      refine Aw F Aa (fun hb => ?_) fun hb => ?_
      ·
       have H := AL (A6 hb) H
       rw [hb] at F
       clear hb
       refine Ah (Ac ?_)
       refine ls F W Aa (Ai KN Aa Aa Aa T3 F Aa 1 Aa).q fun a w F W => ?_
       refine ls F W Aa (As (v := Value.int .i64 x21.2.1) 0 F Aa Aa T3 Aa).q fun a w F W => ?_
       refine ls F W Aa (Ai Lj Aa Aa Aa T3 F Aa 2 Aa).q fun a w F W => ?_
       refine Br (vs := [.int .i64 x21.2.1]) (M' := [(b3, [.int .i64 x21.1, .int .i64 x21.2.1, .int .i64 x21.2.2]), (b2, [v2, v3, .int .i64 x21.2.1]), (b1, [.slice none 0 0, .slice none 0 0, .int .i64 0])]) 1 F W Aa Aa Aa T3 Aa Aa Aa Aa Aa fun w W => ?_
       refine Ae (Ab (wp_exit ?_))
       refine H1 Aa ?_
       iterate 2 refine A5 ?_
       refine H1 Aa ?_
       refine A5 ?_
       refine H1 Aa ?_
       iterate 2 refine A5 ?_
       refine AU (Ab ?_)
       have W := W.frontZ (i := 1) Aa Aa
       have W := W.frontM (i := 2) Aa Aa
       have W := W.frontM (i := 2) Aa Aa
       have W := W.sub (M' := [(b2, [v2, v3, .int .i64 x21.2.1]), (b1, [.slice none 0 0, .slice none 0 0, .int .i64 0])]) (Z' := [row v2 3 (Rp.int .i64) (AQ x16 x21.2.1 (AA (x22 + x21.2.2))), row v3 3 (Rp.int .i64) (AQ x17 x21.2.1 x15)]) (List.Sublist.cons_cons _ (List.Sublist.cons_cons _ (List.nil_sublist _))) (List.Sublist.refl _)
       have H := L6 _ H
       have H := L5 _ H
       have H := L4 _ H
       have H := L3 _ H
       have H := L2 _ H
       exact ⟨_, _, _, H, F.re ⟨rfl, Aa, trivial⟩, W⟩
      have H := AK (A7 hb) H
      rw [hb] at F
      clear hb
      refine wp_skip (AH (Ab ?_))
      have W := W.frontZ (i := 1) Aa Aa
      have W := W.frontM (i := 2) Aa Aa
      have W := W.frontM (i := 2) Aa Aa
      have W := W.sub (M' := [(b2, [v2, v3, .int .i64 (-1)]), (b1, [.slice none 0 0, .slice none 0 0, .int .i64 0])]) (Z' := [row v2 3 (Rp.int .i64) (AQ x16 x21.2.1 (AA (x22 + x21.2.2))), row v3 3 (Rp.int .i64) (AQ x17 x21.2.1 x15)]) (List.Sublist.cons_cons _ (List.Sublist.cons_cons _ (List.nil_sublist _))) (List.Sublist.refl _)
      exact ⟨_, _, _, H, F.re ⟨rfl, Aa, Aa, Aa, Aa, Aa, Aa, Aa, Aa, trivial⟩, W⟩
     rintro a w ⟨x18, x19, x20, hj, F, W⟩
     have H := K6 _ hj
     clear hj G6 K6 L6
     refine Ac ?_
     refine ls F W Aa (A3 F Aa Aa Aa).q fun a w F W => ?_
     refine ls F W Aa (Ad F Aa).q fun a w F W => ?_
     refine Ae (Ab ?_)
     have W := W.frontZ (i := 1) Aa Aa
     have W := W.frontZ (i := 1) Aa Aa
     have W := W.frontM (i := 1) Aa Aa
     have W := W.frontM (i := 1) Aa Aa
     exact ⟨_, H, F.re ⟨rfl, Aa, Aa, Aa, Aa, Aa, Aa, Aa, Aa, trivial⟩, W⟩
    have H := AK (A7 hb) H
    rw [hb] at F
    clear hb
    refine wp_exit ?_
    iterate 2 refine A5 ?_
    refine AU (Ab ?_)
    have W := W.frontZ (i := 1) Aa Aa
    have W := W.frontZ (i := 1) Aa Aa
    have W := W.frontM (i := 1) Aa Aa
    have W := W.frontM (i := 1) Aa Aa
    have H := L5 _ H
    exact ⟨_, _, _, H, F.re ⟨rfl, Aa, Aa, Aa, Aa, Aa, trivial⟩, W⟩
   rintro a w ⟨x11, x12, x13, hj, F, W⟩
   have H := K4 _ hj
   clear hj G4 K4 L4
   refine Ah (Ac ?_)
   refine ls F W Aa (Ad F Aa).q fun a w F W => ?_
   refine ls F W Aa (Dt F Aa).q fun a w F W => ?_
   refine Ae (Ab ?_)
   refine Aw F Aa (fun hb => ?_) fun hb => ?_
   ·
    have H := AL hb H
    rw [hb] at F
    clear hb
    refine wp_exit ?_
    refine H1 Aa ?_
    iterate 2 refine A5 ?_
    refine AU (Ab ?_)
    have W := W.frontZ (i := 1) Aa Aa
    have W := W.frontZ (i := 1) Aa Aa
    have W := W.frontM (i := 1) Aa Aa
    have W := W.frontM (i := 1) Aa Aa
    have H := L3 _ H
    have H := L2 _ H
    exact ⟨_, _, _, H, F.re ⟨rfl, Aa, trivial⟩, W⟩
   have H := AK (by rw [hb]; decide) H
   rw [hb] at F
   clear hb
   refine wp_skip (AH (Ab ?_))
   have W := W.frontZ (i := 1) Aa Aa
   have W := W.frontZ (i := 1) Aa Aa
   have W := W.frontM (i := 1) Aa Aa
   have W := W.frontM (i := 1) Aa Aa
   exact ⟨_, _, H, F.re ⟨rfl, Aa, Aa, Aa, Aa, trivial⟩, W⟩
  rintro a w ⟨x9, x10, hj, F, W⟩
  have H := K3 _ hj
  clear hj G3 K3 L3
  refine Ac ?_
  refine ls F W Aa (Ad F Aa).q fun a w F W => ?_
  refine ls F W Aa (A3 F Aa Aa Aa).q fun a w F W => ?_
  refine ls F W Aa (Af F Aa).q fun a w F W => ?_
  refine Ae (Ab ?_)
  have W := W.frontZ (i := 1) Aa Aa
  have W := W.frontZ (i := 1) Aa Aa
  have W := W.frontM (i := 1) Aa Aa
  have W := W.frontM (i := 1) Aa Aa
  exact ⟨_, H, F.re ⟨rfl, Aa, Aa, Aa, Aa, trivial⟩, W⟩
 rintro a w ⟨x3, x4, x5, hj, F, W⟩
 have hj := AM hj
 subst hj
 have H := K1
 clear G1 K1
 refine Ah (Ac ?_)
 refine ls F W Aa (As (v := Value.agg #[v2, v3, .int .i64 x5]) 0 F Aa Aa Mx Aa).q fun a w F W => ?_
 refine Br (vs := [v2, v3, .int .i64 x5]) (M' := [(b2, [v2, v3, .int .i64 x5]), (b1, [v2, v3, .int .i64 x5])]) 1 F W Aa Aa Aa Mx Aa Aa Aa (AN (W.one (k := 0) Aa) (AN (W.one (k := 1) Aa) (AN Aa Em))) Aa fun w W => ?_
 refine Ae (Ab (wp_ret (SG ?_)))
 have H := AM H
 subst H
 refine Bl (.inl Aa) F W Aa (ET 1 F Aa Aa Mx Aa) ?_
 have W := W.frontZ (i := 1) Aa Aa
 have W := W.frontZ (i := 1) Aa Aa
 have W := W.sub (M' := []) (Z' := [row v2 3 (Rp.int .i64) x3, row v3 3 (Rp.int .i64) x4]) (List.nil_sublist _) (List.Sublist.refl _)
 exact ⟨((v2), (v3)), Aa, W⟩
theorem Un : Has Try.prog 58 := ⟨fun args w => An Try.func58 rfl (by decide) args w⟩
noncomputable def ED (p0 : Int) (p1 : List (Int × Int × Int)) : Option (List Int × Bool) := (Gd p0 p1).bind fun x1 => (if (!x1) = true then some (([] : List Int), false) else (Gb p0 p1).bind fun x2 => (if 0 ≤ x2.2.2 then some (([] : List Int), false) else some (x2.1, true)))
theorem LF (Y : Nat → Prop) (w0 : World) (v1 : Value) (p0 : Int) (p1 : List (Int × Int × Int)) (r : List Int × Bool) (H : ED p0 p1 = some r) (h_v1 : Sl w0 (NX []) MZ v1 p1) :
    Calls Try.prog 41 #[.int .i64 p0, v1] w0 fun e w' => ∃ x : Value, e = .returned (.tuple #[x, .bool r.2]) ∧ Stw ⟨Y, [], w0⟩ [] [row (x) 3 (Rp.int .i64) r.1] w' := by
 refine enter Try.func41 Aa Try.ntmps41 Aa fun a F => ?_
 have W := Stw.start Y w0
 unfold ED at H
 refine Ah (Ac ?_)
 iterate 2 refine ls F W Aa (Af F Aa).q fun a w F W => ?_
 refine Ae (Ab (Ah (Ah (Ac ?_))))
 iterate 2 refine ls F W Aa (Ad F Aa).q fun a w F W => ?_
 obtain ⟨x1, h1, H⟩ := Al H
 refine ls F W Aa (BH (v := Value.bool x1) F UP Aa (fun w W => Nj any w (v1) p0 p1 _ h1 (((Am h_v1) : DT _ _ _ _ _ _) w W).nx)) fun a w F W => ?_
 refine ls F W Aa (Dt F Aa).q fun a w F W => ?_
 refine Ae (Ab ?_)
 refine Aw F Aa (fun hb => ?_) fun hb => ?_
 ·
  have H := AL hb H
  rw [hb] at F
  clear hb
  refine Ah (Ac ?_)
  iterate 2 refine ls F W Aa (Af F Aa).q fun a w F W => ?_
  refine Ae (Ab (wp_ret (AG ?_)))
  have H := AM H
  subst H
  refine CY (.inl Aa) F W Aa (Av F Aa) (Av F Aa) ?_
  have W := W.nilRow 3 (Rp.int .i64)
  exact ⟨(Value.slice none 0 0), Aa, W⟩
 have H := AK (by rw [hb]; decide) H
 rw [hb] at F
 clear hb
 refine wp_skip (Ab (Ah (Ac ?_)))
 iterate 2 refine ls F W Aa (Ad F Aa).q fun a w F W => ?_
 obtain ⟨x2, h2, H⟩ := Al H
 refine Bp (Ml := []) (Zl := []) (M := []) (Z := []) (β := Value × Value) (rv := fun x => .agg #[x.1, x.2, .int .i64 x2.2.2]) (MM := fun x => []) (ZZ := fun x => [row x.1 3 (Rp.int .i64) x2.1, row x.2 3 (Rp.int .i64) x2.2.1]) F W Un Aa Aa (fun hL => Nw _ w (v1) p0 p1 _ h2 ((Am h_v1) w W).nx) fun x a w F W => ?_
 obtain ⟨v2, v3⟩ := x
 have W : Stw ⟨Y, [], w0⟩ [] [row v2 3 (Rp.int .i64) x2.1, row v3 3 (Rp.int .i64) x2.2.1] w := W
 refine Cn (cs := [.slice none 0 0, .slice none 0 0, .int .i64 0]) F W Aa Om Aa fun b1 a w F W => ?_
 refine Br (vs := [v2, v3, .int .i64 x2.2.2]) (M' := [(b1, [v2, v3, .int .i64 x2.2.2])]) 0 F W Aa Aa Aa Mx Aa Aa Aa (AN (W.one (k := 0) Aa) (AN (W.one (k := 1) Aa) (AN Aa Em))) Aa fun w W => ?_
 refine Ae (Ab (Ah (Ah (Ac ?_))))
 refine ls F W Aa (Ai Lj Aa Aa Aa T3 F Aa 2 Aa).q fun a w F W => ?_
 refine ls F W Aa (As (v := Value.int .i64 x2.2.2) 0 F Aa Aa T3 Aa).q fun a w F W => ?_
 refine ls F W Aa (Dj F Aa Aa).q fun a w F W => ?_
 refine Ae (Ab ?_)
 refine Aw F Aa (fun hb => ?_) fun hb => ?_
 ·
  have H := AL (A6 hb) H
  rw [hb] at F
  clear hb
  refine Ah (Ac ?_)
  iterate 2 refine ls F W Aa (Af F Aa).q fun a w F W => ?_
  refine Ae (Ab (wp_ret (AG ?_)))
  have H := AM H
  subst H
  refine CY (.inl Aa) F W Aa (Av F Aa) (Av F Aa) ?_
  have W := W.nilRow 3 (Rp.int .i64)
  have W := W.sub (M' := []) (Z' := [row (Value.slice none 0 0) 3 (Rp.int .i64) ([])]) (List.nil_sublist _) (List.Sublist.cons_cons _ (List.nil_sublist _))
  exact ⟨(Value.slice none 0 0), Aa, W⟩
 have H := AK (A7 hb) H
 rw [hb] at F
 clear hb
 refine wp_skip (Ab (Ah (Ac ?_)))
 refine ls F W Aa (Ai Lj Aa Aa Aa JB F Aa 0 Aa).q fun a w F W => ?_
 refine ls F W Aa (As (v := v2) 0 F Aa Aa JB Aa).q fun a w F W => ?_
 iterate 2 refine ls F W Aa (Af F Aa).q fun a w F W => ?_
 refine Ae (Ab (wp_ret ?_))
 have H := AM H
 subst H
 refine CY (.inl Aa) F W Aa (Av F Aa) (Av F Aa) ?_
 have W := W.sub (M' := []) (Z' := [row v2 3 (Rp.int .i64) x2.1]) (List.nil_sublist _) (List.Sublist.cons_cons _ (List.nil_sublist _))
 exact ⟨(v2), Aa, W⟩
theorem UZ : Has Try.prog 41 := ⟨fun args w => An Try.func41 rfl (by decide) args w⟩
noncomputable def CW (p0 : List (Int × Int × Int × Int)) (p1 : Int) : (List Int × Int) → Option ((List Int × Int) ⊕ (List Int))
  | (x2, x3) => (if x3 < (p0.length : Int) then ((ix p0 x3).bind fun x5 => (if x5.2.2.2 = p1 then (JN x2 ([x5.1] : List Int)).bind fun x6 => some x6 else some x2)).bind fun x4 => some (.inl (x4, AA (x3 + 1))) else some (.inr x2))
noncomputable def EE (p0 : List (Int × Int × Int × Int)) (p1 : Int) : Option (List Int) := (AE (CW p0 p1) ([], 0)).bind fun x1 => (CK x1).bind fun x7 => (Cv x7).bind fun x8 => some x8
theorem LI (Y : Nat → Prop) (w0 : World) (v1 : Value) (p0 : List (Int × Int × Int × Int)) (p1 : Int) (r : List Int) (H : EE p0 p1 = some r) (h_v1 : Sl w0 (NX []) A8 v1 p0) :
    Calls Try.prog 42 #[v1, .int .i64 p1] w0 fun e w' => ∃ x : Value, e = .returned (x) ∧ Stw ⟨Y, [], w0⟩ [] [row (x) 3 (Rp.int .i64) r] w' := by
 refine enter Try.func42 Aa Try.ntmps42 Aa fun a F => ?_
 have W := Stw.start Y w0
 unfold EE at H
 refine Ah (Ac ?_)
 refine ls F W Aa (Af F Aa).q fun a w F W => ?_
 refine Ae (Ab (Ah (Ac ?_)))
 refine ls F W Aa (Af F Aa).q fun a w F W => ?_
 refine Ae (Ab ?_)
 obtain ⟨o1, G1, K1⟩ := Al H
 refine AC (fun a w => ∃ x1 : List Int, ∃ v2 : Value, some (x1) = some o1 ∧ Fr 28 [] [(4, .slice none 0 0), (5, v2)] a ∧ Stw ⟨Y, [], w0⟩ [] [row v2 3 (Rp.int .i64) x1] w) ?_ ?_
 ·
  have H := G1
  clear G1 K1
  refine Ah (Ac ?_)
  refine ls F W Aa (Ad F Aa).q fun a w F W => ?_
  refine ls F W Aa (BP (r := A8) (l := p0) Nc Aa F Aa (Am h_v1)).q fun a w F W => ?_
  refine ls F W Aa (Ad F Aa).q fun a w F W => ?_
  refine Ae (Ab (wp_block ?_))
  have W := W.nilRow 3 (Rp.int .i64)
  refine A1 H (fun s a w => ∃ v3 : Value, Fr 28 [] [(1, .int .i64 p1), (4, .slice none 0 0), (5, v3), (8, v1), (9, .int .i64 (p0.length : Int)), (10, .int .i64 s.2)] a ∧ Stw ⟨Y, [], w0⟩ [] [row v3 3 (Rp.int .i64) s.1] w) ⟨(Value.slice none 0 0), F.re ⟨rfl, Aa, Aa, Aa, Aa, Aa, trivial⟩, W⟩ fun s o a w H L2 hR => ?_
  obtain ⟨x2, x3⟩ := s
  obtain ⟨v3, F, W⟩ := hR
  have F : Fr 28 [] [(1, .int .i64 p1), (4, .slice none 0 0), (5, v3), (8, v1), (9, .int .i64 (p0.length : Int)), (10, .int .i64 x3)] a := F
  have W : Stw ⟨Y, [], w0⟩ [] [row v3 3 (Rp.int .i64) x2] w := W
  rw [CW] at H
  refine Ah (Ac ?_)
  refine ls F W Aa (Bk F Aa Aa).q fun a w F W => ?_
  refine Ae (Ab (Ah ?_))
  refine Aw F Aa (fun hb => ?_) fun hb => ?_
  ·
   have H := AL (A6 hb) H
   rw [hb] at F
   clear hb
   refine wp_skip (Ab ?_)
   obtain ⟨o3, G3, K3⟩ := Al H
   refine AC (fun a w => ∃ x4 : List Int, ∃ v4 : Value, some (x4) = some o3 ∧ Fr 28 [] [(1, .int .i64 p1), (4, .slice none 0 0), (5, v4), (8, v1), (9, .int .i64 (p0.length : Int)), (10, .int .i64 x3)] a ∧ Stw ⟨Y, [], w0⟩ [] [row v4 3 (Rp.int .i64) x4] w) ?_ ?_
   ·
    have H := G3
    clear G3 K3
    refine wp_block (Ah (Ac ?_))
    obtain ⟨x5, h1, H⟩ := Al H
    refine ls F W Aa (Ay (r := A8) Eb F Aa Aa (Am h_v1) h1).q fun a w F W => ?_
    refine ls F W Aa (Ap (y := Value.agg #[.int .i64 x5.1, .int .i64 x5.2.1, .int .i64 x5.2.2.1, .int .i64 x5.2.2.2]) (j := 0) (i := x3) F Aa Aa (Am h_v1) h1 Ek.to Ec Aa).q fun a w F W => ?_
    refine Cn (cs := [.int .i64 0, .int .i64 0, .int .i64 0, .int .i64 0]) F W Aa R1 Aa fun b1 a w F W => ?_
    refine Br (vs := [.int .i64 x5.1, .int .i64 x5.2.1, .int .i64 x5.2.2.1, .int .i64 x5.2.2.2]) (M' := [(b1, [.int .i64 x5.1, .int .i64 x5.2.1, .int .i64 x5.2.2.1, .int .i64 x5.2.2.2])]) 0 F W Aa Aa Aa Ec Aa Aa Aa Aa Aa fun w W => ?_
    refine Ae (Ab (Ah (Ac ?_)))
    refine ls F W Aa (Ai JS Aa Aa Aa T3 F Aa 3 Aa).q fun a w F W => ?_
    refine ls F W Aa (As (v := Value.int .i64 x5.2.2.2) 0 F Aa Aa T3 Aa).q fun a w F W => ?_
    refine ls F W Aa (Ad F Aa).q fun a w F W => ?_
    refine ls F W Aa (Cy F Aa Aa).q fun a w F W => ?_
    refine Ae (Ab ?_)
    refine Aw F Aa (fun hb => ?_) fun hb => ?_
    ·
     have H := AL (A6 hb) H
     rw [hb] at F
     clear hb
     refine Ac ?_
     refine ls F W Aa (Ad F Aa).q fun a w F W => ?_
     refine ls F W Aa (Ai JS Aa Aa Aa T3 F Aa 0 Aa).q fun a w F W => ?_
     refine ls F W Aa (As (v := Value.int .i64 x5.1) 0 F Aa Aa T3 Aa).q fun a w F W => ?_
     refine EA (z := Value.int .i64 0) (cs := [.int .i64 x5.1]) (Rp.int .i64) ([x5.1] : List Int) F W Aa Eo Z3 Aa Aa Aa Aa Aa Aa (Fl.int.repL _ _ ([x5.1] : List Int)) fun v5 a w F W => ?_
     obtain ⟨x6, h2, H⟩ := Al H
     refine DY (r := (Rp.int .i64)) (i := 1) F W Aa Eo Aa Aa Aa Aa (EI W 0 Aa) h2 Aa fun v6 a w F W => ?_
     have W : Stw ⟨Y, [], w0⟩ [(b1, [.int .i64 x5.1, .int .i64 x5.2.1, .int .i64 x5.2.2.1, .int .i64 x5.2.2.2])] [row v6 3 (Rp.int .i64) x6, row v5 3 (Rp.int .i64) ([x5.1] : List Int)] w := W
     refine ls F W Aa (Af F Aa).q fun a w F W => ?_
     refine Ae (AH (Ab ?_))
     have W := W.sub (M' := []) (Z' := [row v6 3 (Rp.int .i64) x6]) (List.nil_sublist _) (List.Sublist.cons_cons _ (List.nil_sublist _))
     exact ⟨_, (v6), H, F.re ⟨rfl, Aa, Aa, Aa, Aa, Aa, trivial⟩, W⟩
    have H := AK (A7 hb) H
    rw [hb] at F
    clear hb
    refine wp_skip (AH (Ab ?_))
    have W := W.sub (M' := []) (Z' := [row v3 3 (Rp.int .i64) x2]) (List.nil_sublist _) (List.Sublist.refl _)
    exact ⟨_, (v3), H, F.re ⟨rfl, Aa, Aa, Aa, Aa, Aa, trivial⟩, W⟩
   rintro a w ⟨x4, v4, hj, F, W⟩
   have hj := AM hj
   subst hj
   have H := K3
   clear G3 K3
   refine Ac ?_
   refine ls F W Aa (A3 F Aa Aa Aa).q fun a w F W => ?_
   refine ls F W Aa (Ad F Aa).q fun a w F W => ?_
   refine Ae (Ab ?_)
   exact ⟨_, H, (v4), F.re ⟨rfl, Aa, Aa, Aa, Aa, Aa, trivial⟩, W⟩
  have H := AK (A7 hb) H
  rw [hb] at F
  clear hb
  refine wp_exit ?_
  iterate 2 refine A5 ?_
  refine AU (Ab ?_)
  have H := L2 _ H
  exact ⟨_, (v3), H, F.re ⟨rfl, Aa, trivial⟩, W⟩
 rintro a w ⟨x1, v2, hj, F, W⟩
 have hj := AM hj
 subst hj
 have H := K1
 clear G1 K1
 refine Ah (Ac ?_)
 refine ls F W Aa (Ad F Aa).q fun a w F W => ?_
 obtain ⟨x7, h3, H⟩ := Al H
 refine Bp (Ml := []) (Zl := [row v2 3 (Rp.int .i64) x1]) (M := []) (Z := []) (β := Unit) (rv := fun x => .tuple #[]) (MM := fun x => []) (ZZ := fun x => [row v2 3 (Rp.int .i64) x7]) F W TL Aa Aa (fun hL => GL _ _ w (v2) x1 _ h3 hL) fun x a w F W => ?_
 have W : Stw ⟨Y, [], w0⟩ [] [row v2 3 (Rp.int .i64) x7] w := W
 refine Ae (Ab (Ah (Ac ?_)))
 refine ls F W Aa (Ad F Aa).q fun a w F W => ?_
 obtain ⟨x8, h4, H⟩ := Al H
 refine Bp (Ml := []) (Zl := [row v2 3 (Rp.int .i64) x7]) (M := []) (Z := []) (β := Value) (rv := fun x => x) (MM := fun x => []) (ZZ := fun x => [row x 3 (Rp.int .i64) x8]) F W TA Aa Aa (fun hL => F0 _ _ w (v2) x7 _ h4 hL) fun x a w F W => ?_
 obtain ⟨v7, rfl⟩ : ∃ y, y = x := ⟨x, rfl⟩
 have W : Stw ⟨Y, [], w0⟩ [] [row v7 3 (Rp.int .i64) x8] w := W
 refine ls F W Aa (Af F Aa).q fun a w F W => ?_
 refine Ae (Ab (wp_ret ?_))
 have H := AM H
 subst H
 refine Bl (.inl Aa) F W Aa (Av F Aa) ?_
 exact ⟨(v7), Aa, W⟩
theorem PZ : type_of% Try.underlying31 := Try.underlying31
theorem N7 : type_of% Try.underlying48 := Try.underlying48
theorem U3 : Has Try.prog 42 := ⟨fun args w => An Try.func42 rfl (by decide) args w⟩
theorem U1 : Bt Try.prog 48 [.int .i64 0, .int .i64 0, .slice none 0 0] [(0, 1), (1, 1), (2, 1)] := ⟨⟨.agg #[.int .i64 0, .int .i64 0, .slice none 0 0], by kernel_rfl, rfl⟩, ⟨_, N7, fun w => by kernel_rfl⟩⟩
theorem TI : (Try.prog.info? 48).bind (·.zero) = some (.agg #[.int .i64 0, .int .i64 0, .slice none 0 0]) := by kernel_rfl
abbrev HG : Rp (Int × Int × List Int) := (Rp.pair (Rp.int .i64) (Rp.pair (Rp.int .i64) (Rp.slice (Rp.int .i64))))
theorem Ra : Et Try.prog 31 48 3 40 := Et.of PZ (by kernel_rfl) (by kernel_rfl) (by kernel_rfl) (by decide)
noncomputable def DR (p2 : Int) (x1 : List Int) : ((List (Int × Int × Int)) × Int) → Option (((List (Int × Int × Int)) × Int) ⊕ (List (Int × Int × Int)))
  | (x3, x4) => (if x4 < (AA ((x1.length : Int) - 1)) then (JN x3 ([(x4, AA (x4 + 1), p2)] : List (Int × Int × Int))).bind fun x5 => some (.inl (x5, AA (x4 + 1))) else some (.inr x3))
noncomputable def DK (p0 : List (Int × Int × Int × Int)) (p1 : Int) (x1 : List Int) (x6 : List Int × Bool) : ((List (Int × Int × List Int)) × Int) → Option (((List (Int × Int × List Int)) × Int) ⊕ (List (Int × Int × List Int)))
  | (x8, x9) => (if x9 < (x6.1.length : Int) then (ix x6.1 x9).bind fun x10 => (ix x1 x9).bind fun x11 => (ix x1 x9).bind fun x12 => (EE p0 x12).bind fun x13 => (JN x8 ([(x11, AA (p1 + x10), x13)] : List (Int × Int × List Int))).bind fun x14 => some (.inl (x14, AA (x9 + 1))) else some (.inr x8))
noncomputable def Fn (p0 : List (Int × Int × Int × Int)) (p1 : Int) (p2 : Int) : Option (List (Int × Int × List Int)) := (EU p0).bind fun x1 => (AE (DR p2 x1) ([], 0)).bind fun x2 => (ED (x1.length : Int) x2).bind fun x6 => (AE (DK p0 p1 x1 x6) ([], 0)).bind fun x7 => some x7
theorem My (Y : Nat → Prop) (w0 : World) (v1 : Value) (p0 : List (Int × Int × Int × Int)) (p1 : Int) (p2 : Int) (r : (List (Int × Int × List Int))) (H : Fn p0 p1 p2 = some r) (h_v1 : Sl w0 (NX []) A8 v1 p0) :
    Calls Try.prog 22 #[v1, .int .i64 p1, .int .i64 p2] w0 fun e w' => ∃ x : Value, e = .returned (x) ∧ Stw ⟨Y, [], w0⟩ [] [row (x) 48 HG r] w' := by
 refine enter Try.func22 Aa Try.ntmps22 Aa fun a F => ?_
 have W := Stw.start Y w0
 unfold Fn at H
 refine Ah (Ac ?_)
 refine ls F W Aa (Af F Aa).q fun a w F W => ?_
 refine Ae (Ab (Ah (Ac ?_)))
 refine ls F W Aa (Ad F Aa).q fun a w F W => ?_
 obtain ⟨x1, h1, H⟩ := Al H
 refine Bp (Ml := []) (Zl := []) (M := []) (Z := []) (β := Value) (rv := fun x => x) (MM := fun x => []) (ZZ := fun x => [row x 3 (Rp.int .i64) x1]) F W UE Aa Aa (fun hL => LV _ w (v1) p0 _ h1 ((Am h_v1) w W).nx) fun x a w F W => ?_
 obtain ⟨v2, rfl⟩ : ∃ y, y = x := ⟨x, rfl⟩
 have W : Stw ⟨Y, [], w0⟩ [] [row v2 3 (Rp.int .i64) x1] w := W
 refine ls F W Aa (Af F Aa).q fun a w F W => ?_
 refine Ae (Ab (Ah (Ac ?_)))
 refine ls F W Aa (Af F Aa).q fun a w F W => ?_
 refine Ae (Ab ?_)
 obtain ⟨o1, G1, K1⟩ := Al H
 refine AC (fun a w => ∃ x2 : List (Int × Int × Int), ∃ v3 : Value, some (x2) = some o1 ∧ Fr 65 [] [(0, v1), (1, .int .i64 p1), (6, .slice none 0 0), (7, v2), (8, v3)] a ∧ Stw ⟨Y, [], w0⟩ [] [row v2 3 (Rp.int .i64) x1, row v3 98 MZ x2] w) ?_ ?_
 ·
  have H := G1
  clear G1 K1
  refine Ah (Ac ?_)
  refine ls F W Aa (Ad F Aa).q fun a w F W => ?_
  refine ls F W Aa (BP (r := (Rp.int .i64)) (l := x1) Hm Aa F Aa (Ao 0 Aa)).q fun a w F W => ?_
  refine ls F W Aa (B5 F Aa Aa Aa).q fun a w F W => ?_
  refine ls F W Aa (Ad F Aa).q fun a w F W => ?_
  refine Ae (Ab (wp_block ?_))
  have W := W.nilRow 98 MZ
  have W := W.frontZ (i := 1) Aa Aa
  refine A1 H (fun s a w => ∃ v4 : Value, Fr 65 [] [(0, v1), (1, .int .i64 p1), (2, .int .i64 p2), (6, .slice none 0 0), (7, v2), (8, v4), (19, .int .i64 (AA ((x1.length : Int) - 1))), (20, .int .i64 s.2)] a ∧ Stw ⟨Y, [], w0⟩ [] [row v2 3 (Rp.int .i64) x1, row v4 98 MZ s.1] w) ⟨(Value.slice none 0 0), F.re ⟨rfl, Aa, Aa, Aa, Aa, Aa, Aa, Aa, trivial⟩, W⟩ fun s o a w H L2 hR => ?_
  obtain ⟨x3, x4⟩ := s
  obtain ⟨v4, F, W⟩ := hR
  have F : Fr 65 [] [(0, v1), (1, .int .i64 p1), (2, .int .i64 p2), (6, .slice none 0 0), (7, v2), (8, v4), (19, .int .i64 (AA ((x1.length : Int) - 1))), (20, .int .i64 x4)] a := F
  have W : Stw ⟨Y, [], w0⟩ [] [row v2 3 (Rp.int .i64) x1, row v4 98 MZ x3] w := W
  rw [DR] at H
  refine Ah (Ac ?_)
  refine ls F W Aa (Bk F Aa Aa).q fun a w F W => ?_
  refine Ae (Ab (Ah ?_))
  refine Aw F Aa (fun hb => ?_) fun hb => ?_
  ·
   have H := AL (A6 hb) H
   rw [hb] at F
   clear hb
   refine wp_skip (Ab (Ah (wp_block (Ah (Ac ?_)))))
   refine ls F W Aa (Ad F Aa).q fun a w F W => ?_
   refine ls F W Aa (Af F Aa).q fun a w F W => ?_
   refine Ae (Ab (Ac ?_))
   iterate 3 refine ls F W Aa (Ad F Aa).q fun a w F W => ?_
   refine ls F W Aa (A3 F Aa Aa Aa).q fun a w F W => ?_
   refine ls F W Aa (Ad F Aa).q fun a w F W => ?_
   refine ls F W Aa (Cg (v := Value.agg #[.int .i64 x4, .int .i64 (AA (x4 + 1)), .int .i64 p2]) Vi F Aa Aa Aa).q fun a w F W => ?_
   refine EA (z := Value.agg #[.int .i64 0, .int .i64 0, .int .i64 0]) (cs := [.int .i64 x4, .int .i64 (AA (x4 + 1)), .int .i64 p2]) MZ ([(x4, AA (x4 + 1), p2)] : List (Int × Int × Int)) F W Aa SB SP Aa Aa Aa Aa Aa Aa (SX.repL _ _ ([(x4, AA (x4 + 1), p2)] : List (Int × Int × Int))) fun v5 a w F W => ?_
   obtain ⟨x5, h2, H⟩ := Al H
   refine DY (r := MZ) (i := 2) F W Aa SB Aa Aa Aa Aa (EI W 0 Aa) h2 Aa fun v6 a w F W => ?_
   have W : Stw ⟨Y, [], w0⟩ [] [row v6 98 MZ x5, row v5 98 MZ ([(x4, AA (x4 + 1), p2)] : List (Int × Int × Int)), row v2 3 (Rp.int .i64) x1] w := W
   refine ls F W Aa (Af F Aa).q fun a w F W => ?_
   refine Ae (AH (Ab (Ac ?_)))
   refine ls F W Aa (A3 F Aa Aa Aa).q fun a w F W => ?_
   refine ls F W Aa (Ad F Aa).q fun a w F W => ?_
   refine Ae (Ab ?_)
   have W := W.frontZ (i := 2) Aa Aa
   have W := W.sub (M' := []) (Z' := [row v2 3 (Rp.int .i64) x1, row v6 98 MZ x5]) (List.Sublist.refl _) (List.Sublist.cons_cons _ (List.Sublist.cons_cons _ (List.nil_sublist _)))
   exact ⟨_, H, (v6), F.re ⟨rfl, Aa, Aa, Aa, Aa, Aa, Aa, Aa, trivial⟩, W⟩
  have H := AK (A7 hb) H
  rw [hb] at F
  clear hb
  refine wp_exit ?_
  iterate 2 refine A5 ?_
  refine AU (Ab ?_)
  have W := W.frontZ (i := 1) Aa Aa
  have W := W.frontZ (i := 1) Aa Aa
  have H := L2 _ H
  exact ⟨_, (v4), H, F.re ⟨rfl, Aa, Aa, Aa, Aa, trivial⟩, W⟩
 rintro a w ⟨x2, v3, hj, F, W⟩
 have hj := AM hj
 subst hj
 have H := K1
 clear G1 K1
 refine Ah (Ac ?_)
 refine ls F W Aa (Ad F Aa).q fun a w F W => ?_
 refine ls F W Aa (BP (r := (Rp.int .i64)) (l := x1) Hm Aa F Aa (Ao 0 Aa)).q fun a w F W => ?_
 refine ls F W Aa (Ad F Aa).q fun a w F W => ?_
 obtain ⟨x6, h3, H⟩ := Al H
 refine Bp (Ml := []) (Zl := []) (M := []) (Z := [row v2 3 (Rp.int .i64) x1, row v3 98 MZ x2]) (β := Value) (rv := fun x => .tuple #[x, .bool x6.2]) (MM := fun x => []) (ZZ := fun x => [row x 3 (Rp.int .i64) x6.1]) F W UZ Aa Aa (fun hL => LF _ w (v3) (x1.length : Int) x2 _ h3 ((Ao 1 Aa) w W).nx) fun x a w F W => ?_
 obtain ⟨v7, rfl⟩ : ∃ y, y = x := ⟨x, rfl⟩
 have W : Stw ⟨Y, [], w0⟩ [] [row v7 3 (Rp.int .i64) x6.1, row v2 3 (Rp.int .i64) x1, row v3 98 MZ x2] w := W
 refine ls F W Aa (Ad F Aa).q fun a w F W => ?_
 refine ls F W Aa (A0 (v := v7) F Aa Aa).q fun a w F W => ?_
 refine ls F W Aa (A0 (v := Value.bool x6.2) F Aa Aa).q fun a w F W => ?_
 iterate 2 refine ls F W Aa (Af F Aa).q fun a w F W => ?_
 refine Ae (Ab (Ah (Ac ?_)))
 refine ls F W Aa (Af F Aa).q fun a w F W => ?_
 refine Ae (Ab ?_)
 obtain ⟨o3, G3, K3⟩ := Al H
 refine AC (fun a w => ∃ x7 : List (Int × Int × List Int), ∃ v8 : Value, some (x7) = some o3 ∧ Fr 65 [] [(6, .slice none 0 0), (12, v8)] a ∧ Stw ⟨Y, [], w0⟩ [] [row v8 48 HG x7] w) ?_ ?_
 ·
  have H := G3
  clear G3 K3
  refine Ah (Ac ?_)
  refine ls F W Aa (Ad F Aa).q fun a w F W => ?_
  refine ls F W Aa (BP (r := (Rp.int .i64)) (l := x6.1) Hm Aa F Aa (Ao 0 Aa)).q fun a w F W => ?_
  refine ls F W Aa (Ad F Aa).q fun a w F W => ?_
  refine Ae (Ab (wp_block ?_))
  have W := W.nilRow 48 HG
  have W := W.frontZ (i := 1) Aa Aa
  have W := W.frontZ (i := 1) Aa Aa
  have W := W.frontZ (i := 2) Aa Aa
  have W := W.sub (M' := []) (Z' := [row v2 3 (Rp.int .i64) x1, row (Value.slice none 0 0) 48 HG ([]), row v7 3 (Rp.int .i64) x6.1]) (List.Sublist.refl _) (List.Sublist.cons_cons _ (List.Sublist.cons_cons _ (List.Sublist.cons_cons _ (List.nil_sublist _))))
  refine A1 H (fun s a w => ∃ v9 : Value, Fr 65 [] [(0, v1), (1, .int .i64 p1), (6, .slice none 0 0), (7, v2), (12, v9), (39, v7), (40, .int .i64 (x6.1.length : Int)), (41, .int .i64 s.2)] a ∧ Stw ⟨Y, [], w0⟩ [] [row v2 3 (Rp.int .i64) x1, row v9 48 HG s.1, row v7 3 (Rp.int .i64) x6.1] w) ⟨(Value.slice none 0 0), F.re ⟨rfl, Aa, Aa, Aa, Aa, Aa, Aa, Aa, trivial⟩, W⟩ fun s o a w H L4 hR => ?_
  obtain ⟨x8, x9⟩ := s
  obtain ⟨v9, F, W⟩ := hR
  have F : Fr 65 [] [(0, v1), (1, .int .i64 p1), (6, .slice none 0 0), (7, v2), (12, v9), (39, v7), (40, .int .i64 (x6.1.length : Int)), (41, .int .i64 x9)] a := F
  have W : Stw ⟨Y, [], w0⟩ [] [row v2 3 (Rp.int .i64) x1, row v9 48 HG x8, row v7 3 (Rp.int .i64) x6.1] w := W
  rw [DK] at H
  refine Ah (Ac ?_)
  refine ls F W Aa (Bk F Aa Aa).q fun a w F W => ?_
  refine Ae (Ab (Ah ?_))
  refine Aw F Aa (fun hb => ?_) fun hb => ?_
  ·
   have H := AL (A6 hb) H
   rw [hb] at F
   clear hb
   refine wp_skip (Ab (Ah (wp_block (Ah (Ac ?_)))))
   refine ls F W Aa (Ad F Aa).q fun a w F W => ?_
   obtain ⟨x10, h4, H⟩ := Al H
   refine ls F W Aa (Ay (r := (Rp.int .i64)) Eo F Aa Aa (Ao 2 Aa) h4).q fun a w F W => ?_
   refine ls F W Aa (Ap (y := Value.int .i64 x10) (j := 0) (i := x9) F Aa Aa (Ao 2 Aa) h4 Fl.int.to T3 Aa).q fun a w F W => ?_
   iterate 2 refine ls F W Aa (Af F Aa).q fun a w F W => ?_
   refine Ae (Ab ?_)
   refine Ev [(true, 0), (true, 1), (true, 2), (true, 3), (true, 4), (true, 5), (true, 6), (true, 7), (true, 8), (true, 9), (true, 10), (true, 11), (true, 12), (false, 13), (true, 14), (false, 15), (false, 16), (false, 17)] (CN ⟨Y, [], w0⟩ [] [(some 17, row v2 3 (Rp.int .i64) x1), (some 13, row v2 3 (Rp.int .i64) x1)]) (fun ch a d v w h => by cases d <;> exact h) MO (by kernel_rfl) W (fun w W => ⟨_, _, W, AB, (Bi (fun _ => (.head _)) (Bi (fun _ => (.head _)) AB))⟩) fun w W => ?_
   iterate 3 refine Bo (R := []) F Aa Aa (yC fun M Z hN hZ => Ad F Aa) Aa Aa fun a F => ?_
   obtain ⟨x11, h5, H⟩ := Al H
   refine Bo (R := []) F Aa Aa (yC fun M Z hN hZ => Bu (r := (Rp.int .i64)) Eo F Aa Aa (CT W (Ao 0 Aa)) h5) Aa Aa fun a F => ?_
   refine Bo (R := [17]) F Aa Aa (yC fun M Z hN hZ => Ap (y := Value.int .i64 x11) (j := 0) (i := x9) F Aa Aa (CO (hZ ((some 17), row v2 3 (Rp.int .i64) x1) (.head _) Aa)) h5 Fl.int.to T3 Aa) (by kernel_rfl) Aa fun a F => ?_
   iterate 2 refine Bo (R := []) F Aa Aa (yC fun M Z hN hZ => Ad F Aa) Aa Aa fun a F => ?_
   refine Bo (R := []) F Aa Aa (yC fun M Z hN hZ => A3 F Aa Aa Aa) Aa Aa fun a F => ?_
   iterate 3 refine Bo (R := []) F Aa Aa (yC fun M Z hN hZ => Ad F Aa) Aa Aa fun a F => ?_
   obtain ⟨x12, h6, H⟩ := Al H
   refine Bo (R := []) F Aa Aa (yC fun M Z hN hZ => Bu (r := (Rp.int .i64)) Eo F Aa Aa (CT W (Ao 0 Aa)) h6) Aa Aa fun a F => ?_
   refine Bo (R := [13]) F Aa Aa (yC fun M Z hN hZ => Ap (y := Value.int .i64 x12) (j := 0) (i := x9) F Aa Aa (CO (hZ ((some 13), row v2 3 (Rp.int .i64) x1) (.tail _ (.head _)) Aa)) h6 Fl.int.to T3 Aa) (by kernel_rfl) Aa fun a F => ?_
   refine Gc Aa ?_
   obtain ⟨x13, h7, H⟩ := Al H
   refine Bp (Ml := []) (Zl := []) (M := []) (Z := [row v2 3 (Rp.int .i64) x1, row v9 48 HG x8, row v7 3 (Rp.int .i64) x6.1]) (β := Value) (rv := fun x => x) (MM := fun x => []) (ZZ := fun x => [row x 3 (Rp.int .i64) x13]) F W U3 Aa Aa (fun hL => LI _ w (v1) p0 x12 _ h7 ((Am h_v1) w W).nx) fun x a w F W => ?_
   obtain ⟨v10, rfl⟩ : ∃ y, y = x := ⟨x, rfl⟩
   have W : Stw ⟨Y, [], w0⟩ [] [row v10 3 (Rp.int .i64) x13, row v2 3 (Rp.int .i64) x1, row v9 48 HG x8, row v7 3 (Rp.int .i64) x6.1] w := W
   refine CE (N2 := []) (NZ2 := []) (N3 := []) (NZ3 := [(some 17, row v2 3 (Rp.int .i64) x1), (some 13, row v2 3 (Rp.int .i64) x1)]) W Aa Aa AB (Bi (fun _ => (.tail _ (.head _))) (Bi (fun h => Ch (by kernel_rfl) h) AB)) ?_
   refine Bo (R := []) F Aa Aa (yC fun M Z hN hZ => Cg (v := Value.agg #[.int .i64 x11, .int .i64 (AA (p1 + x10)), v10]) U1 F Aa (A9 Aa Aa Aa (A9 Aa Aa Aa (A9 Aa (Cm (W.one (k := 0) Aa)) Aa De))) Aa) Aa Aa fun a F => ?_
   refine Gc Aa ?_
   have W := W.freeze
   refine EA (z := Value.agg #[.int .i64 0, .int .i64 0, .slice none 0 0]) (cs := [.int .i64 x11, .int .i64 (AA (p1 + x10)), v10]) HG ([(x11, AA (p1 + x10), x13)] : List (Int × Int × List Int)) F W Aa Ra TI Aa Aa Aa (A9 Aa Aa Aa De) Aa Aa ⟨[Value.int .i64 x11, Value.int .i64 (AA (p1 + x10)), v10], _, Aa, ⟨[Value.int .i64 x11], [Value.int .i64 (AA (p1 + x10)), v10], Aa, Aa, ⟨[Value.int .i64 (AA (p1 + x10))], [v10], Aa, Aa, ⟨_, Aa, (W.item (i := 0) Aa)⟩⟩⟩, Aa⟩ fun v11 a w F W => ?_
   refine CE (N2 := []) (NZ2 := []) (N3 := []) (NZ3 := [(some 17, row v2 3 (Rp.int .i64) x1), (some 13, row v2 3 (Rp.int .i64) x1)]) W Aa Aa AB (Bi (fun _ => (.tail _ (.tail _ (.head _)))) (Bi (fun h => Ch (by kernel_rfl) h) AB)) ?_
   refine Gc Aa ?_
   obtain ⟨x14, h8, H⟩ := Al H
   refine DY (r := HG) (i := 3) F W Aa Ra Aa Aa Aa Aa (EI W 0 Aa) h8 Aa fun v12 a w F W => ?_
   have W : Stw ⟨Y, [], w0⟩ [] [row v12 48 HG x14, row v11 48 HG ([(x11, AA (p1 + x10), x13)] : List (Int × Int × List Int)), JE v10 (Rp.int .i64) x13, row v2 3 (Rp.int .i64) x1, row v7 3 (Rp.int .i64) x6.1] w := W
   refine CE (N2 := []) (NZ2 := []) (N3 := []) (NZ3 := [(some 17, row v2 3 (Rp.int .i64) x1), (some 13, row v2 3 (Rp.int .i64) x1)]) W Aa Aa AB (Bi (fun _ => (.tail _ (.tail _ (.tail _ (.head _))))) (Bi (fun h => Ch (by kernel_rfl) h) AB)) ?_
   refine Gc Aa ?_
   refine ls F W Aa (Af F Aa).q fun a w F W => ?_
   refine CE (N2 := []) (NZ2 := []) (N3 := []) (NZ3 := [(some 17, row v2 3 (Rp.int .i64) x1), (some 13, row v2 3 (Rp.int .i64) x1)]) W Aa Aa AB (Bi (fun h => Ch (by kernel_rfl) h) (Bi (fun h => Ch (by kernel_rfl) h) AB)) ?_
   refine Gs (AH (Ab (Ac ?_)))
   refine ls F W Aa (A3 F Aa Aa Aa).q fun a w F W => ?_
   refine ls F W Aa (Ad F Aa).q fun a w F W => ?_
   refine Ae (Ab ?_)
   have W := W.frontZ (i := 4) Aa Aa
   have W := W.frontZ (i := 1) Aa Aa
   have W := W.frontZ (i := 4) Aa Aa
   have W := W.sub (M' := []) (Z' := [row v2 3 (Rp.int .i64) x1, row v12 48 HG x14, row v7 3 (Rp.int .i64) x6.1]) (List.Sublist.refl _) (List.Sublist.cons_cons _ (List.Sublist.cons_cons _ (List.Sublist.cons_cons _ (List.nil_sublist _))))
   exact ⟨_, H, (v12), F.re ⟨rfl, Aa, Aa, Aa, Aa, Aa, Aa, Aa, trivial⟩, W⟩
  have H := AK (A7 hb) H
  rw [hb] at F
  clear hb
  refine wp_exit ?_
  iterate 2 refine A5 ?_
  refine AU (Ab ?_)
  have W := W.frontZ (i := 1) Aa Aa
  have W := W.sub (M' := []) (Z' := [row v9 48 HG x8]) (List.Sublist.refl _) (List.Sublist.cons_cons _ (List.nil_sublist _))
  have H := L4 _ H
  exact ⟨_, (v9), H, F.re ⟨rfl, Aa, trivial⟩, W⟩
 rintro a w ⟨x7, v8, hj, F, W⟩
 have hj := AM hj
 subst hj
 have H := K3
 clear G3 K3
 refine Ah (Ac ?_)
 refine ls F W Aa (Ad F Aa).q fun a w F W => ?_
 refine ls F W Aa (Af F Aa).q fun a w F W => ?_
 refine Ae (Ab (wp_ret ?_))
 have H := AM H
 subst H
 refine Bl (.inl Aa) F W Aa (Av F Aa) ?_
 exact ⟨(v8), Aa, W⟩
theorem UO : Has Try.prog 22 := ⟨fun args w => An Try.func22 rfl (by decide) args w⟩
theorem Mt : Ty Try.prog 31 false 1 := ⟨by kernel_rfl, by kernel_rfl⟩
abbrev MC : Rp (Int × Int × (Value × List Int)) := (Rp.pair (Rp.int .i64) (Rp.pair (Rp.int .i64) (Rp.vsl (Rp.int .i64))))
abbrev SR (p : Int × Int × (Value × List Int)) : Int × Int × List Int := (p.1, p.2.1, p.2.2.2)
theorem ID : Ex HG MC SR := (Ex.pair Ex.rfl' (Ex.pair Ex.rfl' Ex.sliceF))
abbrev KH (a : Int × Int × (Value × List Int)) : List Value := [.int .i64 a.1, .int .i64 a.2.1, a.2.2.1]
theorem Po : I8 MC KH := (I8.pair Fl.int.to (I8.pair Fl.int.to I8.vsl))
noncomputable def Dx (p0 : Int × (List (Int × Int × Int × Int × Int × Int)) × (List (Int × Int))) (p1 : List (List Int)) (p2 : List (List Int)) (p3 : Int) (p4 : Int) (p5 : Int) : Option (((List (Int × Int × Int × Int)) × (List (Int × Int × List Int)) × Int × Int × Int × Int) × Int) := (if (decide (p3 < 0) || (decide (1099511627776 < p3) || (decide (p4 < 0) || (decide (1048576 < p4) || (decide (p5 < 0) || decide (1048576 < p5)))))) = true then some ((([] : List (Int × Int × Int × Int)), ([] : List (Int × Int × List Int)), 0, 0, 0, 0), 2) else (D9 p0 p1 p2).bind fun x1 => (if x1.2 ≠ 0 then some ((([] : List (Int × Int × Int × Int)), ([] : List (Int × Int × List Int)), 0, 0, 0, 0), x1.2) else (if (x1.1.length : Int) = 0 then some ((([] : List (Int × Int × Int × Int)), ([] : List (Int × Int × List Int)), 0, 0, 0, 0), 7) else (FH p0).bind fun x2 => (Hf p0 p4).bind fun x3 => (Fn x1.1 (AA ((AA ((AA ((AA (p3 + p5)) + p4)) + x2)) + 1)) x3).bind fun x4 => (ix x4 (AA ((x4.length : Int) - 1))).bind fun x5 => (if 1099511627776 < (AA (x5.2.1 + p4)) then some ((([] : List (Int × Int × Int × Int)), ([] : List (Int × Int × List Int)), 0, 0, 0, 0), 11) else some ((x1.1, x4, p4, x2, AA ((AA ((AA ((AA ((AA ((AA (p3 + p5)) + p4)) + x2)) + 1)) - p4)) - x2), AA (x5.2.1 + p4)), 0)))))
theorem Lo (Y : Nat → Prop) (w0 : World) (v1 : Value) (v2 : Value) (v3 : Value) (v4 : Value) (p0 : Int × (List (Int × Int × Int × Int × Int × Int)) × (List (Int × Int))) (p1 : List (List Int)) (p2 : List (List Int)) (p3 : Int) (p4 : Int) (p5 : Int) (r : ((List (Int × Int × Int × Int)) × (List (Int × Int × List Int)) × Int × Int × Int × Int) × Int) (H : Dx p0 p1 p2 p3 p4 p5 = some r) (h_v1 : Sl w0 (NX []) FM v1 p0.2.1) (h_v2 : Sl w0 (NX []) FD v2 p0.2.2) (h_v3 : Sl w0 (NX []) (Rp.slice (Rp.int .i64)) v3 p1) (h_v4 : Sl w0 (NX []) (Rp.slice (Rp.int .i64)) v4 p2) :
    Calls Try.prog 9 #[.agg #[.int .i64 p0.1, v1, v2], v3, v4, .int .i64 p3, .int .i64 p4, .int .i64 p5] w0 fun e w' => ∃ x : Value × Value, e = .returned (.tuple #[.agg #[x.1, x.2, .int .i64 r.1.2.2.1, .int .i64 r.1.2.2.2.1, .int .i64 r.1.2.2.2.2.1, .int .i64 r.1.2.2.2.2.2], .int .i64 r.2]) ∧ Stw ⟨Y, [], w0⟩ [] [row (x.1) 85 A8 r.1.1, row (x.2) 48 HG r.1.2.1] w' := by
 refine enter Try.func9 Aa Try.ntmps9 Aa fun a F => ?_
 have W := Stw.start Y w0
 obtain ⟨v5, h1, h_v3⟩ := h_v3.ex Dg
 obtain ⟨v6, h2, h_v4⟩ := h_v4.ex Dg
 unfold Dx at H
 refine Ah (Ac ?_)
 refine Dr (cs := [.int .i64 p0.1, v1, v2]) F W Aa Aa Aa fun b1 a w F W => ?_
 refine Cn (cs := [.slice none 0 0, .slice none 0 0, .int .i64 0, .int .i64 0, .int .i64 0, .int .i64 0]) F W Aa SA Aa fun b2 a w F W => ?_
 refine ls F W Aa (Af F Aa).q fun a w F W => ?_
 refine Ae (Ab (Ah ?_))
 refine AC (fun a w => Fr 101 [] [(1, v3), (2, v4), (3, .int .i64 p3), (4, .int .i64 p4), (5, .int .i64 p5), (6, .pointer (some ⟨b1, 0, none⟩)), (12, .pointer (some ⟨b2, 0, none⟩)), (13, .int .i64 0), (39, .bool (decide (p3 < 0) || (decide (1099511627776 < p3) || (decide (p4 < 0) || (decide (1048576 < p4) || (decide (p5 < 0) || decide (1048576 < p5)))))))] a ∧ Stw ⟨Y, [], w0⟩ [(b2, [.slice none 0 0, .slice none 0 0, .int .i64 0, .int .i64 0, .int .i64 0, .int .i64 0]), (b1, [.int .i64 p0.1, v1, v2])] [] w) ?_ ?_
 ·
  refine Ac ?_
  refine ls F W Aa (Ad F Aa).q fun a w F W => ?_
  refine ls F W Aa (Bk F Aa Aa).q fun a w F W => ?_
  refine ls F W Aa (Ad F Aa).q fun a w F W => ?_
  rcases Bool.eq_false_or_eq_true (decide (p3 < 0)) with hb0 | hb0
  ·
   rw [hb0] at F
   iterate 2 refine Cj F Aa Aa Aa Aa Aa Aa Aa fun a F => ?_
   refine ls F W Aa (Aq F Aa Aa Aa).q fun a w F W => ?_
   refine ls F W Aa (Ad F Aa).q fun a w F W => ?_
   iterate 2 refine Cj F Aa Aa Aa Aa Aa Aa Aa fun a F => ?_
   refine ls F W Aa (Aq F Aa Aa Aa).q fun a w F W => ?_
   refine ls F W Aa (Ad F Aa).q fun a w F W => ?_
   iterate 2 refine Cj F Aa Aa Aa Aa Aa Aa Aa fun a F => ?_
   refine ls F W Aa (Aq F Aa Aa Aa).q fun a w F W => ?_
   refine ls F W Aa (Ad F Aa).q fun a w F W => ?_
   iterate 2 refine Cj F Aa Aa Aa Aa Aa Aa Aa fun a F => ?_
   refine ls F W Aa (Aq F Aa Aa Aa).q fun a w F W => ?_
   refine ls F W Aa (Ad F Aa).q fun a w F W => ?_
   iterate 2 refine Cj F Aa Aa Aa Aa Aa Aa Aa fun a F => ?_
   refine ls F W Aa (Aq F Aa Aa Aa).q fun a w F W => ?_
   refine Ae (Ab ?_)
   exact ⟨F.re ⟨rfl, Aa, Aa, Aa, Aa, Aa, Aa, Aa, (by show some (Value.bool true) = some (Value.bool (decide (p3 < 0) || (decide (1099511627776 < p3) || (decide (p4 < 0) || (decide (1048576 < p4) || (decide (p5 < 0) || decide (1048576 < p5))))))); try rw [hb0]; all_goals simp only [Bool.not_true, Bool.not_false, Bool.true_and, Bool.false_and, Bool.true_or, Bool.false_or, Bool.and_true, Bool.or_false, cond_true, cond_false]), trivial⟩, W⟩
  rw [hb0] at F
  refine AD F W (Ag F Aa Aa Aa Aa) Aa (Ak Aa) (Ad F Aa).q fun a w F W => ?_
  refine AD F W (Ag F Aa Aa Aa Aa) Aa (Ak Aa) (DZ F Aa Aa).q fun a w F W => ?_
  refine ls F W Aa (Au F Aa Aa Aa).q fun a w F W => ?_
  refine ls F W Aa (Ad F Aa).q fun a w F W => ?_
  rcases Bool.eq_false_or_eq_true (decide (1099511627776 < p3)) with hb1 | hb1
  ·
   rw [hb1] at F
   iterate 2 refine Cj F Aa Aa Aa Aa Aa Aa Aa fun a F => ?_
   refine ls F W Aa (Aq F Aa Aa Aa).q fun a w F W => ?_
   refine ls F W Aa (Ad F Aa).q fun a w F W => ?_
   iterate 2 refine Cj F Aa Aa Aa Aa Aa Aa Aa fun a F => ?_
   refine ls F W Aa (Aq F Aa Aa Aa).q fun a w F W => ?_
   refine ls F W Aa (Ad F Aa).q fun a w F W => ?_
   iterate 2 refine Cj F Aa Aa Aa Aa Aa Aa Aa fun a F => ?_
   refine ls F W Aa (Aq F Aa Aa Aa).q fun a w F W => ?_
   refine ls F W Aa (Ad F Aa).q fun a w F W => ?_
   iterate 2 refine Cj F Aa Aa Aa Aa Aa Aa Aa fun a F => ?_
   refine ls F W Aa (Aq F Aa Aa Aa).q fun a w F W => ?_
   refine Ae (Ab ?_)
   exact ⟨F.re ⟨rfl, Aa, Aa, Aa, Aa, Aa, Aa, Aa, (by show some (Value.bool true) = some (Value.bool (decide (p3 < 0) || (decide (1099511627776 < p3) || (decide (p4 < 0) || (decide (1048576 < p4) || (decide (p5 < 0) || decide (1048576 < p5))))))); try rw [hb1]; try rw [hb0]; all_goals simp only [Bool.not_true, Bool.not_false, Bool.true_and, Bool.false_and, Bool.true_or, Bool.false_or, Bool.and_true, Bool.or_false, cond_true, cond_false]), trivial⟩, W⟩
  rw [hb1] at F
  refine AD F W (Ag F Aa Aa Aa Aa) Aa (Ak Aa) (Ad F Aa).q fun a w F W => ?_
  refine AD F W (Ag F Aa Aa Aa Aa) Aa (Ak Aa) (Bk F Aa Aa).q fun a w F W => ?_
  refine ls F W Aa (Au F Aa Aa Aa).q fun a w F W => ?_
  refine ls F W Aa (Ad F Aa).q fun a w F W => ?_
  rcases Bool.eq_false_or_eq_true (decide (p4 < 0)) with hb2 | hb2
  ·
   rw [hb2] at F
   iterate 2 refine Cj F Aa Aa Aa Aa Aa Aa Aa fun a F => ?_
   refine ls F W Aa (Aq F Aa Aa Aa).q fun a w F W => ?_
   refine ls F W Aa (Ad F Aa).q fun a w F W => ?_
   iterate 2 refine Cj F Aa Aa Aa Aa Aa Aa Aa fun a F => ?_
   refine ls F W Aa (Aq F Aa Aa Aa).q fun a w F W => ?_
   refine ls F W Aa (Ad F Aa).q fun a w F W => ?_
   iterate 2 refine Cj F Aa Aa Aa Aa Aa Aa Aa fun a F => ?_
   refine ls F W Aa (Aq F Aa Aa Aa).q fun a w F W => ?_
   refine Ae (Ab ?_)
   exact ⟨F.re ⟨rfl, Aa, Aa, Aa, Aa, Aa, Aa, Aa, (by show some (Value.bool true) = some (Value.bool (decide (p3 < 0) || (decide (1099511627776 < p3) || (decide (p4 < 0) || (decide (1048576 < p4) || (decide (p5 < 0) || decide (1048576 < p5))))))); try rw [hb1]; try rw [hb0]; try rw [hb2]; all_goals simp only [Bool.not_true, Bool.not_false, Bool.true_and, Bool.false_and, Bool.true_or, Bool.false_or, Bool.and_true, Bool.or_false, cond_true, cond_false]), trivial⟩, W⟩
  rw [hb2] at F
  refine AD F W (Ag F Aa Aa Aa Aa) Aa (Ak Aa) (Ad F Aa).q fun a w F W => ?_
  refine AD F W (Ag F Aa Aa Aa Aa) Aa (Ak Aa) (DZ F Aa Aa).q fun a w F W => ?_
  refine ls F W Aa (Au F Aa Aa Aa).q fun a w F W => ?_
  refine ls F W Aa (Ad F Aa).q fun a w F W => ?_
  rcases Bool.eq_false_or_eq_true (decide (1048576 < p4)) with hb3 | hb3
  ·
   rw [hb3] at F
   iterate 2 refine Cj F Aa Aa Aa Aa Aa Aa Aa fun a F => ?_
   refine ls F W Aa (Aq F Aa Aa Aa).q fun a w F W => ?_
   refine ls F W Aa (Ad F Aa).q fun a w F W => ?_
   iterate 2 refine Cj F Aa Aa Aa Aa Aa Aa Aa fun a F => ?_
   refine ls F W Aa (Aq F Aa Aa Aa).q fun a w F W => ?_
   refine Ae (Ab ?_)
   exact ⟨F.re ⟨rfl, Aa, Aa, Aa, Aa, Aa, Aa, Aa, (by show some (Value.bool true) = some (Value.bool (decide (p3 < 0) || (decide (1099511627776 < p3) || (decide (p4 < 0) || (decide (1048576 < p4) || (decide (p5 < 0) || decide (1048576 < p5))))))); try rw [hb1]; try rw [hb3]; try rw [hb0]; try rw [hb2]; all_goals simp only [Bool.not_true, Bool.not_false, Bool.true_and, Bool.false_and, Bool.true_or, Bool.false_or, Bool.and_true, Bool.or_false, cond_true, cond_false]), trivial⟩, W⟩
  rw [hb3] at F
  refine AD F W (Ag F Aa Aa Aa Aa) Aa (Ak Aa) (Ad F Aa).q fun a w F W => ?_
  refine AD F W (Ag F Aa Aa Aa Aa) Aa (Ak Aa) (Bk F Aa Aa).q fun a w F W => ?_
  refine ls F W Aa (Au F Aa Aa Aa).q fun a w F W => ?_
  refine ls F W Aa (Ad F Aa).q fun a w F W => ?_
  rcases Bool.eq_false_or_eq_true (decide (p5 < 0)) with hb4 | hb4
  ·
   rw [hb4] at F
   iterate 2 refine Cj F Aa Aa Aa Aa Aa Aa Aa fun a F => ?_
   refine ls F W Aa (Aq F Aa Aa Aa).q fun a w F W => ?_
   refine Ae (Ab ?_)
   exact ⟨F.re ⟨rfl, Aa, Aa, Aa, Aa, Aa, Aa, Aa, (by show some (Value.bool true) = some (Value.bool (decide (p3 < 0) || (decide (1099511627776 < p3) || (decide (p4 < 0) || (decide (1048576 < p4) || (decide (p5 < 0) || decide (1048576 < p5))))))); try rw [hb1]; try rw [hb3]; try rw [hb0]; try rw [hb2]; try rw [hb4]; all_goals simp only [Bool.not_true, Bool.not_false, Bool.true_and, Bool.false_and, Bool.true_or, Bool.false_or, Bool.and_true, Bool.or_false, cond_true, cond_false]), trivial⟩, W⟩
  rw [hb4] at F
  refine AD F W (Ag F Aa Aa Aa Aa) Aa (Ak Aa) (Ad F Aa).q fun a w F W => ?_
  refine AD F W (Ag F Aa Aa Aa Aa) Aa (Ak Aa) (DZ F Aa Aa).q fun a w F W => ?_
  refine ls F W Aa (Au F Aa Aa Aa).q fun a w F W => ?_
  refine Ae (Ab ?_)
  exact ⟨F.re ⟨rfl, Aa, Aa, Aa, Aa, Aa, Aa, Aa, (by show some (Value.bool (decide (1048576 < p5))) = some (Value.bool (decide (p3 < 0) || (decide (1099511627776 < p3) || (decide (p4 < 0) || (decide (1048576 < p4) || (decide (p5 < 0) || decide (1048576 < p5))))))); try rw [hb1]; try rw [hb3]; try rw [hb0]; try rw [hb2]; try rw [hb4]; all_goals simp only [Bool.not_true, Bool.not_false, Bool.true_and, Bool.false_and, Bool.true_or, Bool.false_or, Bool.and_true, Bool.or_false, cond_true, cond_false]), trivial⟩, W⟩
 rintro a w ⟨F, W⟩
 refine Aw F Aa (fun hb => ?_) fun hb => ?_
 ·
  have H := AL hb H
  rw [hb] at F
  clear hb
  refine Ah (Ac ?_)
  refine ls F W Aa (Cg (v := Value.agg #[.slice none 0 0, .slice none 0 0, .int .i64 0, .int .i64 0, .int .i64 0, .int .i64 0]) Se F Aa Aa Aa).q fun a w F W => ?_
  refine Br (vs := [.slice none 0 0, .slice none 0 0, .int .i64 0, .int .i64 0, .int .i64 0, .int .i64 0]) (M' := [(b2, [.slice none 0 0, .slice none 0 0, .int .i64 0, .int .i64 0, .int .i64 0, .int .i64 0]), (b1, [.int .i64 p0.1, v1, v2])]) 0 F W Aa Aa Aa N9 Aa Aa Aa Aa Aa fun w W => ?_
  refine ls F W Aa (Af F Aa).q fun a w F W => ?_
  refine Ae (Ab (wp_ret (AG ?_)))
  have H := AM H
  subst H
  refine CY (.inl Aa) F W Aa (ET 0 F Aa Aa N9 Aa) (Av F Aa) ?_
  have W := W.nilRow 85 A8
  have W := W.nilRow 48 HG
  have W := W.frontZ (i := 1) Aa Aa
  have W := W.sub (M' := []) (Z' := [row (Value.slice none 0 0) 85 A8 ([]), row (Value.slice none 0 0) 48 HG ([])]) (List.nil_sublist _) (List.Sublist.refl _)
  exact ⟨((Value.slice none 0 0), (Value.slice none 0 0)), Aa, W⟩
 have H := AK (by rw [hb]; decide) H
 rw [hb] at F
 clear hb
 refine wp_skip (Ab (Ah (Ac ?_)))
 refine ls F W Aa (As (v := Value.agg #[.int .i64 p0.1, v1, v2]) 1 F Aa Aa Iv Aa).q fun a w F W => ?_
 iterate 2 refine ls F W Aa (Ad F Aa).q fun a w F W => ?_
 obtain ⟨x1, h3, H⟩ := Al H
 refine Bp (Ml := []) (Zl := []) (M := [(b2, [.slice none 0 0, .slice none 0 0, .int .i64 0, .int .i64 0, .int .i64 0, .int .i64 0]), (b1, [.int .i64 p0.1, v1, v2])]) (Z := []) (β := Value) (rv := fun x => .tuple #[x, .int .i64 x1.2]) (MM := fun x => []) (ZZ := fun x => [row x 85 A8 x1.1]) F W T6 Aa Aa (fun hL => Mu _ w (v1) (v2) (v3) (v4) p0 p1 p2 _ h3 ((Am h_v1) w W).nx ((Am h_v2) w W).nx ((BA Dg h1 (Am h_v3)) w W).nx ((BA Dg h2 (Am h_v4)) w W).nx) fun x a w F W => ?_
 obtain ⟨v7, rfl⟩ : ∃ y, y = x := ⟨x, rfl⟩
 have W : Stw ⟨Y, [], w0⟩ [(b2, [.slice none 0 0, .slice none 0 0, .int .i64 0, .int .i64 0, .int .i64 0, .int .i64 0]), (b1, [.int .i64 p0.1, v1, v2])] [row v7 85 A8 x1.1] w := W
 refine ls F W Aa (Ad F Aa).q fun a w F W => ?_
 refine ls F W Aa (A0 (v := v7) F Aa Aa).q fun a w F W => ?_
 refine ls F W Aa (A0 (v := Value.int .i64 x1.2) F Aa Aa).q fun a w F W => ?_
 iterate 2 refine ls F W Aa (Af F Aa).q fun a w F W => ?_
 refine Ae (Ab (Ah (Ah (Ac ?_))))
 refine ls F W Aa (Ad F Aa).q fun a w F W => ?_
 refine ls F W Aa (Fe F Aa Aa).q fun a w F W => ?_
 refine Ae (Ab ?_)
 refine Aw F Aa (fun hb => ?_) fun hb => ?_
 ·
  have H := AL (A6 hb) H
  rw [hb] at F
  clear hb
  refine Ah (Ac ?_)
  refine ls F W Aa (Cg (v := Value.agg #[.slice none 0 0, .slice none 0 0, .int .i64 0, .int .i64 0, .int .i64 0, .int .i64 0]) Se F Aa Aa Aa).q fun a w F W => ?_
  refine ls F W Aa (Ad F Aa).q fun a w F W => ?_
  refine Br (vs := [.slice none 0 0, .slice none 0 0, .int .i64 0, .int .i64 0, .int .i64 0, .int .i64 0]) (M' := [(b2, [.slice none 0 0, .slice none 0 0, .int .i64 0, .int .i64 0, .int .i64 0, .int .i64 0]), (b1, [.int .i64 p0.1, v1, v2])]) 0 F W Aa Aa Aa N9 Aa Aa Aa Aa Aa fun w W => ?_
  refine ls F W Aa (Af F Aa).q fun a w F W => ?_
  refine Ae (Ab (wp_ret (AG ?_)))
  have H := AM H
  subst H
  refine CY (.inl Aa) F W Aa (ET 0 F Aa Aa N9 Aa) (Av F Aa) ?_
  have W := W.nilRow 85 A8
  have W := W.nilRow 48 HG
  have W := W.frontZ (i := 1) Aa Aa
  have W := W.sub (M' := []) (Z' := [row (Value.slice none 0 0) 85 A8 ([]), row (Value.slice none 0 0) 48 HG ([])]) (List.nil_sublist _) (List.Sublist.cons_cons _ (List.Sublist.cons_cons _ (List.nil_sublist _)))
  exact ⟨((Value.slice none 0 0), (Value.slice none 0 0)), Aa, W⟩
 have H := AK (A7 hb) H
 rw [hb] at F
 clear hb
 refine wp_skip (Ab (Ah (Ah (Ac ?_))))
 refine ls F W Aa (Ad F Aa).q fun a w F W => ?_
 refine ls F W Aa (BP (r := A8) (l := x1.1) Nc Aa F Aa (Ao 0 Aa)).q fun a w F W => ?_
 refine ls F W Aa (Cy F Aa Aa).q fun a w F W => ?_
 refine Ae (Ab ?_)
 refine Aw F Aa (fun hb => ?_) fun hb => ?_
 ·
  have H := AL (A6 hb) H
  rw [hb] at F
  clear hb
  refine Ah (Ac ?_)
  refine ls F W Aa (Cg (v := Value.agg #[.slice none 0 0, .slice none 0 0, .int .i64 0, .int .i64 0, .int .i64 0, .int .i64 0]) Se F Aa Aa Aa).q fun a w F W => ?_
  refine Br (vs := [.slice none 0 0, .slice none 0 0, .int .i64 0, .int .i64 0, .int .i64 0, .int .i64 0]) (M' := [(b2, [.slice none 0 0, .slice none 0 0, .int .i64 0, .int .i64 0, .int .i64 0, .int .i64 0]), (b1, [.int .i64 p0.1, v1, v2])]) 0 F W Aa Aa Aa N9 Aa Aa Aa Aa Aa fun w W => ?_
  refine ls F W Aa (Af F Aa).q fun a w F W => ?_
  refine Ae (Ab (wp_ret (AG ?_)))
  have H := AM H
  subst H
  refine CY (.inl Aa) F W Aa (ET 0 F Aa Aa N9 Aa) (Av F Aa) ?_
  have W := W.nilRow 85 A8
  have W := W.nilRow 48 HG
  have W := W.frontZ (i := 1) Aa Aa
  have W := W.sub (M' := []) (Z' := [row (Value.slice none 0 0) 85 A8 ([]), row (Value.slice none 0 0) 48 HG ([])]) (List.nil_sublist _) (List.Sublist.cons_cons _ (List.Sublist.cons_cons _ (List.nil_sublist _)))
  exact ⟨((Value.slice none 0 0), (Value.slice none 0 0)), Aa, W⟩
 have H := AK (A7 hb) H
 rw [hb] at F
 clear hb
 refine wp_skip (Ab (Ah (Ac ?_)))
 iterate 2 refine ls F W Aa (Ad F Aa).q fun a w F W => ?_
 refine ls F W Aa (As (v := Value.agg #[.int .i64 p0.1, v1, v2]) 1 F Aa Aa Iv Aa).q fun a w F W => ?_
 obtain ⟨x2, h4, H⟩ := Al H
 refine ls F W Aa (BH (v := Value.int .i64 x2) F Tu Aa (fun w W => Lp any w (v1) (v2) p0 _ h4 (((Am h_v1) : DT _ _ _ _ _ _) w W).nx (((Am h_v2) : DT _ _ _ _ _ _) w W).nx)) fun a w F W => ?_
 refine ls F W Aa (Cg (v := Value.agg #[v7, .slice none 0 0, .int .i64 p4, .int .i64 x2, .int .i64 0, .int .i64 0]) Se F Aa (A9 Aa (Cm (W.one (k := 0) Aa)) Aa (A9 Aa Aa Aa (A9 Aa Aa Aa De))) Aa).q fun a w F W => ?_
 refine Cn (cs := [.slice none 0 0, .slice none 0 0, .int .i64 0, .int .i64 0, .int .i64 0, .int .i64 0]) F W Aa SA Aa fun b3 a w F W => ?_
 refine Br (vs := [v7, .slice none 0 0, .int .i64 p4, .int .i64 x2, .int .i64 0, .int .i64 0]) (M' := [(b3, [v7, .slice none 0 0, .int .i64 p4, .int .i64 x2, .int .i64 0, .int .i64 0]), (b2, [.slice none 0 0, .slice none 0 0, .int .i64 0, .int .i64 0, .int .i64 0, .int .i64 0]), (b1, [.int .i64 p0.1, v1, v2])]) 0 F W Aa Aa Aa N9 Aa Aa Aa (AN (W.one (k := 0) Aa) (AN Aa (AN Aa (AN Aa (AN Aa (AN Aa Em)))))) Aa fun w W => ?_
 refine Ae (Ab (Ah (Ac ?_)))
 iterate 2 refine ls F W Aa (Ad F Aa).q fun a w F W => ?_
 refine ls F W Aa (A3 F Aa Aa Aa).q fun a w F W => ?_
 refine ls F W Aa (Ad F Aa).q fun a w F W => ?_
 refine ls F W Aa (A3 F Aa Aa Aa).q fun a w F W => ?_
 refine ls F W Aa (Ai GR Aa Aa Aa T3 F Aa 3 Aa).q fun a w F W => ?_
 refine ls F W Aa (As (v := Value.int .i64 x2) 0 F Aa Aa T3 Aa).q fun a w F W => ?_
 iterate 2 refine ls F W Aa (A3 F Aa Aa Aa).q fun a w F W => ?_
 refine ls F W Aa (Af F Aa).q fun a w F W => ?_
 refine Ae (Ab (Ah (Ac ?_)))
 iterate 2 refine ls F W Aa (Ad F Aa).q fun a w F W => ?_
 refine ls F W Aa (As (v := Value.agg #[.int .i64 p0.1, v1, v2]) 2 F Aa Aa Iv Aa).q fun a w F W => ?_
 refine ls F W Aa (Ad F Aa).q fun a w F W => ?_
 obtain ⟨x3, h5, H⟩ := Al H
 refine ls F W Aa (BH (v := Value.int .i64 x3) F Tr Aa (fun w W => LT any w (v1) (v2) p0 p4 _ h5 (((Am h_v1) : DT _ _ _ _ _ _) w W).nx (((Am h_v2) : DT _ _ _ _ _ _) w W).nx)) fun a w F W => ?_
 obtain ⟨x4, h6, H⟩ := Al H
 refine Bp (Ml := []) (Zl := []) (M := [(b3, [v7, .slice none 0 0, .int .i64 p4, .int .i64 x2, .int .i64 0, .int .i64 0]), (b2, [.slice none 0 0, .slice none 0 0, .int .i64 0, .int .i64 0, .int .i64 0, .int .i64 0]), (b1, [.int .i64 p0.1, v1, v2])]) (Z := [row v7 85 A8 x1.1]) (β := Value) (rv := fun x => x) (MM := fun x => []) (ZZ := fun x => [row x 48 HG x4]) F W UO Aa Aa (fun hL => My _ w (v7) x1.1 (AA ((AA ((AA ((AA (p3 + p5)) + p4)) + x2)) + 1)) x3 _ h6 ((Ao 0 Aa) w W).nx) fun x a w F W => ?_
 obtain ⟨v8, rfl⟩ : ∃ y, y = x := ⟨x, rfl⟩
 have W : Stw ⟨Y, [], w0⟩ [(b3, [v7, .slice none 0 0, .int .i64 p4, .int .i64 x2, .int .i64 0, .int .i64 0]), (b2, [.slice none 0 0, .slice none 0 0, .int .i64 0, .int .i64 0, .int .i64 0, .int .i64 0]), (b1, [.int .i64 p0.1, v1, v2])] [row v8 48 HG x4, row v7 85 A8 x1.1] w := W
 refine ls F W Aa (Ai GR Aa Aa Aa Mt F Aa 1 Aa).q fun a w F W => ?_
 refine Oe (M' := [(b3, [v7, v8, .int .i64 p4, .int .i64 x2, .int .i64 0, .int .i64 0]), (b2, [.slice none 0 0, .slice none 0 0, .int .i64 0, .int .i64 0, .int .i64 0, .int .i64 0]), (b1, [.int .i64 p0.1, v1, v2])]) 0 F W Aa Aa Aa Mt (W.one (k := 0) Aa) Aa Aa fun w W => ?_
 refine Ae (Ab (Ah (Ac ?_)))
 iterate 2 refine ls F W Aa (Ad F Aa).q fun a w F W => ?_
 refine ls F W Aa (B5 F Aa Aa Aa).q fun a w F W => ?_
 refine ls F W Aa (Ai GR Aa Aa Aa T3 F Aa 3 Aa).q fun a w F W => ?_
 refine ls F W Aa (As (v := Value.int .i64 x2) 0 F Aa Aa T3 Aa).q fun a w F W => ?_
 refine ls F W Aa (B5 F Aa Aa Aa).q fun a w F W => ?_
 refine ls F W Aa (Ai GR Aa Aa Aa T3 F Aa 4 Aa).q fun a w F W => ?_
 refine Br (vs := [.int .i64 (AA ((AA ((AA ((AA ((AA ((AA (p3 + p5)) + p4)) + x2)) + 1)) - p4)) - x2))]) (M' := [(b3, [v7, v8, .int .i64 p4, .int .i64 x2, .int .i64 (AA ((AA ((AA ((AA ((AA ((AA (p3 + p5)) + p4)) + x2)) + 1)) - p4)) - x2)), .int .i64 0]), (b2, [.slice none 0 0, .slice none 0 0, .int .i64 0, .int .i64 0, .int .i64 0, .int .i64 0]), (b1, [.int .i64 p0.1, v1, v2])]) 0 F W Aa Aa Aa T3 Aa Aa Aa Aa Aa fun w W => ?_
 refine Ae (Ab (Ah ?_))
 obtain ⟨v9, h7, W⟩ := W.exR ID
 refine Ac ?_
 refine ls F W Aa (Ai GR Aa Aa Aa Mt F Aa 1 Aa).q fun a w F W => ?_
 refine ls F W Aa (As (v := v8) 0 F Aa Aa Mt Aa).q fun a w F W => ?_
 refine ls F W Aa (Ai GR Aa Aa Aa Mt F Aa 1 Aa).q fun a w F W => ?_
 refine ls F W Aa (As (v := v8) 0 F Aa Aa Mt Aa).q fun a w F W => ?_
 refine ls F W Aa (BP (r := HG) (l := x4) PZ Aa F Aa (BA ID h7 (Ao 0 Aa))).q fun a w F W => ?_
 refine ls F W Aa (B5 F Aa Aa Aa).q fun a w F W => ?_
 obtain ⟨x5, h8, H⟩ := Al H
 obtain ⟨v10, h9, h10⟩ := EJ h7 h8
 have h11 : KH v10 = [.int .i64 x5.1, .int .i64 x5.2.1, (v10.2.2.1)] := congrArg (fun q : Int × Int × List Int => ([.int .i64 q.1, .int .i64 q.2.1, (v10.2.2.1)] : List Value)) h10
 refine ls F W Aa (Ay (r := MC) Ra F Aa Aa (Ao 0 Aa) h9).q fun a w F W => ?_
 refine ls F W Aa (Ai N7 Aa Aa Aa T3 F Aa (Fj v8 + (AA ((x4.length : Int) - 1)).toNat * 3 + 1) Aa).q fun a w F W => ?_
 refine ls F W Aa (Ap (y := Value.int .i64 x5.2.1) (j := 1) (i := AA ((x4.length : Int) - 1)) (enc := KH) F Aa Aa (Ao 0 Aa) h9 Po T3 (by rw [h11]; rfl)).q fun a w F W => ?_
 have W := W.note (W.rowAt (k := 0) Aa h9 (Dc.snd (Dc.snd Dc.here)) (congrArg (fun q : Int × Int × List Int => q.2.2) h10))
 refine ls F W Aa (Ad F Aa).q fun a w F W => ?_
 refine ls F W Aa (A3 F Aa Aa Aa).q fun a w F W => ?_
 refine ls F W Aa (Ai GR Aa Aa Aa T3 F Aa 5 Aa).q fun a w F W => ?_
 refine Br (vs := [.int .i64 (AA (x5.2.1 + p4))]) (M' := [(b3, [v7, v8, .int .i64 p4, .int .i64 x2, .int .i64 (AA ((AA ((AA ((AA ((AA ((AA (p3 + p5)) + p4)) + x2)) + 1)) - p4)) - x2)), .int .i64 (AA (x5.2.1 + p4))]), (b2, [.slice none 0 0, .slice none 0 0, .int .i64 0, .int .i64 0, .int .i64 0, .int .i64 0]), (b1, [.int .i64 p0.1, v1, v2])]) 0 F W Aa Aa Aa T3 Aa Aa Aa Aa Aa fun w W => ?_
 refine Ae (Ab (Ah (Ah (Ac ?_))))
 refine ls F W Aa (Ai GR Aa Aa Aa T3 F Aa 5 Aa).q fun a w F W => ?_
 refine ls F W Aa (As (v := Value.int .i64 (AA (x5.2.1 + p4))) 0 F Aa Aa T3 Aa).q fun a w F W => ?_
 refine ls F W Aa (DZ F Aa Aa).q fun a w F W => ?_
 refine Ae (Ab ?_)
 refine Aw F Aa (fun hb => ?_) fun hb => ?_
 ·
  have H := AL (A6 hb) H
  rw [hb] at F
  clear hb
  refine Ah (Ac ?_)
  refine ls F W Aa (Cg (v := Value.agg #[.slice none 0 0, .slice none 0 0, .int .i64 0, .int .i64 0, .int .i64 0, .int .i64 0]) Se F Aa Aa Aa).q fun a w F W => ?_
  refine Br (vs := [.slice none 0 0, .slice none 0 0, .int .i64 0, .int .i64 0, .int .i64 0, .int .i64 0]) (M' := [(b3, [v7, v8, .int .i64 p4, .int .i64 x2, .int .i64 (AA ((AA ((AA ((AA ((AA ((AA (p3 + p5)) + p4)) + x2)) + 1)) - p4)) - x2)), .int .i64 (AA (x5.2.1 + p4))]), (b2, [.slice none 0 0, .slice none 0 0, .int .i64 0, .int .i64 0, .int .i64 0, .int .i64 0]), (b1, [.int .i64 p0.1, v1, v2])]) 1 F W Aa Aa Aa N9 Aa Aa Aa Aa Aa fun w W => ?_
  refine ls F W Aa (Af F Aa).q fun a w F W => ?_
  refine Ae (Ab (wp_ret (AG ?_)))
  have H := AM H
  subst H
  refine CY (.inl Aa) F W Aa (ET 1 F Aa Aa N9 Aa) (Av F Aa) ?_
  have W := W.nilRow 85 A8
  have W := W.nilRow 48 HG
  have W := W.frontZ (i := 1) Aa Aa
  have W := W.sub (M' := []) (Z' := [row (Value.slice none 0 0) 85 A8 ([]), row (Value.slice none 0 0) 48 HG ([])]) (List.nil_sublist _) (List.Sublist.cons_cons _ (List.Sublist.cons_cons _ (List.nil_sublist _)))
  exact ⟨((Value.slice none 0 0), (Value.slice none 0 0)), Aa, W⟩
 have H := AK (A7 hb) H
 rw [hb] at F
 clear hb
 refine wp_skip (Ab (Ah (Ac ?_)))
 refine ls F W Aa (As (v := Value.agg #[v7, v8, .int .i64 p4, .int .i64 x2, .int .i64 (AA ((AA ((AA ((AA ((AA ((AA (p3 + p5)) + p4)) + x2)) + 1)) - p4)) - x2)), .int .i64 (AA (x5.2.1 + p4))]) 0 F Aa Aa N9 Aa).q fun a w F W => ?_
 refine Br (vs := [v7, v8, .int .i64 p4, .int .i64 x2, .int .i64 (AA ((AA ((AA ((AA ((AA ((AA (p3 + p5)) + p4)) + x2)) + 1)) - p4)) - x2)), .int .i64 (AA (x5.2.1 + p4))]) (M' := [(b3, [v7, v8, .int .i64 p4, .int .i64 x2, .int .i64 (AA ((AA ((AA ((AA ((AA ((AA (p3 + p5)) + p4)) + x2)) + 1)) - p4)) - x2)), .int .i64 (AA (x5.2.1 + p4))]), (b2, [v7, v8, .int .i64 p4, .int .i64 x2, .int .i64 (AA ((AA ((AA ((AA ((AA ((AA (p3 + p5)) + p4)) + x2)) + 1)) - p4)) - x2)), .int .i64 (AA (x5.2.1 + p4))]), (b1, [.int .i64 p0.1, v1, v2])]) 1 F W Aa Aa Aa N9 Aa Aa Aa (AN (W.one (k := 2) Aa) (AN (W.one (k := 1) Aa) (AN Aa (AN Aa (AN Aa (AN Aa Em)))))) Aa fun w W => ?_
 refine ls F W Aa (Af F Aa).q fun a w F W => ?_
 refine Ae (Ab (wp_ret ?_))
 have H := AM H
 subst H
 refine CY (.inl Aa) F W Aa (ET 1 F Aa Aa N9 Aa) (Av F Aa) ?_
 have W := W.frontZ (i := 1) Aa Aa
 have W := W.hideR ID h7
 have W := W.frontZ (i := 2) Aa Aa
 have W := W.sub (M' := []) (Z' := [row v7 85 A8 x1.1, row v8 48 HG x4]) (List.nil_sublist _) (List.Sublist.cons_cons _ (List.Sublist.cons_cons _ (List.nil_sublist _)))
 exact ⟨((v7), (v8)), Aa, W⟩
end Go.Proofs.Ytjcaadbafjgefaa
