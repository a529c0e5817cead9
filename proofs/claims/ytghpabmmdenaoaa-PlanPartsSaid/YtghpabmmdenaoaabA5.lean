/- The functions of layer 24, Ig. Conditions: none. -/
import Derived.Test.YtghpabmmdenaoaabA4
namespace Go.Proofs.Ytghpabmmdenaoaa
open Go Go.RowKit
set_option linter.unusedVariables false
set_option linter.unusedSimpArgs false
set_option maxRecDepth 20000
theorem Lo : type_of% Try.underlying102 := Try.underlying102
theorem Wd : Has Try.prog 43 := ⟨fun args w => Al Try.func43 rfl (by decide) args w⟩
theorem OQ : (Try.prog.info? 102).bind (·.zero) = some (.agg #[.slice none 0 0, .slice none 0 0, .int .i64 0]) := by kernel_rfl
theorem P2 : Bt Try.prog 102 [.slice none 0 0, .slice none 0 0, .int .i64 0] [(0, 1), (1, 1), (2, 1)] := ⟨⟨.agg #[.slice none 0 0, .slice none 0 0, .int .i64 0], by kernel_rfl, rfl⟩, ⟨_, Lo, fun w => by kernel_rfl⟩⟩
theorem ME : Ty Try.prog 102 true 3 := ⟨by kernel_rfl, by kernel_rfl⟩
noncomputable def CD (p0 : Int) (p1 : List (Int × Int × Int)) (x6 : Int) : (Bool × Int × List Int × List Int) → Option ((Bool × Int × List Int × List Int) ⊕ ((Bool × List Int × List Int) ⊕ ((List Int × List Int) ⊕ ((Int × List Int × List Int) ⊕ (List Int × List Int × Int)))))
  | (x14, x15, x16, x17) => (if x15 < (p1.length : Int) then FO ((ix p1 x15).bind fun x21 => (ix x16 x21.1).bind fun x22 => (ix x16 x21.2.1).bind fun x23 => (if (Az (x22 + x21.2.2)) ≤ x23 then some (.inl (x14, x16, x17)) else (ix x16 x21.2.1).bind fun x24 => (ix x17 x21.2.1).bind fun x25 => (if x6 = p0 then some (.inr (.inr (.inr (.inr (.inr ((AE x16 x21.2.1 (Az (x22 + x21.2.2))), (AE x17 x21.2.1 x15), x21.2.1)))))) else some (.inl (true, (AE x16 x21.2.1 (Az (x22 + x21.2.2))), (AE x17 x21.2.1 x15)))))) fun (x18, x19, x20) => some (.inl (x18, Az (x15 + 1), x19, x20)) else some (.inr (.inl (x14, x16, x17))))
noncomputable def DF (p0 : Int) (p1 : List (Int × Int × Int)) : (Int × List Int × List Int) → Option ((Int × List Int × List Int) ⊕ (List Int × List Int × Int))
  | (x6, x7, x8) => FO (FO (AH (CD p0 p1 x6) (false, 0, x7, x8)) fun (x11, x12, x13) => (if (!x11) = true then some (.inr (.inr (x12, x13, (-1)))) else some (.inl (x12, x13)))) fun (x9, x10) => some (.inl (Az (x6 + 1), x9, x10))
noncomputable def Gb (p0 : Int) (p1 : List (Int × Int × Int)) : Option (List Int × List Int × Int) := (mk p0 (0 : Int)).bind fun x1 => (mk p0 (0 : Int)).bind fun x2 => (AH (DF p0 p1) (1, x1, x2)).bind fun (x3, x4, x5) => some (x3, x4, x5)
theorem NB (Y : Nat → Prop) (w0 : World) (v1 : Value) (p0 : Int) (p1 : List (Int × Int × Int)) (r : (List Int × List Int × Int)) (H : Gb p0 p1 = some r) (h_v1 : Sl w0 (NX []) Nh v1 p1) :
    Calls Try.prog 44 #[.int .i64 p0, v1] w0 fun e w' => ∃ x : Value × Value, e = .returned (.agg #[x.1, x.2, .int .i64 r.2.2]) ∧ Stw ⟨Y, [], w0⟩ [] [row (x.1) 3 (Rp.int .i64) r.1, row (x.2) 3 (Rp.int .i64) r.2.1] w' := by
 refine enter Try.func44 Aa Try.ntmps44 Aa fun a F => ?_
 have W := Stw.start Y w0
 unfold Gb at H
 refine Ah (Ac ?_)
 refine CB (cs := [.slice none 0 0, .slice none 0 0, .int .i64 0]) F W Aa OQ Aa fun b1 a w F W => ?_
 refine Ae (Ab (Kz (Ah ?_)))
 obtain ⟨x1, h1, H⟩ := Ak H
 obtain ⟨x2, h2, H⟩ := Ak H
 refine RA (fun a w => ∃ b2 : Nat, ∃ v2 : Value, ∃ v3 : Value, Fr 64 [] [(0, .int .i64 p0), (1, v1), (4, .pointer (some ⟨b1, 0, none⟩)), (5, .pointer (some ⟨b2, 0, none⟩)), (11, .int .i64 p0), (12, v2), (13, .int .i64 p0), (14, v3), (15, .agg #[v2, v3, .int .i64 (-1)])] a ∧ Stw ⟨Y, [], w0⟩ [(b2, [v2, v3, .int .i64 (-1)]), (b1, [.slice none 0 0, .slice none 0 0, .int .i64 0])] [row v3 3 (Rp.int .i64) x2, row v2 3 (Rp.int .i64) x1] w) ?_ ?_
 ·
  refine QA (PT.st 0 (PT.st 2 (PT.alt 1 (PT.alt 3 (PT.st 4 (PT.alt 5 (PT.alt 6 PT.done PT.stop) PT.stop)) (PT.alt 5 (PT.alt 3 (PT.st 4 (PT.alt 6 PT.done PT.stop)) PT.stop) PT.stop)) (PT.alt 3 (PT.alt 1 (PT.st 4 (PT.alt 5 (PT.alt 6 PT.done PT.stop) PT.stop)) (PT.alt 5 (PT.alt 1 (PT.st 4 (PT.alt 6 PT.done PT.stop)) PT.stop) PT.stop)) (PT.alt 5 (PT.alt 1 (PT.alt 3 (PT.st 4 (PT.alt 6 PT.done PT.stop)) PT.stop) (PT.alt 3 (PT.alt 1 (PT.st 4 (PT.alt 6 PT.done PT.stop)) PT.stop) PT.stop)) PT.stop))))) (CN ⟨Y, [], w0⟩ [] []) (fun ch a d v w h => by cases d <;> exact h) MO (by kernel_rfl) W (fun w W => ⟨_, _, W, Aw, Aw⟩) fun w W => ?_
  iterate 2 refine OU (R := []) F Aa Aa (yC fun M Z hN hZ => Ad F Aa) Aa Aa fun a F => ?_
  refine M5 Aa ?_ ?_
  ·
   refine H2 (r := (Rp.int .i64)) (0 : Int) F W Aa EH Z3 Aa Aa (fun w A => Fl.int.mk' w A _) h1 Aa fun v2 a w F W => ?_
   refine DJ (N2 := []) (NZ2 := []) (N3 := []) (NZ3 := []) W Aa Aa Aw Aw ?_
   refine M5 Aa ?_ ?_
   ·
    refine H2 (r := (Rp.int .i64)) (0 : Int) F W Aa EH Z3 Aa Aa (fun w A => Fl.int.mk' w A _) h2 Aa fun v3 a w F W => ?_
    refine DJ (N2 := []) (NZ2 := []) (N3 := []) (NZ3 := []) W Aa Aa Aw Aw ?_
    refine OU (R := []) F Aa Aa (yC fun M Z hN hZ => CE (v := Value.agg #[v2, v3, .int .i64 (-1)]) P2 F Aa (Bq Aa (Ct (W.one (k := 1) Aa)) Aa (Bq Aa (Ct (W.one (k := 0) Aa)) Aa (Bq Aa Aa Aa DO))) Aa) Aa Aa fun a F => ?_
    refine Jf Aa ?_
    refine CB (cs := [.slice none 0 0, .slice none 0 0, .int .i64 0]) F W Aa OQ Aa fun b2 a w F W => ?_
    refine DJ (N2 := []) (NZ2 := []) (N3 := []) (NZ3 := []) W Aa Aa Aw Aw ?_
    refine Jf Aa ?_
    refine BW (vs := [v2, v3, .int .i64 (-1)]) (M' := [(b2, [v2, v3, .int .i64 (-1)]), (b1, [.slice none 0 0, .slice none 0 0, .int .i64 0])]) 0 F W Aa Aa Aa ME Aa Aa Aa (AZ (W.one (k := 1) Aa) (AZ (W.one (k := 0) Aa) (AZ Aa E3))) Aa fun w W => ?_
    refine DJ (N2 := []) (NZ2 := []) (N3 := []) (NZ3 := []) W Aa Aa Aw Aw ?_
    have W := W.frontZ (i := 1) Aa Aa
    have W := W.frontZ (i := 1) Aa Aa
    have W := W.frontM (i := 1) Aa Aa
    have W := W.frontM (i := 1) Aa Aa
    refine KW ?_
    exact ⟨b2, v2, v3, F.re ⟨rfl, Aa, Aa, Aa, Aa, Aa, Aa, Aa, Aa, trivial⟩, W⟩
   refine M5 Aa ?_ ?_
   ·
    refine CB (cs := [.slice none 0 0, .slice none 0 0, .int .i64 0]) F W Aa OQ Aa fun b2 a w F W => ?_
    refine DJ (N2 := []) (NZ2 := []) (N3 := []) (NZ3 := []) W Aa Aa Aw Aw ?_
    refine Jf Aa ?_
    refine H2 (r := (Rp.int .i64)) (0 : Int) F W Aa EH Z3 Aa Aa (fun w A => Fl.int.mk' w A _) h2 Aa fun v3 a w F W => ?_
    refine DJ (N2 := []) (NZ2 := []) (N3 := []) (NZ3 := []) W Aa Aa Aw Aw ?_
    refine OU (R := []) F Aa Aa (yC fun M Z hN hZ => CE (v := Value.agg #[v2, v3, .int .i64 (-1)]) P2 F Aa (Bq Aa (Ct (W.one (k := 1) Aa)) Aa (Bq Aa (Ct (W.one (k := 0) Aa)) Aa (Bq Aa Aa Aa DO))) Aa) Aa Aa fun a F => ?_
    refine Jf Aa ?_
    refine BW (vs := [v2, v3, .int .i64 (-1)]) (M' := [(b2, [v2, v3, .int .i64 (-1)]), (b1, [.slice none 0 0, .slice none 0 0, .int .i64 0])]) 0 F W Aa Aa Aa ME Aa Aa Aa (AZ (W.one (k := 1) Aa) (AZ (W.one (k := 0) Aa) (AZ Aa E3))) Aa fun w W => ?_
    refine DJ (N2 := []) (NZ2 := []) (N3 := []) (NZ3 := []) W Aa Aa Aw Aw ?_
    have W := W.frontZ (i := 1) Aa Aa
    have W := W.frontZ (i := 1) Aa Aa
    have W := W.frontM (i := 1) Aa Aa
    have W := W.frontM (i := 1) Aa Aa
    refine KW ?_
    exact ⟨b2, v2, v3, F.re ⟨rfl, Aa, Aa, Aa, Aa, Aa, Aa, Aa, Aa, trivial⟩, W⟩
   exact trivial
  refine M5 Aa ?_ ?_
  ·
   refine H2 (r := (Rp.int .i64)) (0 : Int) F W Aa EH Z3 Aa Aa (fun w A => Fl.int.mk' w A _) h2 Aa fun v3 a w F W => ?_
   refine DJ (N2 := []) (NZ2 := []) (N3 := []) (NZ3 := []) W Aa Aa Aw Aw ?_
   refine M5 Aa ?_ ?_
   ·
    refine H2 (r := (Rp.int .i64)) (0 : Int) F W Aa EH Z3 Aa Aa (fun w A => Fl.int.mk' w A _) h1 Aa fun v2 a w F W => ?_
    refine DJ (N2 := []) (NZ2 := []) (N3 := []) (NZ3 := []) W Aa Aa Aw Aw ?_
    refine OU (R := []) F Aa Aa (yC fun M Z hN hZ => CE (v := Value.agg #[v2, v3, .int .i64 (-1)]) P2 F Aa (Bq Aa (Ct (W.one (k := 0) Aa)) Aa (Bq Aa (Ct (W.one (k := 1) Aa)) Aa (Bq Aa Aa Aa DO))) Aa) Aa Aa fun a F => ?_
    refine Jf Aa ?_
    refine CB (cs := [.slice none 0 0, .slice none 0 0, .int .i64 0]) F W Aa OQ Aa fun b2 a w F W => ?_
    refine DJ (N2 := []) (NZ2 := []) (N3 := []) (NZ3 := []) W Aa Aa Aw Aw ?_
    refine Jf Aa ?_
    refine BW (vs := [v2, v3, .int .i64 (-1)]) (M' := [(b2, [v2, v3, .int .i64 (-1)]), (b1, [.slice none 0 0, .slice none 0 0, .int .i64 0])]) 0 F W Aa Aa Aa ME Aa Aa Aa (AZ (W.one (k := 0) Aa) (AZ (W.one (k := 1) Aa) (AZ Aa E3))) Aa fun w W => ?_
    refine DJ (N2 := []) (NZ2 := []) (N3 := []) (NZ3 := []) W Aa Aa Aw Aw ?_
    have W := W.frontZ (i := 1) Aa Aa
    have W := W.frontM (i := 1) Aa Aa
    have W := W.frontM (i := 1) Aa Aa
    refine KW ?_
    exact ⟨b2, v2, v3, F.re ⟨rfl, Aa, Aa, Aa, Aa, Aa, Aa, Aa, Aa, trivial⟩, W⟩
   refine M5 Aa ?_ ?_
   ·
    refine CB (cs := [.slice none 0 0, .slice none 0 0, .int .i64 0]) F W Aa OQ Aa fun b2 a w F W => ?_
    refine DJ (N2 := []) (NZ2 := []) (N3 := []) (NZ3 := []) W Aa Aa Aw Aw ?_
    refine Jf Aa ?_
    refine H2 (r := (Rp.int .i64)) (0 : Int) F W Aa EH Z3 Aa Aa (fun w A => Fl.int.mk' w A _) h1 Aa fun v2 a w F W => ?_
    refine DJ (N2 := []) (NZ2 := []) (N3 := []) (NZ3 := []) W Aa Aa Aw Aw ?_
    refine OU (R := []) F Aa Aa (yC fun M Z hN hZ => CE (v := Value.agg #[v2, v3, .int .i64 (-1)]) P2 F Aa (Bq Aa (Ct (W.one (k := 0) Aa)) Aa (Bq Aa (Ct (W.one (k := 1) Aa)) Aa (Bq Aa Aa Aa DO))) Aa) Aa Aa fun a F => ?_
    refine Jf Aa ?_
    refine BW (vs := [v2, v3, .int .i64 (-1)]) (M' := [(b2, [v2, v3, .int .i64 (-1)]), (b1, [.slice none 0 0, .slice none 0 0, .int .i64 0])]) 0 F W Aa Aa Aa ME Aa Aa Aa (AZ (W.one (k := 0) Aa) (AZ (W.one (k := 1) Aa) (AZ Aa E3))) Aa fun w W => ?_
    refine DJ (N2 := []) (NZ2 := []) (N3 := []) (NZ3 := []) W Aa Aa Aw Aw ?_
    have W := W.frontZ (i := 1) Aa Aa
    have W := W.frontM (i := 1) Aa Aa
    have W := W.frontM (i := 1) Aa Aa
    refine KW ?_
    exact ⟨b2, v2, v3, F.re ⟨rfl, Aa, Aa, Aa, Aa, Aa, Aa, Aa, Aa, trivial⟩, W⟩
   exact trivial
  refine M5 Aa ?_ ?_
  ·
   refine CB (cs := [.slice none 0 0, .slice none 0 0, .int .i64 0]) F W Aa OQ Aa fun b2 a w F W => ?_
   refine DJ (N2 := []) (NZ2 := []) (N3 := []) (NZ3 := []) W Aa Aa Aw Aw ?_
   refine M5 Aa ?_ ?_
   ·
    refine H2 (r := (Rp.int .i64)) (0 : Int) F W Aa EH Z3 Aa Aa (fun w A => Fl.int.mk' w A _) h1 Aa fun v2 a w F W => ?_
    refine DJ (N2 := []) (NZ2 := []) (N3 := []) (NZ3 := []) W Aa Aa Aw Aw ?_
    refine Jf Aa ?_
    refine H2 (r := (Rp.int .i64)) (0 : Int) F W Aa EH Z3 Aa Aa (fun w A => Fl.int.mk' w A _) h2 Aa fun v3 a w F W => ?_
    refine DJ (N2 := []) (NZ2 := []) (N3 := []) (NZ3 := []) W Aa Aa Aw Aw ?_
    refine OU (R := []) F Aa Aa (yC fun M Z hN hZ => CE (v := Value.agg #[v2, v3, .int .i64 (-1)]) P2 F Aa (Bq Aa (Ct (W.one (k := 1) Aa)) Aa (Bq Aa (Ct (W.one (k := 0) Aa)) Aa (Bq Aa Aa Aa DO))) Aa) Aa Aa fun a F => ?_
    refine Jf Aa ?_
    refine BW (vs := [v2, v3, .int .i64 (-1)]) (M' := [(b2, [v2, v3, .int .i64 (-1)]), (b1, [.slice none 0 0, .slice none 0 0, .int .i64 0])]) 0 F W Aa Aa Aa ME Aa Aa Aa (AZ (W.one (k := 1) Aa) (AZ (W.one (k := 0) Aa) (AZ Aa E3))) Aa fun w W => ?_
    refine DJ (N2 := []) (NZ2 := []) (N3 := []) (NZ3 := []) W Aa Aa Aw Aw ?_
    have W := W.frontZ (i := 1) Aa Aa
    have W := W.frontZ (i := 1) Aa Aa
    have W := W.frontM (i := 1) Aa Aa
    have W := W.frontM (i := 1) Aa Aa
    refine KW ?_
    exact ⟨b2, v2, v3, F.re ⟨rfl, Aa, Aa, Aa, Aa, Aa, Aa, Aa, Aa, trivial⟩, W⟩
   refine M5 Aa ?_ ?_
   ·
    refine H2 (r := (Rp.int .i64)) (0 : Int) F W Aa EH Z3 Aa Aa (fun w A => Fl.int.mk' w A _) h2 Aa fun v3 a w F W => ?_
    refine DJ (N2 := []) (NZ2 := []) (N3 := []) (NZ3 := []) W Aa Aa Aw Aw ?_
    refine Jf Aa ?_
    refine H2 (r := (Rp.int .i64)) (0 : Int) F W Aa EH Z3 Aa Aa (fun w A => Fl.int.mk' w A _) h1 Aa fun v2 a w F W => ?_
    refine DJ (N2 := []) (NZ2 := []) (N3 := []) (NZ3 := []) W Aa Aa Aw Aw ?_
    refine OU (R := []) F Aa Aa (yC fun M Z hN hZ => CE (v := Value.agg #[v2, v3, .int .i64 (-1)]) P2 F Aa (Bq Aa (Ct (W.one (k := 0) Aa)) Aa (Bq Aa (Ct (W.one (k := 1) Aa)) Aa (Bq Aa Aa Aa DO))) Aa) Aa Aa fun a F => ?_
    refine Jf Aa ?_
    refine BW (vs := [v2, v3, .int .i64 (-1)]) (M' := [(b2, [v2, v3, .int .i64 (-1)]), (b1, [.slice none 0 0, .slice none 0 0, .int .i64 0])]) 0 F W Aa Aa Aa ME Aa Aa Aa (AZ (W.one (k := 0) Aa) (AZ (W.one (k := 1) Aa) (AZ Aa E3))) Aa fun w W => ?_
    refine DJ (N2 := []) (NZ2 := []) (N3 := []) (NZ3 := []) W Aa Aa Aw Aw ?_
    have W := W.frontZ (i := 1) Aa Aa
    have W := W.frontM (i := 1) Aa Aa
    have W := W.frontM (i := 1) Aa Aa
    refine KW ?_
    exact ⟨b2, v2, v3, F.re ⟨rfl, Aa, Aa, Aa, Aa, Aa, Aa, Aa, Aa, trivial⟩, W⟩
   exact trivial
  exact trivial
 rintro a w ⟨b2, v2, v3, F, W⟩
 refine Ab (Ah (QX (Ab ?_)))
 obtain ⟨o1, G1, K1⟩ := Ak H
 refine AK (fun a w => ∃ x3 : List Int, ∃ x4 : List Int, ∃ x5 : Int, some ((x3, x4, x5)) = some o1 ∧ Fr 64 [] [(4, .pointer (some ⟨b1, 0, none⟩)), (5, .pointer (some ⟨b2, 0, none⟩))] a ∧ Stw ⟨Y, [], w0⟩ [(b2, [v2, v3, .int .i64 x5]), (b1, [.slice none 0 0, .slice none 0 0, .int .i64 0])] [row v2 3 (Rp.int .i64) x3, row v3 3 (Rp.int .i64) x4] w) ?_ ?_
 ·
  have H := G1
  clear G1 K1
  refine Ah (Ac ?_)
  refine ls F W Aa (Af F Aa).q fun a w F W => ?_
  refine Ae (Ab (As ?_))
  have W := W.frontZ (i := 1) Aa Aa
  have W := W.frontM (i := 1) Aa Aa
  have W := W.frontM (i := 1) Aa Aa
  refine Bh H (fun s a w => Fr 64 [] [(0, .int .i64 p0), (1, v1), (4, .pointer (some ⟨b1, 0, none⟩)), (5, .pointer (some ⟨b2, 0, none⟩)), (6, .int .i64 s.1)] a ∧ Stw ⟨Y, [], w0⟩ [(b2, [v2, v3, .int .i64 (-1)]), (b1, [.slice none 0 0, .slice none 0 0, .int .i64 0])] [row v2 3 (Rp.int .i64) s.2.1, row v3 3 (Rp.int .i64) s.2.2] w) ⟨F.re ⟨rfl, Aa, Aa, Aa, Aa, trivial⟩, W⟩ fun s o a w H L2 hR => ?_
  obtain ⟨x6, x7, x8⟩ := s
  obtain ⟨F, W⟩ := hR
  have F : Fr 64 [] [(0, .int .i64 p0), (1, v1), (4, .pointer (some ⟨b1, 0, none⟩)), (5, .pointer (some ⟨b2, 0, none⟩)), (6, .int .i64 x6)] a := F
  have W : Stw ⟨Y, [], w0⟩ [(b2, [v2, v3, .int .i64 (-1)]), (b1, [.slice none 0 0, .slice none 0 0, .int .i64 0])] [row v2 3 (Rp.int .i64) x7, row v3 3 (Rp.int .i64) x8] w := W
  rw [DF] at H
  obtain ⟨o3, G3, K3, L3⟩ := JX H
  refine AK (fun a w => ∃ x9 : List Int, ∃ x10 : List Int, some (Sum.inl (x9, x10)) = some o3 ∧ Fr 64 [] [(0, .int .i64 p0), (1, v1), (4, .pointer (some ⟨b1, 0, none⟩)), (5, .pointer (some ⟨b2, 0, none⟩)), (6, .int .i64 x6)] a ∧ Stw ⟨Y, [], w0⟩ [(b2, [v2, v3, .int .i64 (-1)]), (b1, [.slice none 0 0, .slice none 0 0, .int .i64 0])] [row v2 3 (Rp.int .i64) x9, row v3 3 (Rp.int .i64) x10] w) ?_ ?_
  ·
   have H := G3
   clear G3 K3
   refine As (Ah (Ac ?_))
   refine ls F W Aa (Af F Aa).q fun a w F W => ?_
   refine Ae (Ab ?_)
   obtain ⟨o4, G4, K4, L4⟩ := JX H
   refine AK (fun a w => ∃ x11 : Bool, ∃ x12 : List Int, ∃ x13 : List Int, some (Sum.inl (x11, x12, x13)) = some o4 ∧ Fr 64 [] [(0, .int .i64 p0), (1, v1), (4, .pointer (some ⟨b1, 0, none⟩)), (5, .pointer (some ⟨b2, 0, none⟩)), (6, .int .i64 x6), (7, .bool x11)] a ∧ Stw ⟨Y, [], w0⟩ [(b2, [v2, v3, .int .i64 (-1)]), (b1, [.slice none 0 0, .slice none 0 0, .int .i64 0])] [row v2 3 (Rp.int .i64) x12, row v3 3 (Rp.int .i64) x13] w) ?_ ?_
   ·
    have H := G4
    clear G4 K4
    refine Ah (Ac ?_)
    refine ls F W Aa (Ad F Aa).q fun a w F W => ?_
    refine ls F W Aa (B1 (r := Nh) (l := p1) R0 Aa F Aa (Ap h_v1)).q fun a w F W => ?_
    refine ls F W Aa (Ad F Aa).q fun a w F W => ?_
    refine Ae (Ab (As ?_))
    have W := W.frontZ (i := 1) Aa Aa
    have W := W.frontZ (i := 1) Aa Aa
    have W := W.frontM (i := 1) Aa Aa
    have W := W.frontM (i := 1) Aa Aa
    refine Bh H (fun s a w => Fr 64 [] [(0, .int .i64 p0), (1, v1), (4, .pointer (some ⟨b1, 0, none⟩)), (5, .pointer (some ⟨b2, 0, none⟩)), (6, .int .i64 x6), (7, .bool s.1), (18, v1), (19, .int .i64 (p1.length : Int)), (20, .int .i64 s.2.1)] a ∧ Stw ⟨Y, [], w0⟩ [(b2, [v2, v3, .int .i64 (-1)]), (b1, [.slice none 0 0, .slice none 0 0, .int .i64 0])] [row v2 3 (Rp.int .i64) s.2.2.1, row v3 3 (Rp.int .i64) s.2.2.2] w) ⟨F.re ⟨rfl, Aa, Aa, Aa, Aa, Aa, Aa, Aa, Aa, trivial⟩, W⟩ fun s o a w H L5 hR => ?_
    obtain ⟨x14, x15, x16, x17⟩ := s
    obtain ⟨F, W⟩ := hR
    have F : Fr 64 [] [(0, .int .i64 p0), (1, v1), (4, .pointer (some ⟨b1, 0, none⟩)), (5, .pointer (some ⟨b2, 0, none⟩)), (6, .int .i64 x6), (7, .bool x14), (18, v1), (19, .int .i64 (p1.length : Int)), (20, .int .i64 x15)] a := F
    have W : Stw ⟨Y, [], w0⟩ [(b2, [v2, v3, .int .i64 (-1)]), (b1, [.slice none 0 0, .slice none 0 0, .int .i64 0])] [row v2 3 (Rp.int .i64) x16, row v3 3 (Rp.int .i64) x17] w := W
    rw [CD] at H
    refine Ah (Ac ?_)
    refine ls F W Aa (BI F Aa Aa).q fun a w F W => ?_
    refine Ae (Ab (Ah ?_))
    refine Ay F Aa (fun hb => ?_) fun hb => ?_
    ·
     have H := AP (Bm hb) H
     rw [hb] at F
     clear hb
     refine Aq (Ab ?_)
     obtain ⟨o6, G6, K6, L6⟩ := JX H
     refine AK (fun a w => ∃ x18 : Bool, ∃ x19 : List Int, ∃ x20 : List Int, some (Sum.inl (x18, x19, x20)) = some o6 ∧ Fr 64 [] [(0, .int .i64 p0), (1, v1), (4, .pointer (some ⟨b1, 0, none⟩)), (5, .pointer (some ⟨b2, 0, none⟩)), (6, .int .i64 x6), (7, .bool x18), (18, v1), (19, .int .i64 (p1.length : Int)), (20, .int .i64 x15)] a ∧ Stw ⟨Y, [], w0⟩ [(b2, [v2, v3, .int .i64 (-1)]), (b1, [.slice none 0 0, .slice none 0 0, .int .i64 0])] [row v2 3 (Rp.int .i64) x19, row v3 3 (Rp.int .i64) x20] w) ?_ ?_
     ·
      have H := G6
      clear G6 K6
      refine As (Ah (Ac ?_))
      refine ls F W Aa (Ad F Aa).q fun a w F W => ?_
      obtain ⟨x21, h3, H⟩ := Ak H
      refine ls F W Aa (AC (r := Nh) TO F Aa Aa (Ap h_v1) h3).q fun a w F W => ?_
      refine ls F W Aa (Ao (y := Value.agg #[.int .i64 x21.1, .int .i64 x21.2.1, .int .i64 x21.2.2]) (j := 0) (i := x15) F Aa Aa (Ap h_v1) h3 Un.to TH Aa).q fun a w F W => ?_
      refine CB (cs := [.int .i64 0, .int .i64 0, .int .i64 0]) F W Aa TQ Aa fun b3 a w F W => ?_
      refine ls F W Aa (Af F Aa).q fun a w F W => ?_
      refine BW (vs := [.int .i64 x21.1, .int .i64 x21.2.1, .int .i64 x21.2.2]) (M' := [(b3, [.int .i64 x21.1, .int .i64 x21.2.1, .int .i64 x21.2.2]), (b2, [v2, v3, .int .i64 (-1)]), (b1, [.slice none 0 0, .slice none 0 0, .int .i64 0])]) 0 F W Aa Aa Aa TH Aa Aa Aa Aa Aa fun w W => ?_
      refine Ae (Ab (Ah ?_))
      refine BS W MO (by kernel_rfl) ?_
      refine qs F Aa (Am Lo Aa Aa Aa J7 F Aa 0 Aa).q fun a F => ?_
      refine qs F Aa (AB (v := v2) 1 F Aa Aa J7 Aa).q fun a F => ?_
      refine qs F Aa (Am K0 Aa Aa Aa T3 F Aa 0 Aa).q fun a F => ?_
      refine qs F Aa (AB (v := Value.int .i64 x21.1) 0 F Aa Aa T3 Aa).q fun a F => ?_
      obtain ⟨x22, h4, H⟩ := Ak H
      refine qs F Aa (AC (r := (Rp.int .i64)) EH F Aa Aa (Aj 0 Aa) h4).q fun a F => ?_
      refine qs F Aa (Ao (y := Value.int .i64 x22) (j := 0) (i := x21.1) F Aa Aa (Aj 0 Aa) h4 Fl.int.to T3 Aa).q fun a F => ?_
      refine qs F Aa (Am K0 Aa Aa Aa T3 F Aa 2 Aa).q fun a F => ?_
      refine qs F Aa (AB (v := Value.int .i64 x21.2.2) 0 F Aa Aa T3 Aa).q fun a F => ?_
      refine qs F Aa (Bp F Aa Aa Aa).q fun a F => ?_
      refine qs F Aa (Af F Aa).q fun a F => ?_
      refine A0 fun w W => ?_
      refine Ab (Ah (Ah (Ac ?_)))
      refine ls F W Aa (Am Lo Aa Aa Aa J7 F Aa 0 Aa).q fun a w F W => ?_
      refine ls F W Aa (AB (v := v2) 1 F Aa Aa J7 Aa).q fun a w F W => ?_
      refine ls F W Aa (Am K0 Aa Aa Aa T3 F Aa 1 Aa).q fun a w F W => ?_
      refine ls F W Aa (AB (v := Value.int .i64 x21.2.1) 0 F Aa Aa T3 Aa).q fun a w F W => ?_
      obtain ⟨x23, h5, H⟩ := Ak H
      refine ls F W Aa (AC (r := (Rp.int .i64)) EH F Aa Aa (Aj 0 Aa) h5).q fun a w F W => ?_
      refine ls F W Aa (Ao (y := Value.int .i64 x23) (j := 0) (i := x21.2.1) F Aa Aa (Aj 0 Aa) h5 Fl.int.to T3 Aa).q fun a w F W => ?_
      refine ls F W Aa (Ad F Aa).q fun a w F W => ?_
      refine ls F W Aa (Ds F Aa Aa).q fun a w F W => ?_
      refine Ae (Ab ?_)
      refine Ay F Aa (fun hb => ?_) fun hb => ?_
      ·
       have H := AP (Bm hb) H
       rw [hb] at F
       clear hb
       refine A5 (Bk (A6 (Ab ?_)))
       have W := W.frontZ (i := 1) Aa Aa
       have W := W.frontZ (i := 1) Aa Aa
       have W := W.frontM (i := 2) Aa Aa
       have W := W.frontM (i := 2) Aa Aa
       have W := W.sub (M' := [(b2, [v2, v3, .int .i64 (-1)]), (b1, [.slice none 0 0, .slice none 0 0, .int .i64 0])]) (Z' := [row v2 3 (Rp.int .i64) x16, row v3 3 (Rp.int .i64) x17]) (List.Sublist.cons_cons _ (List.Sublist.cons_cons _ (List.nil_sublist _))) (List.Sublist.refl _)
       exact ⟨_, _, _, H, F.re ⟨rfl, Aa, Aa, Aa, Aa, Aa, Aa, Aa, Aa, trivial⟩, W⟩
      have H := AO (Bn hb) H
      rw [hb] at F
      clear hb
      refine Aq (Ab (Ah ?_))
      refine El [(true, 0), (true, 1), (true, 2), (true, 3), (true, 4), (true, 5), (true, 6), (true, 7), (true, 8), (true, 9), (true, 10), (false, 11), (true, 12), (false, 13)] (CN ⟨Y, [], w0⟩ [(some 11, b2, [v2, v3, .int .i64 (-1)]), (some 11, b3, [.int .i64 x21.1, .int .i64 x21.2.1, .int .i64 x21.2.2]), (some 13, b2, [v2, v3, .int .i64 (-1)]), (some 13, b3, [.int .i64 x21.1, .int .i64 x21.2.1, .int .i64 x21.2.2])] []) (fun ch a d v w h => by cases d <;> exact h) MO (by kernel_rfl) W (fun w W => ⟨_, _, W, (all_cons (fun _ => (.tail _ (.head _))) (all_cons (fun _ => (.head _)) (all_cons (fun _ => (.tail _ (.head _))) (all_cons (fun _ => (.head _)) Aw)))), Aw⟩) fun w W => ?_
      refine Bd (R := []) F Aa Aa (yC fun M Z hN hZ => Am Lo Aa Aa Aa J7 F Aa 0 Aa) Aa Aa fun a F => ?_
      refine Bd (R := [11]) F Aa Aa (yC fun M Z hN hZ => Id (cs := [v2, v3, .int .i64 (-1)]) (v := v2) F Aa (hN ((some 11), b2, [v2, v3, .int .i64 (-1)]) (.head _) Aa) J7 Aa) (by kernel_rfl) Aa fun a F => ?_
      refine Bd (R := []) F Aa Aa (yC fun M Z hN hZ => Am K0 Aa Aa Aa T3 F Aa 1 Aa) Aa Aa fun a F => ?_
      refine Bd (R := [11]) F Aa Aa (yC fun M Z hN hZ => Id (cs := [.int .i64 x21.1, .int .i64 x21.2.1, .int .i64 x21.2.2]) (v := Value.int .i64 x21.2.1) F Aa (hN ((some 11), b3, [.int .i64 x21.1, .int .i64 x21.2.1, .int .i64 x21.2.2]) (.tail _ (.head _)) Aa) T3 Aa) (by kernel_rfl) Aa fun a F => ?_
      refine Bd (R := []) F Aa Aa (yC fun M Z hN hZ => Am Lo Aa Aa Aa J7 F Aa 1 Aa) Aa Aa fun a F => ?_
      refine Bd (R := [13]) F Aa Aa (yC fun M Z hN hZ => Id (cs := [v2, v3, .int .i64 (-1)]) (v := v3) F Aa (hN ((some 13), b2, [v2, v3, .int .i64 (-1)]) (.tail _ (.tail _ (.head _))) Aa) J7 Aa) (by kernel_rfl) Aa fun a F => ?_
      refine Bd (R := []) F Aa Aa (yC fun M Z hN hZ => Am K0 Aa Aa Aa T3 F Aa 1 Aa) Aa Aa fun a F => ?_
      refine Bd (R := [13]) F Aa Aa (yC fun M Z hN hZ => Id (cs := [.int .i64 x21.1, .int .i64 x21.2.1, .int .i64 x21.2.2]) (v := Value.int .i64 x21.2.1) F Aa (hN ((some 13), b3, [.int .i64 x21.1, .int .i64 x21.2.1, .int .i64 x21.2.2]) (.tail _ (.tail _ (.tail _ (.head _)))) Aa) T3 Aa) (by kernel_rfl) Aa fun a F => ?_
      iterate 2 refine Bd (R := []) F Aa Aa (yC fun M Z hN hZ => Ad F Aa) Aa Aa fun a F => ?_
      obtain ⟨x24, h6, H⟩ := Ak H
      refine Bd (R := []) F Aa Aa (yC fun M Z hN hZ => Bi (r := (Rp.int .i64)) EH F Aa Aa (CC W (Aj 0 Aa)) h6) Aa Aa fun a F => ?_
      refine Fh Aa ?_
      refine A8 (i := x21.2.1) (j := 0) (vs := [.int .i64 (Az (x22 + x21.2.2))]) (x' := Az (x22 + x21.2.2)) F W Aa Aa Aa (k := 0) Aa Aa h6 T3 Aa Aa Aa Aa (fun A cs _ => Fl.int.sto (by rfl) _ _ _) fun w W => ?_
      refine Cr (N2 := []) (NZ2 := []) (N3 := [(some 11, b2, [v2, v3, .int .i64 (-1)]), (some 11, b3, [.int .i64 x21.1, .int .i64 x21.2.1, .int .i64 x21.2.2]), (some 13, b2, [v2, v3, .int .i64 (-1)]), (some 13, b3, [.int .i64 x21.1, .int .i64 x21.2.1, .int .i64 x21.2.2])]) (NZ3 := []) W Aa Aa (all_cons (fun h => Be (by kernel_rfl) h) (all_cons (fun h => Be (by kernel_rfl) h) (all_cons (fun _ => (.tail _ (.head _))) (all_cons (fun _ => (.head _)) Aw)))) Aw ?_
      obtain ⟨x25, h7, H⟩ := Ak H
      refine Bd (R := []) F Aa Aa (yC fun M Z hN hZ => Bi (r := (Rp.int .i64)) EH F Aa Aa (CC W (Aj 1 Aa)) h7) Aa Aa fun a F => ?_
      refine Fh Aa ?_
      refine A8 (i := x21.2.1) (j := 0) (vs := [.int .i64 x15]) (x' := x15) F W Aa Aa Aa (k := 1) Aa Aa h7 T3 Aa Aa Aa Aa (fun A cs _ => Fl.int.sto (by rfl) _ _ _) fun w W => ?_
      refine Cr (N2 := []) (NZ2 := []) (N3 := [(some 11, b2, [v2, v3, .int .i64 (-1)]), (some 11, b3, [.int .i64 x21.1, .int .i64 x21.2.1, .int .i64 x21.2.2]), (some 13, b2, [v2, v3, .int .i64 (-1)]), (some 13, b3, [.int .i64 x21.1, .int .i64 x21.2.1, .int .i64 x21.2.2])]) (NZ3 := []) W Aa Aa (all_cons (fun h => Be (by kernel_rfl) h) (all_cons (fun h => Be (by kernel_rfl) h) (all_cons (fun h => Be (by kernel_rfl) h) (all_cons (fun h => Be (by kernel_rfl) h) Aw)))) Aw ?_
      refine FC (Ab (Ah (Ac ?_)))
      refine ls F W Aa (Af F Aa).q fun a w F W => ?_
      refine Ae (Ab (Ah (Ac ?_)))
      iterate 2 refine ls F W Aa (Ad F Aa).q fun a w F W => ?_
      refine ls F W Aa (Dl F Aa Aa).q fun a w F W => ?_
      refine Ae (Ab ?_)
      refine Ay F Aa (fun hb => ?_) fun hb => ?_
      ·
       have H := AP (Bm hb) H
       rw [hb] at F
       clear hb
       refine Ah (Ac ?_)
       refine ls F W Aa (Am K0 Aa Aa Aa T3 F Aa 1 Aa).q fun a w F W => ?_
       refine ls F W Aa (AB (v := Value.int .i64 x21.2.1) 0 F Aa Aa T3 Aa).q fun a w F W => ?_
       refine ls F W Aa (Am Lo Aa Aa Aa T3 F Aa 2 Aa).q fun a w F W => ?_
       refine BW (vs := [.int .i64 x21.2.1]) (M' := [(b3, [.int .i64 x21.1, .int .i64 x21.2.1, .int .i64 x21.2.2]), (b2, [v2, v3, .int .i64 x21.2.1]), (b1, [.slice none 0 0, .slice none 0 0, .int .i64 0])]) 1 F W Aa Aa Aa T3 Aa Aa Aa Aa Aa fun w W => ?_
       refine Ae (Ab (A5 ?_))
       refine Ib Aa ?_
       iterate 2 refine Bk ?_
       refine Ib Aa ?_
       refine Bk ?_
       refine Ib Aa ?_
       iterate 2 refine Bk ?_
       refine A6 (Ab ?_)
       have W := W.frontZ (i := 1) Aa Aa
       have W := W.frontM (i := 2) Aa Aa
       have W := W.frontM (i := 2) Aa Aa
       have W := W.sub (M' := [(b2, [v2, v3, .int .i64 x21.2.1]), (b1, [.slice none 0 0, .slice none 0 0, .int .i64 0])]) (Z' := [row v2 3 (Rp.int .i64) (AE x16 x21.2.1 (Az (x22 + x21.2.2))), row v3 3 (Rp.int .i64) (AE x17 x21.2.1 x15)]) (List.Sublist.cons_cons _ (List.Sublist.cons_cons _ (List.nil_sublist _))) (List.Sublist.refl _)
       have H := L6 _ H
       have H := L5 _ H
       have H := L4 _ H
       have H := L3 _ H
       have H := L2 _ H
       exact ⟨_, _, _, H, F.re ⟨rfl, Aa, trivial⟩, W⟩
      have H := AO (Bn hb) H
      rw [hb] at F
      clear hb
      refine Aq (AM (Ab ?_))
      have W := W.frontZ (i := 1) Aa Aa
      have W := W.frontM (i := 2) Aa Aa
      have W := W.frontM (i := 2) Aa Aa
      have W := W.sub (M' := [(b2, [v2, v3, .int .i64 (-1)]), (b1, [.slice none 0 0, .slice none 0 0, .int .i64 0])]) (Z' := [row v2 3 (Rp.int .i64) (AE x16 x21.2.1 (Az (x22 + x21.2.2))), row v3 3 (Rp.int .i64) (AE x17 x21.2.1 x15)]) (List.Sublist.cons_cons _ (List.Sublist.cons_cons _ (List.nil_sublist _))) (List.Sublist.refl _)
      exact ⟨_, _, _, H, F.re ⟨rfl, Aa, Aa, Aa, Aa, Aa, Aa, Aa, Aa, trivial⟩, W⟩
     rintro a w ⟨x18, x19, x20, hj, F, W⟩
     have H := K6 _ hj
     clear hj G6 K6 L6
     refine Ac ?_
     refine ls F W Aa (Bp F Aa Aa Aa).q fun a w F W => ?_
     refine ls F W Aa (Ad F Aa).q fun a w F W => ?_
     refine Ae (Ab ?_)
     have W := W.frontZ (i := 1) Aa Aa
     have W := W.frontZ (i := 1) Aa Aa
     have W := W.frontM (i := 1) Aa Aa
     have W := W.frontM (i := 1) Aa Aa
     exact ⟨_, H, F.re ⟨rfl, Aa, Aa, Aa, Aa, Aa, Aa, Aa, Aa, trivial⟩, W⟩
    have H := AO (Bn hb) H
    rw [hb] at F
    clear hb
    refine A5 ?_
    iterate 2 refine Bk ?_
    refine A6 (Ab ?_)
    have W := W.frontZ (i := 1) Aa Aa
    have W := W.frontZ (i := 1) Aa Aa
    have W := W.frontM (i := 1) Aa Aa
    have W := W.frontM (i := 1) Aa Aa
    have H := L5 _ H
    exact ⟨_, _, _, H, F.re ⟨rfl, Aa, Aa, Aa, Aa, Aa, trivial⟩, W⟩
   rintro a w ⟨x11, x12, x13, hj, F, W⟩
   have H := K4 _ hj
   clear hj G4 K4 L4
   refine Ah (Ac ?_)
   refine ls F W Aa (Ad F Aa).q fun a w F W => ?_
   refine ls F W Aa (ED F Aa).q fun a w F W => ?_
   refine Ae (Ab ?_)
   refine Ay F Aa (fun hb => ?_) fun hb => ?_
   ·
    have H := AP hb H
    rw [hb] at F
    clear hb
    refine A5 ?_
    refine Ib Aa ?_
    iterate 2 refine Bk ?_
    refine A6 (Ab ?_)
    have W := W.frontZ (i := 1) Aa Aa
    have W := W.frontZ (i := 1) Aa Aa
    have W := W.frontM (i := 1) Aa Aa
    have W := W.frontM (i := 1) Aa Aa
    have H := L3 _ H
    have H := L2 _ H
    exact ⟨_, _, _, H, F.re ⟨rfl, Aa, trivial⟩, W⟩
   have H := AO (by rw [hb]; decide) H
   rw [hb] at F
   clear hb
   refine Aq (AM (Ab ?_))
   have W := W.frontZ (i := 1) Aa Aa
   have W := W.frontZ (i := 1) Aa Aa
   have W := W.frontM (i := 1) Aa Aa
   have W := W.frontM (i := 1) Aa Aa
   exact ⟨_, _, H, F.re ⟨rfl, Aa, Aa, Aa, Aa, trivial⟩, W⟩
  rintro a w ⟨x9, x10, hj, F, W⟩
  have H := K3 _ hj
  clear hj G3 K3 L3
  refine Ac ?_
  refine ls F W Aa (Ad F Aa).q fun a w F W => ?_
  refine ls F W Aa (Bp F Aa Aa Aa).q fun a w F W => ?_
  refine ls F W Aa (Af F Aa).q fun a w F W => ?_
  refine Ae (Ab ?_)
  have W := W.frontZ (i := 1) Aa Aa
  have W := W.frontZ (i := 1) Aa Aa
  have W := W.frontM (i := 1) Aa Aa
  have W := W.frontM (i := 1) Aa Aa
  exact ⟨_, H, F.re ⟨rfl, Aa, Aa, Aa, Aa, trivial⟩, W⟩
 rintro a w ⟨x3, x4, x5, hj, F, W⟩
 have hj := AQ hj
 subst hj
 have H := K1
 clear G1 K1
 refine Ah (Ac ?_)
 refine ls F W Aa (AB (v := Value.agg #[v2, v3, .int .i64 x5]) 0 F Aa Aa ME Aa).q fun a w F W => ?_
 refine BW (vs := [v2, v3, .int .i64 x5]) (M' := [(b2, [v2, v3, .int .i64 x5]), (b1, [v2, v3, .int .i64 x5])]) 1 F W Aa Aa Aa ME Aa Aa Aa (AZ (W.one (k := 0) Aa) (AZ (W.one (k := 1) Aa) (AZ Aa E3))) Aa fun w W => ?_
 refine Ae (Ab (AF (Up ?_)))
 have H := AQ H
 subst H
 refine Bj (.inl Aa) F W Aa (Ha 1 F Aa Aa ME Aa) ?_
 have W := W.frontZ (i := 1) Aa Aa
 have W := W.frontZ (i := 1) Aa Aa
 have W := W.sub (M' := []) (Z' := [row v2 3 (Rp.int .i64) x3, row v3 3 (Rp.int .i64) x4]) (List.nil_sublist _) (List.Sublist.refl _)
 exact ⟨((v2), (v3)), Aa, W⟩
theorem Wf : Has Try.prog 44 := ⟨fun args w => Al Try.func44 rfl (by decide) args w⟩
noncomputable def EF (p0 : Int) (p1 : List (Int × Int × Int)) : Option (List Int × Bool) := (Gi p0 p1).bind fun x1 => (if (!x1) = true then some (([] : List Int), false) else (Gb p0 p1).bind fun x2 => (if 0 ≤ x2.2.2 then some (([] : List Int), false) else some (x2.1, true)))
theorem LK (Y : Nat → Prop) (w0 : World) (v1 : Value) (p0 : Int) (p1 : List (Int × Int × Int)) (r : List Int × Bool) (H : EF p0 p1 = some r) (h_v1 : Sl w0 (NX []) Nh v1 p1) :
    Calls Try.prog 31 #[.int .i64 p0, v1] w0 fun e w' => ∃ x : Value, e = .returned (.tuple #[x, .bool r.2]) ∧ Stw ⟨Y, [], w0⟩ [] [row (x) 3 (Rp.int .i64) r.1] w' := by
 refine enter Try.func31 Aa Try.ntmps31 Aa fun a F => ?_
 have W := Stw.start Y w0
 unfold EF at H
 refine Ah (Ac ?_)
 iterate 2 refine ls F W Aa (Af F Aa).q fun a w F W => ?_
 refine Ae (Ab (Ah (Ah (Ac ?_))))
 iterate 2 refine ls F W Aa (Ad F Aa).q fun a w F W => ?_
 obtain ⟨x1, h1, H⟩ := Ak H
 refine ls F W Aa (BR (v := Value.bool x1) F Wd Aa (fun w W => NL any w (v1) p0 p1 _ h1 (((Ap h_v1) : EM _ _ _ _ _ _) w W).nx)) fun a w F W => ?_
 refine ls F W Aa (ED F Aa).q fun a w F W => ?_
 refine Ae (Ab ?_)
 refine Ay F Aa (fun hb => ?_) fun hb => ?_
 ·
  have H := AP hb H
  rw [hb] at F
  clear hb
  refine Ah (Ac ?_)
  iterate 2 refine ls F W Aa (Af F Aa).q fun a w F W => ?_
  refine Ae (Ab (AF (AN ?_)))
  have H := AQ H
  subst H
  refine EU (.inl Aa) F W Aa (AD F Aa) (AD F Aa) ?_
  have W := W.nilRow 3 (Rp.int .i64)
  exact ⟨(Value.slice none 0 0), Aa, W⟩
 have H := AO (by rw [hb]; decide) H
 rw [hb] at F
 clear hb
 refine Aq (Ab (Ah (Ac ?_)))
 iterate 2 refine ls F W Aa (Ad F Aa).q fun a w F W => ?_
 obtain ⟨x2, h2, H⟩ := Ak H
 refine Bo (Ml := []) (Zl := []) (M := []) (Z := []) (β := Value × Value) (rv := fun x => .agg #[x.1, x.2, .int .i64 x2.2.2]) (MM := fun x => []) (ZZ := fun x => [row x.1 3 (Rp.int .i64) x2.1, row x.2 3 (Rp.int .i64) x2.2.1]) F W Wf Aa Aa (fun hL => NB _ w (v1) p0 p1 _ h2 ((Ap h_v1) w W).nx) fun x a w F W => ?_
 obtain ⟨v2, v3⟩ := x
 have W : Stw ⟨Y, [], w0⟩ [] [row v2 3 (Rp.int .i64) x2.1, row v3 3 (Rp.int .i64) x2.2.1] w := W
 refine CB (cs := [.slice none 0 0, .slice none 0 0, .int .i64 0]) F W Aa OQ Aa fun b1 a w F W => ?_
 refine BW (vs := [v2, v3, .int .i64 x2.2.2]) (M' := [(b1, [v2, v3, .int .i64 x2.2.2])]) 0 F W Aa Aa Aa ME Aa Aa Aa (AZ (W.one (k := 0) Aa) (AZ (W.one (k := 1) Aa) (AZ Aa E3))) Aa fun w W => ?_
 refine Ae (Ab (Ah (Ah (Ac ?_))))
 refine ls F W Aa (Am Lo Aa Aa Aa T3 F Aa 2 Aa).q fun a w F W => ?_
 refine ls F W Aa (AB (v := Value.int .i64 x2.2.2) 0 F Aa Aa T3 Aa).q fun a w F W => ?_
 refine ls F W Aa (Ds F Aa Aa).q fun a w F W => ?_
 refine Ae (Ab ?_)
 refine Ay F Aa (fun hb => ?_) fun hb => ?_
 ·
  have H := AP (Bm hb) H
  rw [hb] at F
  clear hb
  refine Ah (Ac ?_)
  iterate 2 refine ls F W Aa (Af F Aa).q fun a w F W => ?_
  refine Ae (Ab (AF (AN ?_)))
  have H := AQ H
  subst H
  refine EU (.inl Aa) F W Aa (AD F Aa) (AD F Aa) ?_
  have W := W.nilRow 3 (Rp.int .i64)
  have W := W.sub (M' := []) (Z' := [row (Value.slice none 0 0) 3 (Rp.int .i64) ([])]) (List.nil_sublist _) (List.Sublist.cons_cons _ (List.nil_sublist _))
  exact ⟨(Value.slice none 0 0), Aa, W⟩
 have H := AO (Bn hb) H
 rw [hb] at F
 clear hb
 refine Aq (Ab (Ah (Ac ?_)))
 refine ls F W Aa (Am Lo Aa Aa Aa J7 F Aa 0 Aa).q fun a w F W => ?_
 refine ls F W Aa (AB (v := v2) 0 F Aa Aa J7 Aa).q fun a w F W => ?_
 iterate 2 refine ls F W Aa (Af F Aa).q fun a w F W => ?_
 refine Ae (Ab (AF ?_))
 have H := AQ H
 subst H
 refine EU (.inl Aa) F W Aa (AD F Aa) (AD F Aa) ?_
 have W := W.sub (M' := []) (Z' := [row v2 3 (Rp.int .i64) x2.1]) (List.nil_sublist _) (List.Sublist.cons_cons _ (List.nil_sublist _))
 exact ⟨(v2), Aa, W⟩
theorem VU : Has Try.prog 31 := ⟨fun args w => Al Try.func31 rfl (by decide) args w⟩
noncomputable def CZ (p0 : List (Int × Int × Int × Int)) (p1 : Int) : (List Int × Int) → Option ((List Int × Int) ⊕ (List Int))
  | (x2, x3) => (if x3 < (p0.length : Int) then ((ix p0 x3).bind fun x5 => (if x5.2.2.2 = p1 then (KF x2 ([x5.1] : List Int)).bind fun x6 => some x6 else some x2)).bind fun x4 => some (.inl (x4, Az (x3 + 1))) else some (.inr x2))
noncomputable def EJ (p0 : List (Int × Int × Int × Int)) (p1 : Int) : Option (List Int) := (AH (CZ p0 p1) ([], 0)).bind fun x1 => (CM x1).bind fun x7 => (Cy x7).bind fun x8 => some x8
theorem LJ (Y : Nat → Prop) (w0 : World) (v1 : Value) (p0 : List (Int × Int × Int × Int)) (p1 : Int) (r : List Int) (H : EJ p0 p1 = some r) (h_v1 : Sl w0 (NX []) A4 v1 p0) :
    Calls Try.prog 32 #[v1, .int .i64 p1] w0 fun e w' => ∃ x : Value, e = .returned (x) ∧ Stw ⟨Y, [], w0⟩ [] [row (x) 3 (Rp.int .i64) r] w' := by
 refine enter Try.func32 Aa Try.ntmps32 Aa fun a F => ?_
 have W := Stw.start Y w0
 unfold EJ at H
 refine Ah (Ac ?_)
 refine ls F W Aa (Af F Aa).q fun a w F W => ?_
 refine Ae (Ab (Ah (Ac ?_)))
 refine ls F W Aa (Af F Aa).q fun a w F W => ?_
 refine Ae (Ab ?_)
 obtain ⟨o1, G1, K1⟩ := Ak H
 refine AK (fun a w => ∃ x1 : List Int, ∃ v2 : Value, some (x1) = some o1 ∧ Fr 28 [] [(4, .slice none 0 0), (5, v2)] a ∧ Stw ⟨Y, [], w0⟩ [] [row v2 3 (Rp.int .i64) x1] w) ?_ ?_
 ·
  have H := G1
  clear G1 K1
  refine Ah (Ac ?_)
  refine ls F W Aa (Ad F Aa).q fun a w F W => ?_
  refine ls F W Aa (B1 (r := A4) (l := p0) OD Aa F Aa (Ap h_v1)).q fun a w F W => ?_
  refine ls F W Aa (Ad F Aa).q fun a w F W => ?_
  refine Ae (Ab (As ?_))
  have W := W.nilRow 3 (Rp.int .i64)
  refine Bh H (fun s a w => ∃ v3 : Value, Fr 28 [] [(1, .int .i64 p1), (4, .slice none 0 0), (5, v3), (8, v1), (9, .int .i64 (p0.length : Int)), (10, .int .i64 s.2)] a ∧ Stw ⟨Y, [], w0⟩ [] [row v3 3 (Rp.int .i64) s.1] w) ⟨(Value.slice none 0 0), F.re ⟨rfl, Aa, Aa, Aa, Aa, Aa, trivial⟩, W⟩ fun s o a w H L2 hR => ?_
  obtain ⟨x2, x3⟩ := s
  obtain ⟨v3, F, W⟩ := hR
  have F : Fr 28 [] [(1, .int .i64 p1), (4, .slice none 0 0), (5, v3), (8, v1), (9, .int .i64 (p0.length : Int)), (10, .int .i64 x3)] a := F
  have W : Stw ⟨Y, [], w0⟩ [] [row v3 3 (Rp.int .i64) x2] w := W
  rw [CZ] at H
  refine Ah (Ac ?_)
  refine ls F W Aa (BI F Aa Aa).q fun a w F W => ?_
  refine Ae (Ab (Ah ?_))
  refine Ay F Aa (fun hb => ?_) fun hb => ?_
  ·
   have H := AP (Bm hb) H
   rw [hb] at F
   clear hb
   refine Aq (Ab ?_)
   obtain ⟨o3, G3, K3⟩ := Ak H
   refine AK (fun a w => ∃ x4 : List Int, ∃ v4 : Value, some (x4) = some o3 ∧ Fr 28 [] [(1, .int .i64 p1), (4, .slice none 0 0), (5, v4), (8, v1), (9, .int .i64 (p0.length : Int)), (10, .int .i64 x3)] a ∧ Stw ⟨Y, [], w0⟩ [] [row v4 3 (Rp.int .i64) x4] w) ?_ ?_
   ·
    have H := G3
    clear G3 K3
    refine As (Ah (Ac ?_))
    obtain ⟨x5, h1, H⟩ := Ak H
    refine ls F W Aa (AC (r := A4) En F Aa Aa (Ap h_v1) h1).q fun a w F W => ?_
    refine ls F W Aa (Ao (y := Value.agg #[.int .i64 x5.1, .int .i64 x5.2.1, .int .i64 x5.2.2.1, .int .i64 x5.2.2.2]) (j := 0) (i := x3) F Aa Aa (Ap h_v1) h1 Ep.to Ee Aa).q fun a w F W => ?_
    refine CB (cs := [.int .i64 0, .int .i64 0, .int .i64 0, .int .i64 0]) F W Aa S7 Aa fun b1 a w F W => ?_
    refine BW (vs := [.int .i64 x5.1, .int .i64 x5.2.1, .int .i64 x5.2.2.1, .int .i64 x5.2.2.2]) (M' := [(b1, [.int .i64 x5.1, .int .i64 x5.2.1, .int .i64 x5.2.2.1, .int .i64 x5.2.2.2])]) 0 F W Aa Aa Aa Ee Aa Aa Aa Aa Aa fun w W => ?_
    refine Ae (Ab (Ah (Ac ?_)))
    refine ls F W Aa (Am HD Aa Aa Aa T3 F Aa 3 Aa).q fun a w F W => ?_
    refine ls F W Aa (AB (v := Value.int .i64 x5.2.2.2) 0 F Aa Aa T3 Aa).q fun a w F W => ?_
    refine ls F W Aa (Ad F Aa).q fun a w F W => ?_
    refine ls F W Aa (Dl F Aa Aa).q fun a w F W => ?_
    refine Ae (Ab ?_)
    refine Ay F Aa (fun hb => ?_) fun hb => ?_
    ·
     have H := AP (Bm hb) H
     rw [hb] at F
     clear hb
     refine Ac ?_
     refine ls F W Aa (Ad F Aa).q fun a w F W => ?_
     refine ls F W Aa (Am HD Aa Aa Aa T3 F Aa 0 Aa).q fun a w F W => ?_
     refine ls F W Aa (AB (v := Value.int .i64 x5.1) 0 F Aa Aa T3 Aa).q fun a w F W => ?_
     refine E9 (z := Value.int .i64 0) (cs := [.int .i64 x5.1]) (Rp.int .i64) ([x5.1] : List Int) F W Aa EH Z3 Aa Aa Aa Aa Aa Aa (Fl.int.repL _ _ ([x5.1] : List Int)) fun v5 a w F W => ?_
     obtain ⟨x6, h2, H⟩ := Ak H
     refine Fb (r := (Rp.int .i64)) (i := 1) F W Aa EH Aa Aa Aa Aa (GD W 0 Aa) h2 Aa fun v6 a w F W => ?_
     have W : Stw ⟨Y, [], w0⟩ [(b1, [.int .i64 x5.1, .int .i64 x5.2.1, .int .i64 x5.2.2.1, .int .i64 x5.2.2.2])] [row v6 3 (Rp.int .i64) x6, row v5 3 (Rp.int .i64) ([x5.1] : List Int)] w := W
     refine ls F W Aa (Af F Aa).q fun a w F W => ?_
     refine Ae (AM (Ab ?_))
     have W := W.sub (M' := []) (Z' := [row v6 3 (Rp.int .i64) x6]) (List.nil_sublist _) (List.Sublist.cons_cons _ (List.nil_sublist _))
     exact ⟨_, (v6), H, F.re ⟨rfl, Aa, Aa, Aa, Aa, Aa, trivial⟩, W⟩
    have H := AO (Bn hb) H
    rw [hb] at F
    clear hb
    refine Aq (AM (Ab ?_))
    have W := W.sub (M' := []) (Z' := [row v3 3 (Rp.int .i64) x2]) (List.nil_sublist _) (List.Sublist.refl _)
    exact ⟨_, (v3), H, F.re ⟨rfl, Aa, Aa, Aa, Aa, Aa, trivial⟩, W⟩
   rintro a w ⟨x4, v4, hj, F, W⟩
   have hj := AQ hj
   subst hj
   have H := K3
   clear G3 K3
   refine Ac ?_
   refine ls F W Aa (Bp F Aa Aa Aa).q fun a w F W => ?_
   refine ls F W Aa (Ad F Aa).q fun a w F W => ?_
   refine Ae (Ab ?_)
   exact ⟨_, H, (v4), F.re ⟨rfl, Aa, Aa, Aa, Aa, Aa, trivial⟩, W⟩
  have H := AO (Bn hb) H
  rw [hb] at F
  clear hb
  refine A5 ?_
  iterate 2 refine Bk ?_
  refine A6 (Ab ?_)
  have H := L2 _ H
  exact ⟨_, (v3), H, F.re ⟨rfl, Aa, trivial⟩, W⟩
 rintro a w ⟨x1, v2, hj, F, W⟩
 have hj := AQ hj
 subst hj
 have H := K1
 clear G1 K1
 refine Ah (Ac ?_)
 refine ls F W Aa (Ad F Aa).q fun a w F W => ?_
 obtain ⟨x7, h3, H⟩ := Ak H
 refine Bo (Ml := []) (Zl := [row v2 3 (Rp.int .i64) x1]) (M := []) (Z := []) (β := Unit) (rv := fun x => .tuple #[]) (MM := fun x => []) (ZZ := fun x => [row v2 3 (Rp.int .i64) x7]) F W UA Aa Aa (fun hL => GM _ _ w (v2) x1 _ h3 hL) fun x a w F W => ?_
 have W : Stw ⟨Y, [], w0⟩ [] [row v2 3 (Rp.int .i64) x7] w := W
 refine Ae (Ab (Ah (Ac ?_)))
 refine ls F W Aa (Ad F Aa).q fun a w F W => ?_
 obtain ⟨x8, h4, H⟩ := Ak H
 refine Bo (Ml := []) (Zl := [row v2 3 (Rp.int .i64) x7]) (M := []) (Z := []) (β := Value) (rv := fun x => x) (MM := fun x => []) (ZZ := fun x => [row x 3 (Rp.int .i64) x8]) F W UD Aa Aa (fun hL => F5 _ _ w (v2) x7 _ h4 hL) fun x a w F W => ?_
 obtain ⟨v7, rfl⟩ : ∃ y, y = x := ⟨x, rfl⟩
 have W : Stw ⟨Y, [], w0⟩ [] [row v7 3 (Rp.int .i64) x8] w := W
 refine ls F W Aa (Af F Aa).q fun a w F W => ?_
 refine Ae (Ab (AF ?_))
 have H := AQ H
 subst H
 refine Bj (.inl Aa) F W Aa (AD F Aa) ?_
 exact ⟨(v7), Aa, W⟩
theorem P5 : type_of% Try.underlying31 := Try.underlying31
theorem Ou : type_of% Try.underlying41 := Try.underlying41
theorem Vx : Has Try.prog 32 := ⟨fun args w => Al Try.func32 rfl (by decide) args w⟩
theorem UT : Bt Try.prog 41 [.int .i64 0, .int .i64 0, .slice none 0 0] [(0, 1), (1, 1), (2, 1)] := ⟨⟨.agg #[.int .i64 0, .int .i64 0, .slice none 0 0], by kernel_rfl, rfl⟩, ⟨_, Ou, fun w => by kernel_rfl⟩⟩
theorem UK : (Try.prog.info? 41).bind (·.zero) = some (.agg #[.int .i64 0, .int .i64 0, .slice none 0 0]) := by kernel_rfl
abbrev EX : Rp (Int × Int × List Int) := (Rp.pair (Rp.int .i64) (Rp.pair (Rp.int .i64) (Rp.slice (Rp.int .i64))))
theorem Sa : Et Try.prog 31 41 3 40 := Et.of P5 (by kernel_rfl) (by kernel_rfl) (by kernel_rfl) (by decide)
noncomputable def DR (p2 : Int) (x1 : List Int) : ((List (Int × Int × Int)) × Int) → Option (((List (Int × Int × Int)) × Int) ⊕ (List (Int × Int × Int)))
  | (x3, x4) => (if x4 < (Az ((x1.length : Int) - 1)) then (KF x3 ([(x4, Az (x4 + 1), p2)] : List (Int × Int × Int))).bind fun x5 => some (.inl (x5, Az (x4 + 1))) else some (.inr x3))
noncomputable def DP (p0 : List (Int × Int × Int × Int)) (p1 : Int) (x1 : List Int) (x6 : List Int × Bool) : ((List (Int × Int × List Int)) × Int) → Option (((List (Int × Int × List Int)) × Int) ⊕ (List (Int × Int × List Int)))
  | (x8, x9) => (if x9 < (x6.1.length : Int) then (ix x6.1 x9).bind fun x10 => (ix x1 x9).bind fun x11 => (ix x1 x9).bind fun x12 => (EJ p0 x12).bind fun x13 => (KF x8 ([(x11, Az (p1 + x10), x13)] : List (Int × Int × List Int))).bind fun x14 => some (.inl (x14, Az (x9 + 1))) else some (.inr x8))
noncomputable def FB (p0 : List (Int × Int × Int × Int)) (p1 : Int) (p2 : Int) : Option (List (Int × Int × List Int)) := (EZ p0).bind fun x1 => (AH (DR p2 x1) ([], 0)).bind fun x2 => (EF (x1.length : Int) x2).bind fun x6 => (AH (DP p0 p1 x1 x6) ([], 0)).bind fun x7 => some x7
theorem MX (Y : Nat → Prop) (w0 : World) (v1 : Value) (p0 : List (Int × Int × Int × Int)) (p1 : Int) (p2 : Int) (r : (List (Int × Int × List Int))) (H : FB p0 p1 p2 = some r) (h_v1 : Sl w0 (NX []) A4 v1 p0) :
    Calls Try.prog 16 #[v1, .int .i64 p1, .int .i64 p2] w0 fun e w' => ∃ x : Value, e = .returned (x) ∧ Stw ⟨Y, [], w0⟩ [] [row (x) 41 EX r] w' := by
 refine enter Try.func16 Aa Try.ntmps16 Aa fun a F => ?_
 have W := Stw.start Y w0
 unfold FB at H
 refine Ah (Ac ?_)
 refine ls F W Aa (Af F Aa).q fun a w F W => ?_
 refine Ae (Ab (Ah (Ac ?_)))
 refine ls F W Aa (Ad F Aa).q fun a w F W => ?_
 obtain ⟨x1, h1, H⟩ := Ak H
 refine Bo (Ml := []) (Zl := []) (M := []) (Z := []) (β := Value) (rv := fun x => x) (MM := fun x => []) (ZZ := fun x => [row x 3 (Rp.int .i64) x1]) F W U3 Aa Aa (fun hL => Mc _ w (v1) p0 _ h1 ((Ap h_v1) w W).nx) fun x a w F W => ?_
 obtain ⟨v2, rfl⟩ : ∃ y, y = x := ⟨x, rfl⟩
 have W : Stw ⟨Y, [], w0⟩ [] [row v2 3 (Rp.int .i64) x1] w := W
 refine ls F W Aa (Af F Aa).q fun a w F W => ?_
 refine Ae (Ab (Ah (Ac ?_)))
 refine ls F W Aa (Af F Aa).q fun a w F W => ?_
 refine Ae (Ab ?_)
 obtain ⟨o1, G1, K1⟩ := Ak H
 refine AK (fun a w => ∃ x2 : List (Int × Int × Int), ∃ v3 : Value, some (x2) = some o1 ∧ Fr 65 [] [(0, v1), (1, .int .i64 p1), (6, .slice none 0 0), (7, v2), (8, v3)] a ∧ Stw ⟨Y, [], w0⟩ [] [row v2 3 (Rp.int .i64) x1, row v3 84 Nh x2] w) ?_ ?_
 ·
  have H := G1
  clear G1 K1
  refine Ah (Ac ?_)
  refine ls F W Aa (Ad F Aa).q fun a w F W => ?_
  refine ls F W Aa (B1 (r := (Rp.int .i64)) (l := x1) Hu Aa F Aa (Aj 0 Aa)).q fun a w F W => ?_
  refine ls F W Aa (B9 F Aa Aa Aa).q fun a w F W => ?_
  refine ls F W Aa (Ad F Aa).q fun a w F W => ?_
  refine Ae (Ab (As ?_))
  have W := W.nilRow 84 Nh
  have W := W.frontZ (i := 1) Aa Aa
  refine Bh H (fun s a w => ∃ v4 : Value, Fr 65 [] [(0, v1), (1, .int .i64 p1), (2, .int .i64 p2), (6, .slice none 0 0), (7, v2), (8, v4), (19, .int .i64 (Az ((x1.length : Int) - 1))), (20, .int .i64 s.2)] a ∧ Stw ⟨Y, [], w0⟩ [] [row v2 3 (Rp.int .i64) x1, row v4 84 Nh s.1] w) ⟨(Value.slice none 0 0), F.re ⟨rfl, Aa, Aa, Aa, Aa, Aa, Aa, Aa, trivial⟩, W⟩ fun s o a w H L2 hR => ?_
  obtain ⟨x3, x4⟩ := s
  obtain ⟨v4, F, W⟩ := hR
  have F : Fr 65 [] [(0, v1), (1, .int .i64 p1), (2, .int .i64 p2), (6, .slice none 0 0), (7, v2), (8, v4), (19, .int .i64 (Az ((x1.length : Int) - 1))), (20, .int .i64 x4)] a := F
  have W : Stw ⟨Y, [], w0⟩ [] [row v2 3 (Rp.int .i64) x1, row v4 84 Nh x3] w := W
  rw [DR] at H
  refine Ah (Ac ?_)
  refine ls F W Aa (BI F Aa Aa).q fun a w F W => ?_
  refine Ae (Ab (Ah ?_))
  refine Ay F Aa (fun hb => ?_) fun hb => ?_
  ·
   have H := AP (Bm hb) H
   rw [hb] at F
   clear hb
   refine Aq (Ab (Ah (As (Ah (Ac ?_)))))
   refine ls F W Aa (Ad F Aa).q fun a w F W => ?_
   refine ls F W Aa (Af F Aa).q fun a w F W => ?_
   refine Ae (Ab (Ac ?_))
   iterate 3 refine ls F W Aa (Ad F Aa).q fun a w F W => ?_
   refine ls F W Aa (Bp F Aa Aa Aa).q fun a w F W => ?_
   refine ls F W Aa (Ad F Aa).q fun a w F W => ?_
   refine ls F W Aa (CE (v := Value.agg #[.int .i64 x4, .int .i64 (Az (x4 + 1)), .int .i64 p2]) UU F Aa Aa Aa).q fun a w F W => ?_
   refine E9 (z := Value.agg #[.int .i64 0, .int .i64 0, .int .i64 0]) (cs := [.int .i64 x4, .int .i64 (Az (x4 + 1)), .int .i64 p2]) Nh ([(x4, Az (x4 + 1), p2)] : List (Int × Int × Int)) F W Aa TO TQ Aa Aa Aa Aa Aa Aa (Un.repL _ _ ([(x4, Az (x4 + 1), p2)] : List (Int × Int × Int))) fun v5 a w F W => ?_
   obtain ⟨x5, h2, H⟩ := Ak H
   refine Fb (r := Nh) (i := 2) F W Aa TO Aa Aa Aa Aa (GD W 0 Aa) h2 Aa fun v6 a w F W => ?_
   have W : Stw ⟨Y, [], w0⟩ [] [row v6 84 Nh x5, row v5 84 Nh ([(x4, Az (x4 + 1), p2)] : List (Int × Int × Int)), row v2 3 (Rp.int .i64) x1] w := W
   refine ls F W Aa (Af F Aa).q fun a w F W => ?_
   refine Ae (AM (Ab (Ac ?_)))
   refine ls F W Aa (Bp F Aa Aa Aa).q fun a w F W => ?_
   refine ls F W Aa (Ad F Aa).q fun a w F W => ?_
   refine Ae (Ab ?_)
   have W := W.frontZ (i := 2) Aa Aa
   have W := W.sub (M' := []) (Z' := [row v2 3 (Rp.int .i64) x1, row v6 84 Nh x5]) (List.Sublist.refl _) (List.Sublist.cons_cons _ (List.Sublist.cons_cons _ (List.nil_sublist _)))
   exact ⟨_, H, (v6), F.re ⟨rfl, Aa, Aa, Aa, Aa, Aa, Aa, Aa, trivial⟩, W⟩
  have H := AO (Bn hb) H
  rw [hb] at F
  clear hb
  refine A5 ?_
  iterate 2 refine Bk ?_
  refine A6 (Ab ?_)
  have W := W.frontZ (i := 1) Aa Aa
  have W := W.frontZ (i := 1) Aa Aa
  have H := L2 _ H
  exact ⟨_, (v4), H, F.re ⟨rfl, Aa, Aa, Aa, Aa, trivial⟩, W⟩
 rintro a w ⟨x2, v3, hj, F, W⟩
 have hj := AQ hj
 subst hj
 have H := K1
 clear G1 K1
 refine Ah (Ac ?_)
 refine ls F W Aa (Ad F Aa).q fun a w F W => ?_
 refine ls F W Aa (B1 (r := (Rp.int .i64)) (l := x1) Hu Aa F Aa (Aj 0 Aa)).q fun a w F W => ?_
 refine ls F W Aa (Ad F Aa).q fun a w F W => ?_
 obtain ⟨x6, h3, H⟩ := Ak H
 refine Bo (Ml := []) (Zl := []) (M := []) (Z := [row v2 3 (Rp.int .i64) x1, row v3 84 Nh x2]) (β := Value) (rv := fun x => .tuple #[x, .bool x6.2]) (MM := fun x => []) (ZZ := fun x => [row x 3 (Rp.int .i64) x6.1]) F W VU Aa Aa (fun hL => LK _ w (v3) (x1.length : Int) x2 _ h3 ((Aj 1 Aa) w W).nx) fun x a w F W => ?_
 obtain ⟨v7, rfl⟩ : ∃ y, y = x := ⟨x, rfl⟩
 have W : Stw ⟨Y, [], w0⟩ [] [row v7 3 (Rp.int .i64) x6.1, row v2 3 (Rp.int .i64) x1, row v3 84 Nh x2] w := W
 refine ls F W Aa (Ad F Aa).q fun a w F W => ?_
 refine ls F W Aa (BK (v := v7) F Aa Aa).q fun a w F W => ?_
 refine ls F W Aa (BK (v := Value.bool x6.2) F Aa Aa).q fun a w F W => ?_
 iterate 2 refine ls F W Aa (Af F Aa).q fun a w F W => ?_
 refine Ae (Ab (Ah (Ac ?_)))
 refine ls F W Aa (Af F Aa).q fun a w F W => ?_
 refine Ae (Ab ?_)
 obtain ⟨o3, G3, K3⟩ := Ak H
 refine AK (fun a w => ∃ x7 : List (Int × Int × List Int), ∃ v8 : Value, some (x7) = some o3 ∧ Fr 65 [] [(6, .slice none 0 0), (12, v8)] a ∧ Stw ⟨Y, [], w0⟩ [] [row v8 41 EX x7] w) ?_ ?_
 ·
  have H := G3
  clear G3 K3
  refine Ah (Ac ?_)
  refine ls F W Aa (Ad F Aa).q fun a w F W => ?_
  refine ls F W Aa (B1 (r := (Rp.int .i64)) (l := x6.1) Hu Aa F Aa (Aj 0 Aa)).q fun a w F W => ?_
  refine ls F W Aa (Ad F Aa).q fun a w F W => ?_
  refine Ae (Ab (As ?_))
  have W := W.nilRow 41 EX
  have W := W.frontZ (i := 1) Aa Aa
  have W := W.frontZ (i := 1) Aa Aa
  have W := W.frontZ (i := 2) Aa Aa
  have W := W.sub (M' := []) (Z' := [row v2 3 (Rp.int .i64) x1, row (Value.slice none 0 0) 41 EX ([]), row v7 3 (Rp.int .i64) x6.1]) (List.Sublist.refl _) (List.Sublist.cons_cons _ (List.Sublist.cons_cons _ (List.Sublist.cons_cons _ (List.nil_sublist _))))
  refine Bh H (fun s a w => ∃ v9 : Value, Fr 65 [] [(0, v1), (1, .int .i64 p1), (6, .slice none 0 0), (7, v2), (12, v9), (39, v7), (40, .int .i64 (x6.1.length : Int)), (41, .int .i64 s.2)] a ∧ Stw ⟨Y, [], w0⟩ [] [row v2 3 (Rp.int .i64) x1, row v9 41 EX s.1, row v7 3 (Rp.int .i64) x6.1] w) ⟨(Value.slice none 0 0), F.re ⟨rfl, Aa, Aa, Aa, Aa, Aa, Aa, Aa, trivial⟩, W⟩ fun s o a w H L4 hR => ?_
  obtain ⟨x8, x9⟩ := s
  obtain ⟨v9, F, W⟩ := hR
  have F : Fr 65 [] [(0, v1), (1, .int .i64 p1), (6, .slice none 0 0), (7, v2), (12, v9), (39, v7), (40, .int .i64 (x6.1.length : Int)), (41, .int .i64 x9)] a := F
  have W : Stw ⟨Y, [], w0⟩ [] [row v2 3 (Rp.int .i64) x1, row v9 41 EX x8, row v7 3 (Rp.int .i64) x6.1] w := W
  rw [DP] at H
  refine Ah (Ac ?_)
  refine ls F W Aa (BI F Aa Aa).q fun a w F W => ?_
  refine Ae (Ab (Ah ?_))
  refine Ay F Aa (fun hb => ?_) fun hb => ?_
  ·
   have H := AP (Bm hb) H
   rw [hb] at F
   clear hb
   refine Aq (Ab (Ah (As (Ah (Ac ?_)))))
   refine ls F W Aa (Ad F Aa).q fun a w F W => ?_
   obtain ⟨x10, h4, H⟩ := Ak H
   refine ls F W Aa (AC (r := (Rp.int .i64)) EH F Aa Aa (Aj 2 Aa) h4).q fun a w F W => ?_
   refine ls F W Aa (Ao (y := Value.int .i64 x10) (j := 0) (i := x9) F Aa Aa (Aj 2 Aa) h4 Fl.int.to T3 Aa).q fun a w F W => ?_
   iterate 2 refine ls F W Aa (Af F Aa).q fun a w F W => ?_
   refine Ae (Ab ?_)
   refine El [(true, 0), (true, 1), (true, 2), (true, 3), (true, 4), (true, 5), (true, 6), (true, 7), (true, 8), (true, 9), (true, 10), (true, 11), (true, 12), (false, 13), (true, 14), (false, 15), (false, 16), (false, 17)] (CN ⟨Y, [], w0⟩ [] [(some 15, row v2 3 (Rp.int .i64) x1), (some 13, row v2 3 (Rp.int .i64) x1)]) (fun ch a d v w h => by cases d <;> exact h) MO (by kernel_rfl) W (fun w W => ⟨_, _, W, Aw, (all_cons (fun _ => (.head _)) (all_cons (fun _ => (.head _)) Aw))⟩) fun w W => ?_
   iterate 3 refine Bd (R := []) F Aa Aa (yC fun M Z hN hZ => Ad F Aa) Aa Aa fun a F => ?_
   obtain ⟨x11, h5, H⟩ := Ak H
   refine Bd (R := []) F Aa Aa (yC fun M Z hN hZ => Bi (r := (Rp.int .i64)) EH F Aa Aa (CC W (Aj 0 Aa)) h5) Aa Aa fun a F => ?_
   refine Bd (R := [15, 14]) F Aa Aa (yC fun M Z hN hZ => Ao (y := Value.int .i64 x11) (j := 0) (i := x9) F Aa Aa (Ck (hZ ((some 15), row v2 3 (Rp.int .i64) x1) (.head _) Aa)) h5 Fl.int.to T3 Aa) (by kernel_rfl) Aa fun a F => ?_
   iterate 2 refine Bd (R := []) F Aa Aa (yC fun M Z hN hZ => Ad F Aa) Aa Aa fun a F => ?_
   refine Bd (R := []) F Aa Aa (yC fun M Z hN hZ => Bp F Aa Aa Aa) Aa Aa fun a F => ?_
   iterate 3 refine Bd (R := []) F Aa Aa (yC fun M Z hN hZ => Ad F Aa) Aa Aa fun a F => ?_
   obtain ⟨x12, h6, H⟩ := Ak H
   refine Bd (R := []) F Aa Aa (yC fun M Z hN hZ => Bi (r := (Rp.int .i64)) EH F Aa Aa (CC W (Aj 0 Aa)) h6) Aa Aa fun a F => ?_
   refine Bd (R := [13]) F Aa Aa (yC fun M Z hN hZ => Ao (y := Value.int .i64 x12) (j := 0) (i := x9) F Aa Aa (Ck (hZ ((some 13), row v2 3 (Rp.int .i64) x1) (.tail _ (.head _)) Aa)) h6 Fl.int.to T3 Aa) (by kernel_rfl) Aa fun a F => ?_
   refine Fh Aa ?_
   obtain ⟨x13, h7, H⟩ := Ak H
   refine Bo (Ml := []) (Zl := []) (M := []) (Z := [row v2 3 (Rp.int .i64) x1, row v9 41 EX x8, row v7 3 (Rp.int .i64) x6.1]) (β := Value) (rv := fun x => x) (MM := fun x => []) (ZZ := fun x => [row x 3 (Rp.int .i64) x13]) F W Vx Aa Aa (fun hL => LJ _ w (v1) p0 x12 _ h7 ((Ap h_v1) w W).nx) fun x a w F W => ?_
   obtain ⟨v10, rfl⟩ : ∃ y, y = x := ⟨x, rfl⟩
   have W : Stw ⟨Y, [], w0⟩ [] [row v10 3 (Rp.int .i64) x13, row v2 3 (Rp.int .i64) x1, row v9 41 EX x8, row v7 3 (Rp.int .i64) x6.1] w := W
   refine Cr (N2 := []) (NZ2 := []) (N3 := []) (NZ3 := [(some 15, row v2 3 (Rp.int .i64) x1), (some 13, row v2 3 (Rp.int .i64) x1)]) W Aa Aa Aw (all_cons (fun _ => (.tail _ (.head _))) (all_cons (fun h => Be (by kernel_rfl) h) Aw)) ?_
   refine Bd (R := []) F Aa Aa (yC fun M Z hN hZ => CE (v := Value.agg #[.int .i64 x11, .int .i64 (Az (p1 + x10)), v10]) UT F Aa (Bq Aa Aa Aa (Bq Aa Aa Aa (Bq Aa (Ct (W.one (k := 0) Aa)) Aa DO))) Aa) Aa Aa fun a F => ?_
   refine Fh Aa ?_
   have W := W.freeze
   refine E9 (z := Value.agg #[.int .i64 0, .int .i64 0, .slice none 0 0]) (cs := [.int .i64 x11, .int .i64 (Az (p1 + x10)), v10]) EX ([(x11, Az (p1 + x10), x13)] : List (Int × Int × List Int)) F W Aa Sa UK Aa Aa Aa (Bq Aa Aa Aa DO) Aa Aa ⟨[Value.int .i64 x11, Value.int .i64 (Az (p1 + x10)), v10], _, Aa, ⟨[Value.int .i64 x11], [Value.int .i64 (Az (p1 + x10)), v10], Aa, Aa, ⟨[Value.int .i64 (Az (p1 + x10))], [v10], Aa, Aa, ⟨_, Aa, (W.item (i := 0) Aa)⟩⟩⟩, Aa⟩ fun v11 a w F W => ?_
   refine Cr (N2 := []) (NZ2 := []) (N3 := []) (NZ3 := [(some 15, row v2 3 (Rp.int .i64) x1), (some 13, row v2 3 (Rp.int .i64) x1)]) W Aa Aa Aw (all_cons (fun h => Be (by kernel_rfl) h) (all_cons (fun h => Be (by kernel_rfl) h) Aw)) ?_
   refine Fh Aa ?_
   obtain ⟨x14, h8, H⟩ := Ak H
   refine Fb (r := EX) (i := 3) F W Aa Sa Aa Aa Aa Aa (GD W 0 Aa) h8 Aa fun v12 a w F W => ?_
   have W : Stw ⟨Y, [], w0⟩ [] [row v12 41 EX x14, row v11 41 EX ([(x11, Az (p1 + x10), x13)] : List (Int × Int × List Int)), JE v10 (Rp.int .i64) x13, row v2 3 (Rp.int .i64) x1, row v7 3 (Rp.int .i64) x6.1] w := W
   refine Cr (N2 := []) (NZ2 := []) (N3 := []) (NZ3 := [(some 15, row v2 3 (Rp.int .i64) x1), (some 13, row v2 3 (Rp.int .i64) x1)]) W Aa Aa Aw (all_cons (fun h => Be (by kernel_rfl) h) (all_cons (fun h => Be (by kernel_rfl) h) Aw)) ?_
   refine Fh Aa ?_
   refine ls F W Aa (Af F Aa).q fun a w F W => ?_
   refine Cr (N2 := []) (NZ2 := []) (N3 := []) (NZ3 := [(some 15, row v2 3 (Rp.int .i64) x1), (some 13, row v2 3 (Rp.int .i64) x1)]) W Aa Aa Aw (all_cons (fun h => Be (by kernel_rfl) h) (all_cons (fun h => Be (by kernel_rfl) h) Aw)) ?_
   refine FC (AM (Ab (Ac ?_)))
   refine ls F W Aa (Bp F Aa Aa Aa).q fun a w F W => ?_
   refine ls F W Aa (Ad F Aa).q fun a w F W => ?_
   refine Ae (Ab ?_)
   have W := W.frontZ (i := 4) Aa Aa
   have W := W.frontZ (i := 1) Aa Aa
   have W := W.frontZ (i := 4) Aa Aa
   have W := W.sub (M' := []) (Z' := [row v2 3 (Rp.int .i64) x1, row v12 41 EX x14, row v7 3 (Rp.int .i64) x6.1]) (List.Sublist.refl _) (List.Sublist.cons_cons _ (List.Sublist.cons_cons _ (List.Sublist.cons_cons _ (List.nil_sublist _))))
   exact ⟨_, H, (v12), F.re ⟨rfl, Aa, Aa, Aa, Aa, Aa, Aa, Aa, trivial⟩, W⟩
  have H := AO (Bn hb) H
  rw [hb] at F
  clear hb
  refine A5 ?_
  iterate 2 refine Bk ?_
  refine A6 (Ab ?_)
  have W := W.frontZ (i := 1) Aa Aa
  have W := W.sub (M' := []) (Z' := [row v9 41 EX x8]) (List.Sublist.refl _) (List.Sublist.cons_cons _ (List.nil_sublist _))
  have H := L4 _ H
  exact ⟨_, (v9), H, F.re ⟨rfl, Aa, trivial⟩, W⟩
 rintro a w ⟨x7, v8, hj, F, W⟩
 have hj := AQ hj
 subst hj
 have H := K3
 clear G3 K3
 refine Ah (Ac ?_)
 refine ls F W Aa (Ad F Aa).q fun a w F W => ?_
 refine ls F W Aa (Af F Aa).q fun a w F W => ?_
 refine Ae (Ab (AF ?_))
 have H := AQ H
 subst H
 refine Bj (.inl Aa) F W Aa (AD F Aa) ?_
 exact ⟨(v8), Aa, W⟩
theorem U2 : Has Try.prog 16 := ⟨fun args w => Al Try.func16 rfl (by decide) args w⟩
theorem LR : Ty Try.prog 31 false 1 := ⟨by kernel_rfl, by kernel_rfl⟩
abbrev HZ : Rp (Int × Int × (Value × List Int)) := (Rp.pair (Rp.int .i64) (Rp.pair (Rp.int .i64) (Rp.vsl (Rp.int .i64))))
abbrev Um (p : Int × Int × (Value × List Int)) : Int × Int × List Int := (p.1, p.2.1, p.2.2.2)
theorem Hh : Ex EX HZ Um := (Ex.pair Ex.rfl' (Ex.pair Ex.rfl' Ex.sliceF))
abbrev KT (a : Int × Int × (Value × List Int)) : List Value := [.int .i64 a.1, .int .i64 a.2.1, a.2.2.1]
theorem P6 : HO HZ KT := (HO.pair Fl.int.to (HO.pair Fl.int.to HO.vsl))
noncomputable def DY (p0 : Int × (List (Int × Int × Int × Int × Int × Int)) × (List (Int × Int))) (p1 : List (List Int)) (p2 : List (List Int)) (p3 : Int) (p4 : Int) (p5 : Int) : Option (((List (Int × Int × Int × Int)) × (List (Int × Int × List Int)) × Int × Int × Int × Int) × Int) := (if (decide (p3 < 0) || (decide (1099511627776 < p3) || (decide (p4 < 0) || (decide (1048576 < p4) || (decide (p5 < 0) || decide (1048576 < p5)))))) = true then some ((([] : List (Int × Int × Int × Int)), ([] : List (Int × Int × List Int)), 0, 0, 0, 0), 2) else (Ea p0 p1 p2).bind fun x1 => (if x1.2 ≠ 0 then some ((([] : List (Int × Int × Int × Int)), ([] : List (Int × Int × List Int)), 0, 0, 0, 0), x1.2) else (if (x1.1.length : Int) = 0 then some ((([] : List (Int × Int × Int × Int)), ([] : List (Int × Int × List Int)), 0, 0, 0, 0), 7) else (Gk p0).bind fun x2 => (Hp p0 p4).bind fun x3 => (FB x1.1 (Az ((Az ((Az ((Az (p3 + p5)) + p4)) + x2)) + 1)) x3).bind fun x4 => (ix x4 (Az ((x4.length : Int) - 1))).bind fun x5 => (if 1099511627776 < (Az (x5.2.1 + p4)) then some ((([] : List (Int × Int × Int × Int)), ([] : List (Int × Int × List Int)), 0, 0, 0, 0), 11) else some ((x1.1, x4, p4, x2, Az ((Az ((Az ((Az ((Az ((Az (p3 + p5)) + p4)) + x2)) + 1)) - p4)) - x2), Az (x5.2.1 + p4)), 0)))))
theorem Li (Y : Nat → Prop) (w0 : World) (v1 : Value) (v2 : Value) (v3 : Value) (v4 : Value) (p0 : Int × (List (Int × Int × Int × Int × Int × Int)) × (List (Int × Int))) (p1 : List (List Int)) (p2 : List (List Int)) (p3 : Int) (p4 : Int) (p5 : Int) (r : ((List (Int × Int × Int × Int)) × (List (Int × Int × List Int)) × Int × Int × Int × Int) × Int) (H : DY p0 p1 p2 p3 p4 p5 = some r) (h_v1 : Sl w0 (NX []) Ii v1 p0.2.1) (h_v2 : Sl w0 (NX []) Ip v2 p0.2.2) (h_v3 : Sl w0 (NX []) (Rp.slice (Rp.int .i64)) v3 p1) (h_v4 : Sl w0 (NX []) (Rp.slice (Rp.int .i64)) v4 p2) :
    Calls Try.prog 6 #[.agg #[.int .i64 p0.1, v1, v2], v3, v4, .int .i64 p3, .int .i64 p4, .int .i64 p5] w0 fun e w' => ∃ x : Value × Value, e = .returned (.tuple #[.agg #[x.1, x.2, .int .i64 r.1.2.2.1, .int .i64 r.1.2.2.2.1, .int .i64 r.1.2.2.2.2.1, .int .i64 r.1.2.2.2.2.2], .int .i64 r.2]) ∧ Stw ⟨Y, [], w0⟩ [] [row (x.1) 70 A4 r.1.1, row (x.2) 41 EX r.1.2.1] w' := by
 refine enter Try.func6 Aa Try.ntmps6 Aa fun a F => ?_
 have W := Stw.start Y w0
 obtain ⟨v5, h1, h_v3⟩ := h_v3.ex Er
 obtain ⟨v6, h2, h_v4⟩ := h_v4.ex Er
 unfold DY at H
 refine Ah (Ac ?_)
 refine EQ (cs := [.int .i64 p0.1, v1, v2]) F W Aa Aa Aa fun b1 a w F W => ?_
 refine CB (cs := [.slice none 0 0, .slice none 0 0, .int .i64 0, .int .i64 0, .int .i64 0, .int .i64 0]) F W Aa TG Aa fun b2 a w F W => ?_
 refine ls F W Aa (Af F Aa).q fun a w F W => ?_
 refine Ae (Ab (Ah ?_))
 refine AK (fun a w => Fr 101 [] [(1, v3), (2, v4), (3, .int .i64 p3), (4, .int .i64 p4), (5, .int .i64 p5), (6, .pointer (some ⟨b1, 0, none⟩)), (12, .pointer (some ⟨b2, 0, none⟩)), (13, .int .i64 0), (39, .bool (decide (p3 < 0) || (decide (1099511627776 < p3) || (decide (p4 < 0) || (decide (1048576 < p4) || (decide (p5 < 0) || decide (1048576 < p5)))))))] a ∧ Stw ⟨Y, [], w0⟩ [(b2, [.slice none 0 0, .slice none 0 0, .int .i64 0, .int .i64 0, .int .i64 0, .int .i64 0]), (b1, [.int .i64 p0.1, v1, v2])] [] w) ?_ ?_
 ·
  refine Ac ?_
  refine ls F W Aa (Ad F Aa).q fun a w F W => ?_
  refine ls F W Aa (BI F Aa Aa).q fun a w F W => ?_
  refine ls F W Aa (Ad F Aa).q fun a w F W => ?_
  rcases Bool.eq_false_or_eq_true (decide (p3 < 0)) with hb0 | hb0
  ·
   rw [hb0] at F
   iterate 2 refine C1 F Aa Aa Aa Aa Aa Aa Aa fun a F => ?_
   refine ls F W Aa (Av F Aa Aa Aa).q fun a w F W => ?_
   refine ls F W Aa (Ad F Aa).q fun a w F W => ?_
   iterate 2 refine C1 F Aa Aa Aa Aa Aa Aa Aa fun a F => ?_
   refine ls F W Aa (Av F Aa Aa Aa).q fun a w F W => ?_
   refine ls F W Aa (Ad F Aa).q fun a w F W => ?_
   iterate 2 refine C1 F Aa Aa Aa Aa Aa Aa Aa fun a F => ?_
   refine ls F W Aa (Av F Aa Aa Aa).q fun a w F W => ?_
   refine ls F W Aa (Ad F Aa).q fun a w F W => ?_
   iterate 2 refine C1 F Aa Aa Aa Aa Aa Aa Aa fun a F => ?_
   refine ls F W Aa (Av F Aa Aa Aa).q fun a w F W => ?_
   refine ls F W Aa (Ad F Aa).q fun a w F W => ?_
   iterate 2 refine C1 F Aa Aa Aa Aa Aa Aa Aa fun a F => ?_
   refine ls F W Aa (Av F Aa Aa Aa).q fun a w F W => ?_
   refine Ae (Ab ?_)
   exact ⟨F.re ⟨rfl, Aa, Aa, Aa, Aa, Aa, Aa, Aa, (by show some (Value.bool true) = some (Value.bool (decide (p3 < 0) || (decide (1099511627776 < p3) || (decide (p4 < 0) || (decide (1048576 < p4) || (decide (p5 < 0) || decide (1048576 < p5))))))); try rw [hb0]; all_goals simp only [Bool.not_true, Bool.not_false, Bool.true_and, Bool.false_and, Bool.true_or, Bool.false_or, Bool.and_true, Bool.or_false, cond_true, cond_false]), trivial⟩, W⟩
  rw [hb0] at F
  refine AR F W (Ag F Aa Aa Aa Aa) Aa (An Aa) (Ad F Aa).q fun a w F W => ?_
  refine AR F W (Ag F Aa Aa Aa Aa) Aa (An Aa) (FZ F Aa Aa).q fun a w F W => ?_
  refine ls F W Aa (Ax F Aa Aa Aa).q fun a w F W => ?_
  refine ls F W Aa (Ad F Aa).q fun a w F W => ?_
  rcases Bool.eq_false_or_eq_true (decide (1099511627776 < p3)) with hb1 | hb1
  ·
   rw [hb1] at F
   iterate 2 refine C1 F Aa Aa Aa Aa Aa Aa Aa fun a F => ?_
   refine ls F W Aa (Av F Aa Aa Aa).q fun a w F W => ?_
   refine ls F W Aa (Ad F Aa).q fun a w F W => ?_
   iterate 2 refine C1 F Aa Aa Aa Aa Aa Aa Aa fun a F => ?_
   refine ls F W Aa (Av F Aa Aa Aa).q fun a w F W => ?_
   refine ls F W Aa (Ad F Aa).q fun a w F W => ?_
   iterate 2 refine C1 F Aa Aa Aa Aa Aa Aa Aa fun a F => ?_
   refine ls F W Aa (Av F Aa Aa Aa).q fun a w F W => ?_
   refine ls F W Aa (Ad F Aa).q fun a w F W => ?_
   iterate 2 refine C1 F Aa Aa Aa Aa Aa Aa Aa fun a F => ?_
   refine ls F W Aa (Av F Aa Aa Aa).q fun a w F W => ?_
   refine Ae (Ab ?_)
   exact ⟨F.re ⟨rfl, Aa, Aa, Aa, Aa, Aa, Aa, Aa, (by show some (Value.bool true) = some (Value.bool (decide (p3 < 0) || (decide (1099511627776 < p3) || (decide (p4 < 0) || (decide (1048576 < p4) || (decide (p5 < 0) || decide (1048576 < p5))))))); try rw [hb1]; try rw [hb0]; all_goals simp only [Bool.not_true, Bool.not_false, Bool.true_and, Bool.false_and, Bool.true_or, Bool.false_or, Bool.and_true, Bool.or_false, cond_true, cond_false]), trivial⟩, W⟩
  rw [hb1] at F
  refine AR F W (Ag F Aa Aa Aa Aa) Aa (An Aa) (Ad F Aa).q fun a w F W => ?_
  refine AR F W (Ag F Aa Aa Aa Aa) Aa (An Aa) (BI F Aa Aa).q fun a w F W => ?_
  refine ls F W Aa (Ax F Aa Aa Aa).q fun a w F W => ?_
  refine ls F W Aa (Ad F Aa).q fun a w F W => ?_
  rcases Bool.eq_false_or_eq_true (decide (p4 < 0)) with hb2 | hb2
  ·
   rw [hb2] at F
   iterate 2 refine C1 F Aa Aa Aa Aa Aa Aa Aa fun a F => ?_
   refine ls F W Aa (Av F Aa Aa Aa).q fun a w F W => ?_
   refine ls F W Aa (Ad F Aa).q fun a w F W => ?_
   iterate 2 refine C1 F Aa Aa Aa Aa Aa Aa Aa fun a F => ?_
   refine ls F W Aa (Av F Aa Aa Aa).q fun a w F W => ?_
   refine ls F W Aa (Ad F Aa).q fun a w F W => ?_
   iterate 2 refine C1 F Aa Aa Aa Aa Aa Aa Aa fun a F => ?_
   refine ls F W Aa (Av F Aa Aa Aa).q fun a w F W => ?_
   refine Ae (Ab ?_)
   exact ⟨F.re ⟨rfl, Aa, Aa, Aa, Aa, Aa, Aa, Aa, (by show some (Value.bool true) = some (Value.bool (decide (p3 < 0) || (decide (1099511627776 < p3) || (decide (p4 < 0) || (decide (1048576 < p4) || (decide (p5 < 0) || decide (1048576 < p5))))))); try rw [hb1]; try rw [hb0]; try rw [hb2]; all_goals simp only [Bool.not_true, Bool.not_false, Bool.true_and, Bool.false_and, Bool.true_or, Bool.false_or, Bool.and_true, Bool.or_false, cond_true, cond_false]), trivial⟩, W⟩
  rw [hb2] at F
  refine AR F W (Ag F Aa Aa Aa Aa) Aa (An Aa) (Ad F Aa).q fun a w F W => ?_
  refine AR F W (Ag F Aa Aa Aa Aa) Aa (An Aa) (FZ F Aa Aa).q fun a w F W => ?_
  refine ls F W Aa (Ax F Aa Aa Aa).q fun a w F W => ?_
  refine ls F W Aa (Ad F Aa).q fun a w F W => ?_
  rcases Bool.eq_false_or_eq_true (decide (1048576 < p4)) with hb3 | hb3
  ·
   rw [hb3] at F
   iterate 2 refine C1 F Aa Aa Aa Aa Aa Aa Aa fun a F => ?_
   refine ls F W Aa (Av F Aa Aa Aa).q fun a w F W => ?_
   refine ls F W Aa (Ad F Aa).q fun a w F W => ?_
   iterate 2 refine C1 F Aa Aa Aa Aa Aa Aa Aa fun a F => ?_
   refine ls F W Aa (Av F Aa Aa Aa).q fun a w F W => ?_
   refine Ae (Ab ?_)
   exact ⟨F.re ⟨rfl, Aa, Aa, Aa, Aa, Aa, Aa, Aa, (by show some (Value.bool true) = some (Value.bool (decide (p3 < 0) || (decide (1099511627776 < p3) || (decide (p4 < 0) || (decide (1048576 < p4) || (decide (p5 < 0) || decide (1048576 < p5))))))); try rw [hb1]; try rw [hb3]; try rw [hb0]; try rw [hb2]; all_goals simp only [Bool.not_true, Bool.not_false, Bool.true_and, Bool.false_and, Bool.true_or, Bool.false_or, Bool.and_true, Bool.or_false, cond_true, cond_false]), trivial⟩, W⟩
  rw [hb3] at F
  refine AR F W (Ag F Aa Aa Aa Aa) Aa (An Aa) (Ad F Aa).q fun a w F W => ?_
  refine AR F W (Ag F Aa Aa Aa Aa) Aa (An Aa) (BI F Aa Aa).q fun a w F W => ?_
  refine ls F W Aa (Ax F Aa Aa Aa).q fun a w F W => ?_
  refine ls F W Aa (Ad F Aa).q fun a w F W => ?_
  rcases Bool.eq_false_or_eq_true (decide (p5 < 0)) with hb4 | hb4
  ·
   rw [hb4] at F
   iterate 2 refine C1 F Aa Aa Aa Aa Aa Aa Aa fun a F => ?_
   refine ls F W Aa (Av F Aa Aa Aa).q fun a w F W => ?_
   refine Ae (Ab ?_)
   exact ⟨F.re ⟨rfl, Aa, Aa, Aa, Aa, Aa, Aa, Aa, (by show some (Value.bool true) = some (Value.bool (decide (p3 < 0) || (decide (1099511627776 < p3) || (decide (p4 < 0) || (decide (1048576 < p4) || (decide (p5 < 0) || decide (1048576 < p5))))))); try rw [hb1]; try rw [hb3]; try rw [hb0]; try rw [hb2]; try rw [hb4]; all_goals simp only [Bool.not_true, Bool.not_false, Bool.true_and, Bool.false_and, Bool.true_or, Bool.false_or, Bool.and_true, Bool.or_false, cond_true, cond_false]), trivial⟩, W⟩
  rw [hb4] at F
  refine AR F W (Ag F Aa Aa Aa Aa) Aa (An Aa) (Ad F Aa).q fun a w F W => ?_
  refine AR F W (Ag F Aa Aa Aa Aa) Aa (An Aa) (FZ F Aa Aa).q fun a w F W => ?_
  refine ls F W Aa (Ax F Aa Aa Aa).q fun a w F W => ?_
  refine Ae (Ab ?_)
  exact ⟨F.re ⟨rfl, Aa, Aa, Aa, Aa, Aa, Aa, Aa, (by show some (Value.bool (decide (1048576 < p5))) = some (Value.bool (decide (p3 < 0) || (decide (1099511627776 < p3) || (decide (p4 < 0) || (decide (1048576 < p4) || (decide (p5 < 0) || decide (1048576 < p5))))))); try rw [hb1]; try rw [hb3]; try rw [hb0]; try rw [hb2]; try rw [hb4]; all_goals simp only [Bool.not_true, Bool.not_false, Bool.true_and, Bool.false_and, Bool.true_or, Bool.false_or, Bool.and_true, Bool.or_false, cond_true, cond_false]), trivial⟩, W⟩
 rintro a w ⟨F, W⟩
 refine Ay F Aa (fun hb => ?_) fun hb => ?_
 ·
  have H := AP hb H
  rw [hb] at F
  clear hb
  refine Ah (Ac ?_)
  refine ls F W Aa (CE (v := Value.agg #[.slice none 0 0, .slice none 0 0, .int .i64 0, .int .i64 0, .int .i64 0, .int .i64 0]) S1 F Aa Aa Aa).q fun a w F W => ?_
  refine BW (vs := [.slice none 0 0, .slice none 0 0, .int .i64 0, .int .i64 0, .int .i64 0, .int .i64 0]) (M' := [(b2, [.slice none 0 0, .slice none 0 0, .int .i64 0, .int .i64 0, .int .i64 0, .int .i64 0]), (b1, [.int .i64 p0.1, v1, v2])]) 0 F W Aa Aa Aa Np Aa Aa Aa Aa Aa fun w W => ?_
  refine ls F W Aa (Af F Aa).q fun a w F W => ?_
  refine Ae (Ab (AF (AN ?_)))
  have H := AQ H
  subst H
  refine EU (.inl Aa) F W Aa (Ha 0 F Aa Aa Np Aa) (AD F Aa) ?_
  have W := W.nilRow 70 A4
  have W := W.nilRow 41 EX
  have W := W.frontZ (i := 1) Aa Aa
  have W := W.sub (M' := []) (Z' := [row (Value.slice none 0 0) 70 A4 ([]), row (Value.slice none 0 0) 41 EX ([])]) (List.nil_sublist _) (List.Sublist.refl _)
  exact ⟨((Value.slice none 0 0), (Value.slice none 0 0)), Aa, W⟩
 have H := AO (by rw [hb]; decide) H
 rw [hb] at F
 clear hb
 refine Aq (Ab (Ah (Ac ?_)))
 refine ls F W Aa (AB (v := Value.agg #[.int .i64 p0.1, v1, v2]) 1 F Aa Aa Mk Aa).q fun a w F W => ?_
 iterate 2 refine ls F W Aa (Ad F Aa).q fun a w F W => ?_
 obtain ⟨x1, h3, H⟩ := Ak H
 refine Bo (Ml := []) (Zl := []) (M := [(b2, [.slice none 0 0, .slice none 0 0, .int .i64 0, .int .i64 0, .int .i64 0, .int .i64 0]), (b1, [.int .i64 p0.1, v1, v2])]) (Z := []) (β := Value) (rv := fun x => .tuple #[x, .int .i64 x1.2]) (MM := fun x => []) (ZZ := fun x => [row x 70 A4 x1.1]) F W V1 Aa Aa (fun hL => M4 _ w (v1) (v2) (v3) (v4) p0 p1 p2 _ h3 ((Ap h_v1) w W).nx ((Ap h_v2) w W).nx ((Cb Er h1 (Ap h_v3)) w W).nx ((Cb Er h2 (Ap h_v4)) w W).nx) fun x a w F W => ?_
 obtain ⟨v7, rfl⟩ : ∃ y, y = x := ⟨x, rfl⟩
 have W : Stw ⟨Y, [], w0⟩ [(b2, [.slice none 0 0, .slice none 0 0, .int .i64 0, .int .i64 0, .int .i64 0, .int .i64 0]), (b1, [.int .i64 p0.1, v1, v2])] [row v7 70 A4 x1.1] w := W
 refine ls F W Aa (Ad F Aa).q fun a w F W => ?_
 refine ls F W Aa (BK (v := v7) F Aa Aa).q fun a w F W => ?_
 refine ls F W Aa (BK (v := Value.int .i64 x1.2) F Aa Aa).q fun a w F W => ?_
 iterate 2 refine ls F W Aa (Af F Aa).q fun a w F W => ?_
 refine Ae (Ab (Ah (Ah (Ac ?_))))
 refine ls F W Aa (Ad F Aa).q fun a w F W => ?_
 refine ls F W Aa (Hq F Aa Aa).q fun a w F W => ?_
 refine Ae (Ab ?_)
 refine Ay F Aa (fun hb => ?_) fun hb => ?_
 ·
  have H := AP (Bm hb) H
  rw [hb] at F
  clear hb
  refine Ah (Ac ?_)
  refine ls F W Aa (CE (v := Value.agg #[.slice none 0 0, .slice none 0 0, .int .i64 0, .int .i64 0, .int .i64 0, .int .i64 0]) S1 F Aa Aa Aa).q fun a w F W => ?_
  refine ls F W Aa (Ad F Aa).q fun a w F W => ?_
  refine BW (vs := [.slice none 0 0, .slice none 0 0, .int .i64 0, .int .i64 0, .int .i64 0, .int .i64 0]) (M' := [(b2, [.slice none 0 0, .slice none 0 0, .int .i64 0, .int .i64 0, .int .i64 0, .int .i64 0]), (b1, [.int .i64 p0.1, v1, v2])]) 0 F W Aa Aa Aa Np Aa Aa Aa Aa Aa fun w W => ?_
  refine ls F W Aa (Af F Aa).q fun a w F W => ?_
  refine Ae (Ab (AF (AN ?_)))
  have H := AQ H
  subst H
  refine EU (.inl Aa) F W Aa (Ha 0 F Aa Aa Np Aa) (AD F Aa) ?_
  have W := W.nilRow 70 A4
  have W := W.nilRow 41 EX
  have W := W.frontZ (i := 1) Aa Aa
  have W := W.sub (M' := []) (Z' := [row (Value.slice none 0 0) 70 A4 ([]), row (Value.slice none 0 0) 41 EX ([])]) (List.nil_sublist _) (List.Sublist.cons_cons _ (List.Sublist.cons_cons _ (List.nil_sublist _)))
  exact ⟨((Value.slice none 0 0), (Value.slice none 0 0)), Aa, W⟩
 have H := AO (Bn hb) H
 rw [hb] at F
 clear hb
 refine Aq (Ab (Ah (Ah (Ac ?_))))
 refine ls F W Aa (Ad F Aa).q fun a w F W => ?_
 refine ls F W Aa (B1 (r := A4) (l := x1.1) OD Aa F Aa (Aj 0 Aa)).q fun a w F W => ?_
 refine ls F W Aa (Dl F Aa Aa).q fun a w F W => ?_
 refine Ae (Ab ?_)
 refine Ay F Aa (fun hb => ?_) fun hb => ?_
 ·
  have H := AP (Bm hb) H
  rw [hb] at F
  clear hb
  refine Ah (Ac ?_)
  refine ls F W Aa (CE (v := Value.agg #[.slice none 0 0, .slice none 0 0, .int .i64 0, .int .i64 0, .int .i64 0, .int .i64 0]) S1 F Aa Aa Aa).q fun a w F W => ?_
  refine BW (vs := [.slice none 0 0, .slice none 0 0, .int .i64 0, .int .i64 0, .int .i64 0, .int .i64 0]) (M' := [(b2, [.slice none 0 0, .slice none 0 0, .int .i64 0, .int .i64 0, .int .i64 0, .int .i64 0]), (b1, [.int .i64 p0.1, v1, v2])]) 0 F W Aa Aa Aa Np Aa Aa Aa Aa Aa fun w W => ?_
  refine ls F W Aa (Af F Aa).q fun a w F W => ?_
  refine Ae (Ab (AF (AN ?_)))
  have H := AQ H
  subst H
  refine EU (.inl Aa) F W Aa (Ha 0 F Aa Aa Np Aa) (AD F Aa) ?_
  have W := W.nilRow 70 A4
  have W := W.nilRow 41 EX
  have W := W.frontZ (i := 1) Aa Aa
  have W := W.sub (M' := []) (Z' := [row (Value.slice none 0 0) 70 A4 ([]), row (Value.slice none 0 0) 41 EX ([])]) (List.nil_sublist _) (List.Sublist.cons_cons _ (List.Sublist.cons_cons _ (List.nil_sublist _)))
  exact ⟨((Value.slice none 0 0), (Value.slice none 0 0)), Aa, W⟩
 have H := AO (Bn hb) H
 rw [hb] at F
 clear hb
 refine Aq (Ab (Ah (Ac ?_)))
 iterate 2 refine ls F W Aa (Ad F Aa).q fun a w F W => ?_
 refine ls F W Aa (AB (v := Value.agg #[.int .i64 p0.1, v1, v2]) 1 F Aa Aa Mk Aa).q fun a w F W => ?_
 obtain ⟨x2, h4, H⟩ := Ak H
 refine ls F W Aa (BR (v := Value.int .i64 x2) F UO Aa (fun w W => Lz any w (v1) (v2) p0 _ h4 (((Ap h_v1) : EM _ _ _ _ _ _) w W).nx (((Ap h_v2) : EM _ _ _ _ _ _) w W).nx)) fun a w F W => ?_
 refine ls F W Aa (CE (v := Value.agg #[v7, .slice none 0 0, .int .i64 p4, .int .i64 x2, .int .i64 0, .int .i64 0]) S1 F Aa (Bq Aa (Ct (W.one (k := 0) Aa)) Aa (Bq Aa Aa Aa (Bq Aa Aa Aa DO))) Aa).q fun a w F W => ?_
 refine CB (cs := [.slice none 0 0, .slice none 0 0, .int .i64 0, .int .i64 0, .int .i64 0, .int .i64 0]) F W Aa TG Aa fun b3 a w F W => ?_
 refine BW (vs := [v7, .slice none 0 0, .int .i64 p4, .int .i64 x2, .int .i64 0, .int .i64 0]) (M' := [(b3, [v7, .slice none 0 0, .int .i64 p4, .int .i64 x2, .int .i64 0, .int .i64 0]), (b2, [.slice none 0 0, .slice none 0 0, .int .i64 0, .int .i64 0, .int .i64 0, .int .i64 0]), (b1, [.int .i64 p0.1, v1, v2])]) 0 F W Aa Aa Aa Np Aa Aa Aa (AZ (W.one (k := 0) Aa) (AZ Aa (AZ Aa (AZ Aa (AZ Aa (AZ Aa E3)))))) Aa fun w W => ?_
 refine Ae (Ab (Ah (Ac ?_)))
 iterate 2 refine ls F W Aa (Ad F Aa).q fun a w F W => ?_
 refine ls F W Aa (Bp F Aa Aa Aa).q fun a w F W => ?_
 refine ls F W Aa (Ad F Aa).q fun a w F W => ?_
 refine ls F W Aa (Bp F Aa Aa Aa).q fun a w F W => ?_
 refine ls F W Aa (Am Hn Aa Aa Aa T3 F Aa 3 Aa).q fun a w F W => ?_
 refine ls F W Aa (AB (v := Value.int .i64 x2) 0 F Aa Aa T3 Aa).q fun a w F W => ?_
 iterate 2 refine ls F W Aa (Bp F Aa Aa Aa).q fun a w F W => ?_
 refine ls F W Aa (Af F Aa).q fun a w F W => ?_
 refine Ae (Ab (Ah (Ac ?_)))
 iterate 2 refine ls F W Aa (Ad F Aa).q fun a w F W => ?_
 refine ls F W Aa (AB (v := Value.agg #[.int .i64 p0.1, v1, v2]) 2 F Aa Aa Mk Aa).q fun a w F W => ?_
 refine ls F W Aa (Ad F Aa).q fun a w F W => ?_
 obtain ⟨x3, h5, H⟩ := Ak H
 refine ls F W Aa (BR (v := Value.int .i64 x3) F Uz Aa (fun w W => Mf any w (v1) (v2) p0 p4 _ h5 (((Ap h_v1) : EM _ _ _ _ _ _) w W).nx (((Ap h_v2) : EM _ _ _ _ _ _) w W).nx)) fun a w F W => ?_
 obtain ⟨x4, h6, H⟩ := Ak H
 refine Bo (Ml := []) (Zl := []) (M := [(b3, [v7, .slice none 0 0, .int .i64 p4, .int .i64 x2, .int .i64 0, .int .i64 0]), (b2, [.slice none 0 0, .slice none 0 0, .int .i64 0, .int .i64 0, .int .i64 0, .int .i64 0]), (b1, [.int .i64 p0.1, v1, v2])]) (Z := [row v7 70 A4 x1.1]) (β := Value) (rv := fun x => x) (MM := fun x => []) (ZZ := fun x => [row x 41 EX x4]) F W U2 Aa Aa (fun hL => MX _ w (v7) x1.1 (Az ((Az ((Az ((Az (p3 + p5)) + p4)) + x2)) + 1)) x3 _ h6 ((Aj 0 Aa) w W).nx) fun x a w F W => ?_
 obtain ⟨v8, rfl⟩ : ∃ y, y = x := ⟨x, rfl⟩
 have W : Stw ⟨Y, [], w0⟩ [(b3, [v7, .slice none 0 0, .int .i64 p4, .int .i64 x2, .int .i64 0, .int .i64 0]), (b2, [.slice none 0 0, .slice none 0 0, .int .i64 0, .int .i64 0, .int .i64 0, .int .i64 0]), (b1, [.int .i64 p0.1, v1, v2])] [row v8 41 EX x4, row v7 70 A4 x1.1] w := W
 refine ls F W Aa (Am Hn Aa Aa Aa LR F Aa 1 Aa).q fun a w F W => ?_
 refine Rh (M' := [(b3, [v7, v8, .int .i64 p4, .int .i64 x2, .int .i64 0, .int .i64 0]), (b2, [.slice none 0 0, .slice none 0 0, .int .i64 0, .int .i64 0, .int .i64 0, .int .i64 0]), (b1, [.int .i64 p0.1, v1, v2])]) 0 F W Aa Aa Aa LR (W.one (k := 0) Aa) Aa Aa fun w W => ?_
 refine Ae (Ab (Ah (Ac ?_)))
 iterate 2 refine ls F W Aa (Ad F Aa).q fun a w F W => ?_
 refine ls F W Aa (B9 F Aa Aa Aa).q fun a w F W => ?_
 refine ls F W Aa (Am Hn Aa Aa Aa T3 F Aa 3 Aa).q fun a w F W => ?_
 refine ls F W Aa (AB (v := Value.int .i64 x2) 0 F Aa Aa T3 Aa).q fun a w F W => ?_
 refine ls F W Aa (B9 F Aa Aa Aa).q fun a w F W => ?_
 refine ls F W Aa (Am Hn Aa Aa Aa T3 F Aa 4 Aa).q fun a w F W => ?_
 refine BW (vs := [.int .i64 (Az ((Az ((Az ((Az ((Az ((Az (p3 + p5)) + p4)) + x2)) + 1)) - p4)) - x2))]) (M' := [(b3, [v7, v8, .int .i64 p4, .int .i64 x2, .int .i64 (Az ((Az ((Az ((Az ((Az ((Az (p3 + p5)) + p4)) + x2)) + 1)) - p4)) - x2)), .int .i64 0]), (b2, [.slice none 0 0, .slice none 0 0, .int .i64 0, .int .i64 0, .int .i64 0, .int .i64 0]), (b1, [.int .i64 p0.1, v1, v2])]) 0 F W Aa Aa Aa T3 Aa Aa Aa Aa Aa fun w W => ?_
 refine Ae (Ab (Ah ?_))
 obtain ⟨v9, h7, W⟩ := W.exR Hh
 refine Ac ?_
 refine ls F W Aa (Am Hn Aa Aa Aa LR F Aa 1 Aa).q fun a w F W => ?_
 refine ls F W Aa (AB (v := v8) 0 F Aa Aa LR Aa).q fun a w F W => ?_
 refine ls F W Aa (Am Hn Aa Aa Aa LR F Aa 1 Aa).q fun a w F W => ?_
 refine ls F W Aa (AB (v := v8) 0 F Aa Aa LR Aa).q fun a w F W => ?_
 refine ls F W Aa (B1 (r := EX) (l := x4) P5 Aa F Aa (Cb Hh h7 (Aj 0 Aa))).q fun a w F W => ?_
 refine ls F W Aa (B9 F Aa Aa Aa).q fun a w F W => ?_
 obtain ⟨x5, h8, H⟩ := Ak H
 obtain ⟨v10, h9, h10⟩ := EK h7 h8
 have h11 : KT v10 = [.int .i64 x5.1, .int .i64 x5.2.1, (v10.2.2.1)] := congrArg (fun q : Int × Int × List Int => ([.int .i64 q.1, .int .i64 q.2.1, (v10.2.2.1)] : List Value)) h10
 refine ls F W Aa (AC (r := HZ) Sa F Aa Aa (Aj 0 Aa) h9).q fun a w F W => ?_
 refine ls F W Aa (Am Ou Aa Aa Aa T3 F Aa (GJ v8 + (Az ((x4.length : Int) - 1)).toNat * 3 + 1) Aa).q fun a w F W => ?_
 refine ls F W Aa (Ao (y := Value.int .i64 x5.2.1) (j := 1) (i := Az ((x4.length : Int) - 1)) (enc := KT) F Aa Aa (Aj 0 Aa) h9 P6 T3 (by rw [h11]; rfl)).q fun a w F W => ?_
 have W := W.note (W.rowAt (k := 0) Aa h9 (Cu.snd (Cu.snd Cu.here)) (congrArg (fun q : Int × Int × List Int => q.2.2) h10))
 refine ls F W Aa (Ad F Aa).q fun a w F W => ?_
 refine ls F W Aa (Bp F Aa Aa Aa).q fun a w F W => ?_
 refine ls F W Aa (Am Hn Aa Aa Aa T3 F Aa 5 Aa).q fun a w F W => ?_
 refine BW (vs := [.int .i64 (Az (x5.2.1 + p4))]) (M' := [(b3, [v7, v8, .int .i64 p4, .int .i64 x2, .int .i64 (Az ((Az ((Az ((Az ((Az ((Az (p3 + p5)) + p4)) + x2)) + 1)) - p4)) - x2)), .int .i64 (Az (x5.2.1 + p4))]), (b2, [.slice none 0 0, .slice none 0 0, .int .i64 0, .int .i64 0, .int .i64 0, .int .i64 0]), (b1, [.int .i64 p0.1, v1, v2])]) 0 F W Aa Aa Aa T3 Aa Aa Aa Aa Aa fun w W => ?_
 refine Ae (Ab (Ah (Ah (Ac ?_))))
 refine ls F W Aa (Am Hn Aa Aa Aa T3 F Aa 5 Aa).q fun a w F W => ?_
 refine ls F W Aa (AB (v := Value.int .i64 (Az (x5.2.1 + p4))) 0 F Aa Aa T3 Aa).q fun a w F W => ?_
 refine ls F W Aa (FZ F Aa Aa).q fun a w F W => ?_
 refine Ae (Ab ?_)
 refine Ay F Aa (fun hb => ?_) fun hb => ?_
 ·
  have H := AP (Bm hb) H
  rw [hb] at F
  clear hb
  refine Ah (Ac ?_)
  refine ls F W Aa (CE (v := Value.agg #[.slice none 0 0, .slice none 0 0, .int .i64 0, .int .i64 0, .int .i64 0, .int .i64 0]) S1 F Aa Aa Aa).q fun a w F W => ?_
  refine BW (vs := [.slice none 0 0, .slice none 0 0, .int .i64 0, .int .i64 0, .int .i64 0, .int .i64 0]) (M' := [(b3, [v7, v8, .int .i64 p4, .int .i64 x2, .int .i64 (Az ((Az ((Az ((Az ((Az ((Az (p3 + p5)) + p4)) + x2)) + 1)) - p4)) - x2)), .int .i64 (Az (x5.2.1 + p4))]), (b2, [.slice none 0 0, .slice none 0 0, .int .i64 0, .int .i64 0, .int .i64 0, .int .i64 0]), (b1, [.int .i64 p0.1, v1, v2])]) 1 F W Aa Aa Aa Np Aa Aa Aa Aa Aa fun w W => ?_
  refine ls F W Aa (Af F Aa).q fun a w F W => ?_
  refine Ae (Ab (AF (AN ?_)))
  have H := AQ H
  subst H
  refine EU (.inl Aa) F W Aa (Ha 1 F Aa Aa Np Aa) (AD F Aa) ?_
  have W := W.nilRow 70 A4
  have W := W.nilRow 41 EX
  have W := W.frontZ (i := 1) Aa Aa
  have W := W.sub (M' := []) (Z' := [row (Value.slice none 0 0) 70 A4 ([]), row (Value.slice none 0 0) 41 EX ([])]) (List.nil_sublist _) (List.Sublist.cons_cons _ (List.Sublist.cons_cons _ (List.nil_sublist _)))
  exact ⟨((Value.slice none 0 0), (Value.slice none 0 0)), Aa, W⟩
 have H := AO (Bn hb) H
 rw [hb] at F
 clear hb
 refine Aq (Ab (Ah (Ac ?_)))
 refine ls F W Aa (AB (v := Value.agg #[v7, v8, .int .i64 p4, .int .i64 x2, .int .i64 (Az ((Az ((Az ((Az ((Az ((Az (p3 + p5)) + p4)) + x2)) + 1)) - p4)) - x2)), .int .i64 (Az (x5.2.1 + p4))]) 0 F Aa Aa Np Aa).q fun a w F W => ?_
 refine BW (vs := [v7, v8, .int .i64 p4, .int .i64 x2, .int .i64 (Az ((Az ((Az ((Az ((Az ((Az (p3 + p5)) + p4)) + x2)) + 1)) - p4)) - x2)), .int .i64 (Az (x5.2.1 + p4))]) (M' := [(b3, [v7, v8, .int .i64 p4, .int .i64 x2, .int .i64 (Az ((Az ((Az ((Az ((Az ((Az (p3 + p5)) + p4)) + x2)) + 1)) - p4)) - x2)), .int .i64 (Az (x5.2.1 + p4))]), (b2, [v7, v8, .int .i64 p4, .int .i64 x2, .int .i64 (Az ((Az ((Az ((Az ((Az ((Az (p3 + p5)) + p4)) + x2)) + 1)) - p4)) - x2)), .int .i64 (Az (x5.2.1 + p4))]), (b1, [.int .i64 p0.1, v1, v2])]) 1 F W Aa Aa Aa Np Aa Aa Aa (AZ (W.one (k := 2) Aa) (AZ (W.one (k := 1) Aa) (AZ Aa (AZ Aa (AZ Aa (AZ Aa E3)))))) Aa fun w W => ?_
 refine ls F W Aa (Af F Aa).q fun a w F W => ?_
 refine Ae (Ab (AF ?_))
 have H := AQ H
 subst H
 refine EU (.inl Aa) F W Aa (Ha 1 F Aa Aa Np Aa) (AD F Aa) ?_
 have W := W.frontZ (i := 1) Aa Aa
 have W := W.hideR Hh h7
 have W := W.frontZ (i := 2) Aa Aa
 have W := W.sub (M' := []) (Z' := [row v7 70 A4 x1.1, row v8 41 EX x4]) (List.nil_sublist _) (List.Sublist.cons_cons _ (List.Sublist.cons_cons _ (List.nil_sublist _)))
 exact ⟨((v7), (v8)), Aa, W⟩
end Go.Proofs.Ytghpabmmdenaoaa
