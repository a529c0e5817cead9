/- The functions of layer 42, FF. Conditions: none. -/
import Derived.Test.YtflaelbmglmmcaadA6
namespace Go.Proofs.Ytflaelbmglmmcaa
open Go Go.RowKit
set_option linter.unusedVariables false
set_option linter.unusedSimpArgs false
set_option maxRecDepth 20000
theorem RE : Has Try.prog 19 := ⟨fun args w => Al Try.func19 rfl (by decide) args w⟩
noncomputable def CX (x3 : (List (Int × Int × Int))) (x4 : (List (Int × Int × Int))) : Int → Option (Int ⊕ (Unit ⊕ Bool))
  | x11 => (if x11 < (x4.length : Int) then ((ix x3 x11).bind fun x13 => (ix x4 x11).bind fun x14 => (if x13.1 ≠ x14.1 then some true else (ix x3 x11).bind fun x15 => (ix x4 x11).bind fun x16 => (if x15.2.1 ≠ x16.2.1 then some true else (ix x3 x11).bind fun x17 => (ix x4 x11).bind fun x18 => some (decide (x17.2.2 ≠ x18.2.2))))).bind fun x12 => (if x12 = true then some (.inr (.inr false)) else some (.inl (Dz (x11 + 1)))) else some (.inr (.inl ())))
noncomputable def CY (x19 : (List (Int × Int))) (x20 : (List (Int × Int))) : Int → Option (Int ⊕ (Unit ⊕ Bool))
  | x21 => (if x21 < (x20.length : Int) then ((ix x19 x21).bind fun x23 => (ix x20 x21).bind fun x24 => (if x23.1 ≠ x24.1 then some true else (ix x19 x21).bind fun x25 => (ix x20 x21).bind fun x26 => some (decide (x25.2 ≠ x26.2)))).bind fun x22 => (if x22 = true then some (.inr (.inr false)) else some (.inl (Dz (x21 + 1)))) else some (.inr (.inl ())))
noncomputable def Cy (p2 : List (Int × Int × Int × Int × Int × Int)) : (Bool × Int) → Option ((Bool × Int) ⊕ Bool)
  | (x28, x29) => (if x29 < (p2.length : Int) then (if x28 = true then some (.inl (true, Dz (x29 + 1))) else (ix p2 x29).bind fun x30 => (if x30.1 = 12 then (ix p2 x29).bind fun x31 => some (.inl (decide (0 ≤ x31.2.2.2.1), Dz (x29 + 1))) else some (.inl (false, Dz (x29 + 1))))) else some (.inr x28))
noncomputable def EF (p0 : Int × (List (Int × Int × Int × Int × Int × Int)) × (List (Int × Int))) (p1 : List (List (List Int))) (p2 : List (Int × Int × Int × Int × Int × Int)) (p3 : Int) : Option Bool := (Gn p0 p1 p2).bind fun x1 => (if (!x1) = true then (EQ).bind fun x2 => some x2 else (CZ p2).bind fun x3 => (Eb p2).bind fun x4 => (if (x3.length : Int) ≠ (x4.length : Int) then some true else (D2 p2 p3).bind fun x6 => (DJ p2 p3).bind fun x7 => (if x6 ≠ x7 then some true else (D3 p2 p3).bind fun x8 => (DO p2 p3).bind fun x9 => (if x8 ≠ x9 then some true else (GL p3).bind fun x10 => some (decide ((CJ p3) ≠ x10))))).bind fun x5 => (if x5 = true then some false else D6 (AM (CX x3 x4) 0) fun _ => (C1 p0 p1 p2).bind fun x19 => (Gk p0 p1 p2).bind fun x20 => (if (x19.length : Int) ≠ (x20.length : Int) then some false else D6 (AM (CY x19 x20) 0) fun _ => (AM (Cy p2) (false, 0)).bind fun x27 => ((D1 p2).bind fun x33 => (if x33 = x27 then (EQ).bind fun x34 => some x34 else some false)).bind fun x32 => some x32)))
theorem Ic (Y : Nat → Prop) (w0 : World) (v1 : Value) (v2 : Value) (v3 : Value) (v4 : Value) (p0 : Int × (List (Int × Int × Int × Int × Int × Int)) × (List (Int × Int))) (p1 : List (List (List Int))) (p2 : List (Int × Int × Int × Int × Int × Int)) (p3 : Int) (r : Bool) (H : EF p0 p1 p2 p3 = some r) (h_v1 : Sl w0 (NX []) C8 v1 p0.2.1) (h_v2 : Sl w0 (NX []) EL v2 p0.2.2) (h_v3 : Sl w0 (NX []) (Rp.slice (Rp.slice (Rp.int .i64))) v3 p1) (h_v4 : Sl w0 (NX []) Ej v4 p2) :
    Calls Try.prog 3 #[.agg #[.int .i64 p0.1, v1, v2], v3, v4, .int .i64 p3] w0 fun e w' => e = .returned (.bool r) ∧ Below w0.heap.size w0 w' := by
 refine enter Try.func3 Aa Try.ntmps3 Aa fun a F => ?_
 have W := Stw.start Y w0
 obtain ⟨v5, h1, h_v3⟩ := h_v3.ex Hw
 unfold EF at H
 refine Ai (Ac ?_)
 refine B9 (cs := [.int .i64 p0.1, v1, v2]) F W Aa Aa Aa fun b1 a w F W => ?_
 refine ls F W Aa (Ah F Aa).q fun a w F W => ?_
 refine Ad (Ab (Ai (Ai (Ac ?_))))
 refine ls F W Aa (Am (v := Value.agg #[.int .i64 p0.1, v1, v2]) 0 F Aa Aa HW Aa).q fun a w F W => ?_
 iterate 2 refine ls F W Aa (Ag F Aa).q fun a w F W => ?_
 obtain ⟨x1, h2, H⟩ := An H
 refine ls F W Aa (Bl (v := Value.bool x1) F H7 Aa (fun w W => KZ any w (v1) (v2) (v3) (v4) p0 p1 p2 _ h2 (((Aj h_v1) : CH _ _ _ _ _ _) w W).nx (((Aj h_v2) : CH _ _ _ _ _ _) w W).nx (((BA Hw h1 (Aj h_v3)) : CH _ _ _ _ _ _) w W).nx (((Aj h_v4) : CH _ _ _ _ _ _) w W).nx)) fun a w F W => ?_
 refine ls F W Aa (E5 F Aa).q fun a w F W => ?_
 refine Ad (Ab ?_)
 refine Ax F Aa (fun hb => ?_) fun hb => ?_
 ·
  have H := AK hb H
  rw [hb] at F
  clear hb
  refine Ai (Ac ?_)
  obtain ⟨x2, h3, H⟩ := An H
  refine ls F W Aa (Bl (v := Value.bool x2) F H8 Aa (fun w W => Iv any w _ h3)) fun a w F W => ?_
  refine ls F W Aa (Ah F Aa).q fun a w F W => ?_
  refine Ad (Ab (AA (AD ?_)))
  have H := AN H
  subst H
  refine AW (.inl Aa) F W Aa (As F Aa) ?_
  exact ⟨rfl, W.done⟩
 have H := AL (by rw [hb]; decide) H
 rw [hb] at F
 clear hb
 refine Ap (Ab (Ai (Ac ?_)))
 refine ls F W Aa (Ag F Aa).q fun a w F W => ?_
 obtain ⟨x3, h4, H⟩ := An H
 refine BW (Ml := []) (Zl := []) (M := [(b1, [.int .i64 p0.1, v1, v2])]) (Z := []) (β := Value) (rv := fun x => x) (MM := fun x => []) (ZZ := fun x => [row x 38 CG x3]) F W H9 Aa Aa (fun hL => GR _ w (v4) p2 _ h4 ((Aj h_v4) w W).nx) fun x a w F W => ?_
 obtain ⟨v6, rfl⟩ : ∃ y, y = x := ⟨x, rfl⟩
 have W : Stw ⟨Y, [], w0⟩ [(b1, [.int .i64 p0.1, v1, v2])] [row v6 38 CG x3] w := W
 refine ls F W Aa (Ag F Aa).q fun a w F W => ?_
 obtain ⟨x4, h5, H⟩ := An H
 refine BW (Ml := []) (Zl := []) (M := [(b1, [.int .i64 p0.1, v1, v2])]) (Z := [row v6 38 CG x3]) (β := Value) (rv := fun x => x) (MM := fun x => []) (ZZ := fun x => [row x 39 E9 x4]) F W Qg Aa Aa (fun hL => Gs _ w (v4) p2 _ h5 ((Aj h_v4) w W).nx) fun x a w F W => ?_
 obtain ⟨v7, rfl⟩ : ∃ y, y = x := ⟨x, rfl⟩
 have W : Stw ⟨Y, [], w0⟩ [(b1, [.int .i64 p0.1, v1, v2])] [row v7 39 E9 x4, row v6 38 CG x3] w := W
 iterate 2 refine ls F W Aa (Ah F Aa).q fun a w F W => ?_
 refine Ad (Ab (Ai ?_))
 obtain ⟨o1, G1, K1⟩ := An H
 refine AB (fun a w => ∃ x5 : Bool, some (x5) = some o1 ∧ Fr 173 [] [(1, v3), (2, v4), (4, .pointer (some ⟨b1, 0, none⟩)), (8, .bool false), (9, v6), (10, v7), (56, .bool x5)] a ∧ Stw ⟨Y, [], w0⟩ [(b1, [.int .i64 p0.1, v1, v2])] [row v6 38 CG x3, row v7 39 E9 x4] w) ?_ ?_
 ·
  have H := G1
  clear G1 K1
  refine Ac ?_
  refine ls F W Aa (Ag F Aa).q fun a w F W => ?_
  refine ls F W Aa (A6 (r := CG) (l := x3) N4 Aa F Aa (AE 1 Aa)).q fun a w F W => ?_
  refine ls F W Aa (Ag F Aa).q fun a w F W => ?_
  refine ls F W Aa (A6 (r := E9) (l := x4) NG Aa F Aa (AE 0 Aa)).q fun a w F W => ?_
  refine ls F W Aa (Dx F Aa Aa).q fun a w F W => ?_
  refine ls F W Aa (Ag F Aa).q fun a w F W => ?_
  rcases Bool.eq_false_or_eq_true (decide ((x3.length : Int) ≠ (x4.length : Int))) with hb | hb
  ·
   have H := AK (Bd hb) H
   rw [hb] at F
   clear hb
   iterate 7 refine B4 F Aa Aa Aa Aa Aa Aa Aa fun a F => ?_
   refine ls F W Aa (Ao F Aa Aa Aa).q fun a w F W => ?_
   refine ls F W Aa (Ag F Aa).q fun a w F W => ?_
   iterate 7 refine B4 F Aa Aa Aa Aa Aa Aa Aa fun a F => ?_
   refine ls F W Aa (Ao F Aa Aa Aa).q fun a w F W => ?_
   refine ls F W Aa (Ag F Aa).q fun a w F W => ?_
   iterate 5 refine B4 F Aa Aa Aa Aa Aa Aa Aa fun a F => ?_
   refine ls F W Aa (Ao F Aa Aa Aa).q fun a w F W => ?_
   refine Ad (Ab ?_)
   have W := W.frontZ (i := 1) Aa Aa
   exact ⟨_, H, F.re ⟨rfl, Aa, Aa, Aa, Aa, Aa, Aa, trivial⟩, W⟩
  have H := AL (Bc hb) H
  rw [hb] at F
  clear hb
  iterate 2 refine Ay F W (Ae F Aa Aa Aa Aa) Aa (Ak Aa) (Ag F Aa).q fun a w F W => ?_
  refine Jv (Ae F Aa Aa Aa Aa) ?_
  obtain ⟨x6, h6, H⟩ := An H
  refine ls F W Aa (Bl (v := Value.bool x6) F RI Aa (fun w W => IQ any w (v4) p2 p3 _ h6 (((Aj h_v4) : CH _ _ _ _ _ _) w W).nx)) fun a w F W => ?_
  iterate 2 refine Ay F W (Ae F Aa Aa Aa Aa) Aa (Ak Aa) (Ag F Aa).q fun a w F W => ?_
  refine Jv (Ae F Aa Aa Aa Aa) ?_
  obtain ⟨x7, h7, H⟩ := An H
  refine ls F W Aa (Bl (v := Value.bool x7) F QG Aa (fun w W => Hk any w (v4) p2 p3 _ h7 (((Aj h_v4) : CH _ _ _ _ _ _) w W).nx)) fun a w F W => ?_
  refine Ay F W (Ae F Aa Aa Aa Aa) Aa (Ak Aa) (PQ QP F Aa Aa).q fun a w F W => ?_
  refine ls F W Aa (Av F Aa Aa Aa).q fun a w F W => ?_
  refine ls F W Aa (Ag F Aa).q fun a w F W => ?_
  rcases Bool.eq_false_or_eq_true (decide (x6 ≠ x7)) with hb | hb
  ·
   have H := AK (Bd hb) H
   rw [hb] at F
   clear hb
   iterate 7 refine B4 F Aa Aa Aa Aa Aa Aa Aa fun a F => ?_
   refine ls F W Aa (Ao F Aa Aa Aa).q fun a w F W => ?_
   refine ls F W Aa (Ag F Aa).q fun a w F W => ?_
   iterate 5 refine B4 F Aa Aa Aa Aa Aa Aa Aa fun a F => ?_
   refine ls F W Aa (Ao F Aa Aa Aa).q fun a w F W => ?_
   refine Ad (Ab ?_)
   have W := W.frontZ (i := 1) Aa Aa
   exact ⟨_, H, F.re ⟨rfl, Aa, Aa, Aa, Aa, Aa, Aa, trivial⟩, W⟩
  have H := AL (Bc hb) H
  rw [hb] at F
  clear hb
  iterate 2 refine Ay F W (Ae F Aa Aa Aa Aa) Aa (Ak Aa) (Ag F Aa).q fun a w F W => ?_
  refine Jv (Ae F Aa Aa Aa Aa) ?_
  obtain ⟨x8, h8, H⟩ := An H
  refine ls F W Aa (Bl (v := Value.int .i64 x8) F Q7 Aa (fun w W => IC any w (v4) p2 p3 _ h8 (((Aj h_v4) : CH _ _ _ _ _ _) w W).nx)) fun a w F W => ?_
  iterate 2 refine Ay F W (Ae F Aa Aa Aa Aa) Aa (Ak Aa) (Ag F Aa).q fun a w F W => ?_
  refine Jv (Ae F Aa Aa Aa Aa) ?_
  obtain ⟨x9, h9, H⟩ := An H
  refine ls F W Aa (Bl (v := Value.int .i64 x9) F QX Aa (fun w W => He any w (v4) p2 p3 _ h9 (((Aj h_v4) : CH _ _ _ _ _ _) w W).nx)) fun a w F W => ?_
  refine Ay F W (Ae F Aa Aa Aa Aa) Aa (Ak Aa) (Dx F Aa Aa).q fun a w F W => ?_
  refine ls F W Aa (Av F Aa Aa Aa).q fun a w F W => ?_
  refine ls F W Aa (Ag F Aa).q fun a w F W => ?_
  rcases Bool.eq_false_or_eq_true (decide (x8 ≠ x9)) with hb | hb
  ·
   have H := AK (Bd hb) H
   rw [hb] at F
   clear hb
   iterate 5 refine B4 F Aa Aa Aa Aa Aa Aa Aa fun a F => ?_
   refine ls F W Aa (Ao F Aa Aa Aa).q fun a w F W => ?_
   refine Ad (Ab ?_)
   have W := W.frontZ (i := 1) Aa Aa
   exact ⟨_, H, F.re ⟨rfl, Aa, Aa, Aa, Aa, Aa, Aa, trivial⟩, W⟩
  have H := AL (Bc hb) H
  rw [hb] at F
  clear hb
  refine Ay F W (Ae F Aa Aa Aa Aa) Aa (Ak Aa) (Ag F Aa).q fun a w F W => ?_
  refine Jv (Ae F Aa Aa Aa Aa) ?_
  refine ls F W Aa (Bl (v := Value.string (bs (CJ p3))) F QU Aa (fun w W => HP any w p3 _ Aa)) fun a w F W => ?_
  refine Ay F W (Ae F Aa Aa Aa Aa) Aa (Ak Aa) (Ag F Aa).q fun a w F W => ?_
  refine Jv (Ae F Aa Aa Aa Aa) ?_
  obtain ⟨x10, h10, H⟩ := An H
  refine ls F W Aa (Bl (v := Value.string (bs x10)) F Rs Aa (fun w W => LT any w p3 _ h10)) fun a w F W => ?_
  refine Ay F W (Ae F Aa Aa Aa Aa) Aa (Ak Aa) (PN (l := (CJ p3)) (m := x10) F Aa Aa).q fun a w F W => ?_
  refine ls F W Aa (Av F Aa Aa Aa).q fun a w F W => ?_
  refine Ad (Ab ?_)
  have W := W.frontZ (i := 1) Aa Aa
  exact ⟨_, H, F.re ⟨rfl, Aa, Aa, Aa, Aa, Aa, Aa, trivial⟩, W⟩
 rintro a w ⟨x5, hj, F, W⟩
 have hj := AN hj
 subst hj
 have H := K1
 clear G1 K1
 refine Ax F Aa (fun hb => ?_) fun hb => ?_
 ·
  have H := AK hb H
  rw [hb] at F
  clear hb
  refine Ai (Ac ?_)
  refine ls F W Aa (Ah F Aa).q fun a w F W => ?_
  refine Ad (Ab (AA (AD ?_)))
  have H := AN H
  subst H
  refine AW (.inl Aa) F W Aa (As F Aa) ?_
  exact ⟨rfl, W.done⟩
 have H := AL (by rw [hb]; decide) H
 rw [hb] at F
 clear hb
 refine Ap (Ab ?_)
 obtain ⟨o2, G2, K2, L2⟩ := H4 H
 refine AB (fun a w => some (Sum.inl ()) = some o2 ∧ Fr 173 [] [(1, v3), (2, v4), (4, .pointer (some ⟨b1, 0, none⟩)), (8, .bool false)] a ∧ Stw ⟨Y, [], w0⟩ [(b1, [.int .i64 p0.1, v1, v2])] [] w) ?_ ?_
 ·
  have H := G2
  clear G2 K2
  refine Ai (Ac ?_)
  refine ls F W Aa (Ah F Aa).q fun a w F W => ?_
  refine Ad (Ab (Au ?_))
  have W := W.frontZ (i := 1) Aa Aa
  have W := W.frontZ (i := 1) Aa Aa
  refine Bf H (fun s a w => Fr 173 [] [(1, v3), (2, v4), (4, .pointer (some ⟨b1, 0, none⟩)), (8, .bool false), (9, v6), (10, v7), (11, .int .i64 s)] a ∧ Stw ⟨Y, [], w0⟩ [(b1, [.int .i64 p0.1, v1, v2])] [row v6 38 CG x3, row v7 39 E9 x4] w) ⟨F.re ⟨rfl, Aa, Aa, Aa, Aa, Aa, Aa, trivial⟩, W⟩ fun s o a w H L3 hR => ?_
  obtain ⟨x11, rfl⟩ : ∃ x, x = s := ⟨s, rfl⟩
  obtain ⟨F, W⟩ := hR
  have F : Fr 173 [] [(1, v3), (2, v4), (4, .pointer (some ⟨b1, 0, none⟩)), (8, .bool false), (9, v6), (10, v7), (11, .int .i64 x11)] a := F
  have W : Stw ⟨Y, [], w0⟩ [(b1, [.int .i64 p0.1, v1, v2])] [row v6 38 CG x3, row v7 39 E9 x4] w := W
  rw [CX] at H
  refine Ai (Ai (Ac ?_))
  iterate 2 refine ls F W Aa (Ag F Aa).q fun a w F W => ?_
  refine ls F W Aa (A6 (r := E9) (l := x4) NG Aa F Aa (AE 1 Aa)).q fun a w F W => ?_
  refine ls F W Aa (Bi F Aa Aa).q fun a w F W => ?_
  refine Ad (Ab ?_)
  refine Ax F Aa (fun hb => ?_) fun hb => ?_
  ·
   have H := AK (Bd hb) H
   rw [hb] at F
   clear hb
   refine Ap (Ab (Ai (Au ?_)))
   obtain ⟨o4, G4, K4⟩ := An H
   refine AB (fun a w => ∃ x12 : Bool, some (x12) = some o4 ∧ Fr 173 [] [(1, v3), (2, v4), (4, .pointer (some ⟨b1, 0, none⟩)), (8, .bool false), (9, v6), (10, v7), (11, .int .i64 x11), (99, .bool x12)] a ∧ Stw ⟨Y, [], w0⟩ [(b1, [.int .i64 p0.1, v1, v2])] [row v6 38 CG x3, row v7 39 E9 x4] w) ?_ ?_
   ·
    have H := G4
    clear G4 K4
    refine BE W MO (by kernel_rfl) ?_
    iterate 2 refine qs F Aa (Ag F Aa).q fun a F => ?_
    obtain ⟨x13, h11, H⟩ := An H
    refine qs F Aa (Az (r := CG) Nt F Aa Aa (AE 0 Aa) h11).q fun a F => ?_
    refine qs F Aa (Af KO Aa Aa Aa T3 F Aa (Cb v6 + (x11).toNat * 3) Aa).q fun a F => ?_
    refine qs F Aa (Aq (y := Value.int .i64 x13.1) (j := 0) (i := x11) F Aa Aa (AE 0 Aa) h11 N9.to T3 Aa).q fun a F => ?_
    iterate 2 refine qs F Aa (Ag F Aa).q fun a F => ?_
    obtain ⟨x14, h12, H⟩ := An H
    refine qs F Aa (Az (r := E9) Oe F Aa Aa (AE 1 Aa) h12).q fun a F => ?_
    refine qs F Aa (Af IH Aa Aa Aa T3 F Aa (Cb v7 + (x11).toNat * 3) Aa).q fun a F => ?_
    refine qs F Aa (Aq (y := Value.int .i64 x14.1) (j := 0) (i := x11) F Aa Aa (AE 1 Aa) h12 OS.to T3 Aa).q fun a F => ?_
    refine qs F Aa (Dx F Aa Aa).q fun a F => ?_
    refine qs F Aa (Ag F Aa).q fun a F => ?_
    rcases Bool.eq_false_or_eq_true (decide (x13.1 ≠ x14.1)) with hb | hb
    ·
     have H := AK (Bd hb) H
     rw [hb] at F
     clear hb
     iterate 11 refine Dn F (CD F Aa Aa Aa Aa Aa) Aa Aa fun a F => ?_
     refine qs F Aa (Ao F Aa Aa Aa).q fun a F => ?_
     refine qs F Aa (Ag F Aa).q fun a F => ?_
     iterate 11 refine Dn F (CD F Aa Aa Aa Aa Aa) Aa Aa fun a F => ?_
     refine qs F Aa (Ao F Aa Aa Aa).q fun a F => ?_
     refine AX fun w W => ?_
     refine Ab ?_
     have W := W.frontZ (i := 1) Aa Aa
     have W := W.frontZ (i := 1) Aa Aa
     exact ⟨_, H, F.re ⟨rfl, Aa, Aa, Aa, Aa, Aa, Aa, Aa, trivial⟩, W⟩
    have H := AL (Bc hb) H
    rw [hb] at F
    clear hb
    iterate 2 refine Bu F (Ae F Aa Aa Aa Aa) Aa (Ak Aa) (Ag F Aa).q fun a F => ?_
    obtain ⟨x15, h13, H⟩ := An H
    refine Bu F (Ae F Aa Aa Aa Aa) Aa (Ak Aa) (Az (r := CG) Nt F Aa Aa (AE 0 Aa) h13).q fun a F => ?_
    refine Bu F (Ae F Aa Aa Aa Aa) Aa (Ak Aa) (Af KO Aa Aa Aa T3 F Aa (Cb v6 + (x11).toNat * 3 + 1) Aa).q fun a F => ?_
    refine Bu F (Ae F Aa Aa Aa Aa) Aa (Ak Aa) (Aq (y := Value.int .i64 x15.2.1) (j := 1) (i := x11) F Aa Aa (AE 0 Aa) h13 N9.to T3 Aa).q fun a F => ?_
    iterate 2 refine Bu F (Ae F Aa Aa Aa Aa) Aa (Ak Aa) (Ag F Aa).q fun a F => ?_
    obtain ⟨x16, h14, H⟩ := An H
    refine Bu F (Ae F Aa Aa Aa Aa) Aa (Ak Aa) (Az (r := E9) Oe F Aa Aa (AE 1 Aa) h14).q fun a F => ?_
    refine Bu F (Ae F Aa Aa Aa Aa) Aa (Ak Aa) (Af IH Aa Aa Aa T3 F Aa (Cb v7 + (x11).toNat * 3 + 1) Aa).q fun a F => ?_
    refine Bu F (Ae F Aa Aa Aa Aa) Aa (Ak Aa) (Aq (y := Value.int .i64 x16.2.1) (j := 1) (i := x11) F Aa Aa (AE 1 Aa) h14 OS.to T3 Aa).q fun a F => ?_
    refine Bu F (Ae F Aa Aa Aa Aa) Aa (Ak Aa) (Dx F Aa Aa).q fun a F => ?_
    refine qs F Aa (Av F Aa Aa Aa).q fun a F => ?_
    refine qs F Aa (Ag F Aa).q fun a F => ?_
    rcases Bool.eq_false_or_eq_true (decide (x15.2.1 ≠ x16.2.1)) with hb | hb
    ·
     have H := AK (Bd hb) H
     rw [hb] at F
     clear hb
     iterate 11 refine Dn F (CD F Aa Aa Aa Aa Aa) Aa Aa fun a F => ?_
     refine qs F Aa (Ao F Aa Aa Aa).q fun a F => ?_
     refine AX fun w W => ?_
     refine Ab ?_
     have W := W.frontZ (i := 1) Aa Aa
     have W := W.frontZ (i := 1) Aa Aa
     exact ⟨_, H, F.re ⟨rfl, Aa, Aa, Aa, Aa, Aa, Aa, Aa, trivial⟩, W⟩
    have H := AL (Bc hb) H
    rw [hb] at F
    clear hb
    iterate 2 refine Bu F (Ae F Aa Aa Aa Aa) Aa (Ak Aa) (Ag F Aa).q fun a F => ?_
    obtain ⟨x17, h15, H⟩ := An H
    refine Bu F (Ae F Aa Aa Aa Aa) Aa (Ak Aa) (Az (r := CG) Nt F Aa Aa (AE 0 Aa) h15).q fun a F => ?_
    refine Bu F (Ae F Aa Aa Aa Aa) Aa (Ak Aa) (Af KO Aa Aa Aa T3 F Aa (Cb v6 + (x11).toNat * 3 + 2) Aa).q fun a F => ?_
    refine Bu F (Ae F Aa Aa Aa Aa) Aa (Ak Aa) (Aq (y := Value.int .i64 x17.2.2) (j := 2) (i := x11) F Aa Aa (AE 0 Aa) h15 N9.to T3 Aa).q fun a F => ?_
    iterate 2 refine Bu F (Ae F Aa Aa Aa Aa) Aa (Ak Aa) (Ag F Aa).q fun a F => ?_
    obtain ⟨x18, h16, H⟩ := An H
    refine Bu F (Ae F Aa Aa Aa Aa) Aa (Ak Aa) (Az (r := E9) Oe F Aa Aa (AE 1 Aa) h16).q fun a F => ?_
    refine Bu F (Ae F Aa Aa Aa Aa) Aa (Ak Aa) (Af IH Aa Aa Aa T3 F Aa (Cb v7 + (x11).toNat * 3 + 2) Aa).q fun a F => ?_
    refine Bu F (Ae F Aa Aa Aa Aa) Aa (Ak Aa) (Aq (y := Value.int .i64 x18.2.2) (j := 2) (i := x11) F Aa Aa (AE 1 Aa) h16 OS.to T3 Aa).q fun a F => ?_
    refine Bu F (Ae F Aa Aa Aa Aa) Aa (Ak Aa) (Dx F Aa Aa).q fun a F => ?_
    refine qs F Aa (Av F Aa Aa Aa).q fun a F => ?_
    refine AX fun w W => ?_
    refine Ab ?_
    have W := W.frontZ (i := 1) Aa Aa
    have W := W.frontZ (i := 1) Aa Aa
    exact ⟨_, H, F.re ⟨rfl, Aa, Aa, Aa, Aa, Aa, Aa, Aa, trivial⟩, W⟩
   rintro a w ⟨x12, hj, F, W⟩
   have hj := AN hj
   subst hj
   have H := K4
   clear G4 K4
   refine Ax F Aa (fun hb => ?_) fun hb => ?_
   ·
    have H := AK hb H
    rw [hb] at F
    clear hb
    refine Ai (Ac ?_)
    refine ls F W Aa (Ah F Aa).q fun a w F W => ?_
    refine Ad (Ab (AA (AH ?_)))
    iterate 2 refine AD ?_
    refine AH (AD ?_)
    have H := L3 _ H
    have H := L2 _ H
    have H := AN H
    subst H
    refine AW (.inl Aa) F W Aa (As F Aa) ?_
    exact ⟨rfl, W.done⟩
   have H := AL (by rw [hb]; decide) H
   rw [hb] at F
   clear hb
   refine Ap (AF (Ab (Ac ?_)))
   refine ls F W Aa (Ag F Aa).q fun a w F W => ?_
   refine ls F W Aa (BS F Aa Aa Aa).q fun a w F W => ?_
   refine ls F W Aa (Ah F Aa).q fun a w F W => ?_
   refine Ad (Ab ?_)
   have W := W.frontZ (i := 1) Aa Aa
   have W := W.frontZ (i := 1) Aa Aa
   exact ⟨_, H, F.re ⟨rfl, Aa, Aa, Aa, Aa, Aa, Aa, trivial⟩, W⟩
  have H := AL (Bc hb) H
  rw [hb] at F
  clear hb
  refine A8 ?_
  iterate 2 refine Bk ?_
  refine A9 (Ab ?_)
  have W := W.sub (M' := [(b1, [.int .i64 p0.1, v1, v2])]) (Z' := []) (List.Sublist.refl _) (List.nil_sublist _)
  have H := L3 _ H
  exact ⟨H, F.re ⟨rfl, Aa, Aa, Aa, trivial⟩, W⟩
 rintro a w ⟨hj, F, W⟩
 have H := K2 _ hj
 clear hj G2 K2 L2
 refine Ai ?_
 refine FL [(true, 0), (true, 1), (true, 2), (true, 4), (true, 5), (true, 6), (false, 3), (false, 7), (false, 8), (false, 9)] (CN ⟨Y, [], w0⟩ [(some 3, b1, [.int .i64 p0.1, v1, v2]), (some 7, b1, [.int .i64 p0.1, v1, v2])] []) (fun ch a d v w h => by cases d <;> exact h) MO (by kernel_rfl) W (fun w W => ⟨_, _, W, (all_cons (fun _ => (.head _)) (all_cons (fun _ => (.head _)) AQ)), AQ⟩) fun w W => ?_
 refine BR (R := [3]) F Aa Aa (yC fun M Z hN hZ => Cl (cs := [.int .i64 p0.1, v1, v2]) (v := Value.agg #[.int .i64 p0.1, v1, v2]) F Aa (hN ((some 3), b1, [.int .i64 p0.1, v1, v2]) (.head _) Aa) HW Aa) (by kernel_rfl) Aa fun a F => ?_
 iterate 2 refine BR (R := []) F Aa Aa (yC fun M Z hN hZ => Ag F Aa) Aa Aa fun a F => ?_
 refine BR (R := [7]) F Aa Aa (yC fun M Z hN hZ => Cl (cs := [.int .i64 p0.1, v1, v2]) (v := Value.agg #[.int .i64 p0.1, v1, v2]) F Aa (hN ((some 7), b1, [.int .i64 p0.1, v1, v2]) (.tail _ (.head _)) Aa) HW Aa) (by kernel_rfl) Aa fun a F => ?_
 iterate 2 refine BR (R := []) F Aa Aa (yC fun M Z hN hZ => Ag F Aa) Aa Aa fun a F => ?_
 refine FE Aa ?_
 obtain ⟨x19, h17, H⟩ := An H
 refine BW (Ml := []) (Zl := []) (M := [(b1, [.int .i64 p0.1, v1, v2])]) (Z := []) (β := Value) (rv := fun x => x) (MM := fun x => []) (ZZ := fun x => [row x 45 E2 x19]) F W Qz Aa Aa (fun hL => Gc _ w (v1) (v2) (v3) (v4) p0 p1 p2 _ h17 ((Aj h_v1) w W).nx ((Aj h_v2) w W).nx ((BA Hw h1 (Aj h_v3)) w W).nx ((Aj h_v4) w W).nx) fun x a w F W => ?_
 obtain ⟨v8, rfl⟩ : ∃ y, y = x := ⟨x, rfl⟩
 have W : Stw ⟨Y, [], w0⟩ [(b1, [.int .i64 p0.1, v1, v2])] [row v8 45 E2 x19] w := W
 refine Ce (N2 := []) (NZ2 := []) (N3 := [(some 3, b1, [.int .i64 p0.1, v1, v2]), (some 7, b1, [.int .i64 p0.1, v1, v2])]) (NZ3 := []) W Aa Aa (all_cons (fun h => Ba (by kernel_rfl) h) (all_cons (fun _ => (.head _)) AQ)) AQ ?_
 refine FE Aa ?_
 obtain ⟨x20, h18, H⟩ := An H
 refine BW (Ml := []) (Zl := []) (M := [(b1, [.int .i64 p0.1, v1, v2])]) (Z := [row v8 45 E2 x19]) (β := Value) (rv := fun x => x) (MM := fun x => []) (ZZ := fun x => [row x 46 FS x20]) F W R7 Aa Aa (fun hL => KX _ w (v1) (v2) (v3) (v4) p0 p1 p2 _ h18 ((Aj h_v1) w W).nx ((Aj h_v2) w W).nx ((BA Hw h1 (Aj h_v3)) w W).nx ((Aj h_v4) w W).nx) fun x a w F W => ?_
 obtain ⟨v9, rfl⟩ : ∃ y, y = x := ⟨x, rfl⟩
 have W : Stw ⟨Y, [], w0⟩ [(b1, [.int .i64 p0.1, v1, v2])] [row v9 46 FS x20, row v8 45 E2 x19] w := W
 refine Ce (N2 := []) (NZ2 := []) (N3 := [(some 3, b1, [.int .i64 p0.1, v1, v2]), (some 7, b1, [.int .i64 p0.1, v1, v2])]) (NZ3 := []) W Aa Aa (all_cons (fun h => Ba (by kernel_rfl) h) (all_cons (fun h => Ba (by kernel_rfl) h) AQ)) AQ ?_
 refine FE Aa ?_
 refine ls F W Aa (Ah F Aa).q fun a w F W => ?_
 refine Ce (N2 := []) (NZ2 := []) (N3 := [(some 3, b1, [.int .i64 p0.1, v1, v2]), (some 7, b1, [.int .i64 p0.1, v1, v2])]) (NZ3 := []) W Aa Aa (all_cons (fun h => Ba (by kernel_rfl) h) (all_cons (fun h => Ba (by kernel_rfl) h) AQ)) AQ ?_
 refine FE Aa ?_
 refine ls F W Aa (Ah F Aa).q fun a w F W => ?_
 refine Ce (N2 := []) (NZ2 := []) (N3 := [(some 3, b1, [.int .i64 p0.1, v1, v2]), (some 7, b1, [.int .i64 p0.1, v1, v2])]) (NZ3 := []) W Aa Aa (all_cons (fun h => Ba (by kernel_rfl) h) (all_cons (fun h => Ba (by kernel_rfl) h) AQ)) AQ ?_
 refine Hs (Ab (Ai (Ai (Ac ?_))))
 refine ls F W Aa (Ag F Aa).q fun a w F W => ?_
 refine ls F W Aa (A6 (r := E2) (l := x19) OG Aa F Aa (AE 1 Aa)).q fun a w F W => ?_
 refine ls F W Aa (Ag F Aa).q fun a w F W => ?_
 refine ls F W Aa (A6 (r := FS) (l := x20) Pt Aa F Aa (AE 0 Aa)).q fun a w F W => ?_
 refine ls F W Aa (Dx F Aa Aa).q fun a w F W => ?_
 refine Ad (Ab ?_)
 refine Ax F Aa (fun hb => ?_) fun hb => ?_
 ·
  have H := AK (Bd hb) H
  rw [hb] at F
  clear hb
  refine Ai (Ac ?_)
  refine ls F W Aa (Ah F Aa).q fun a w F W => ?_
  refine Ad (Ab (AA (AD ?_)))
  have H := AN H
  subst H
  refine AW (.inl Aa) F W Aa (As F Aa) ?_
  exact ⟨rfl, W.done⟩
 have H := AL (Bc hb) H
 rw [hb] at F
 clear hb
 refine Ap (Ab ?_)
 obtain ⟨o5, G5, K5, L5⟩ := H4 H
 refine AB (fun a w => some (Sum.inl ()) = some o5 ∧ Fr 173 [] [(2, v4), (8, .bool false)] a ∧ Stw ⟨Y, [], w0⟩ [(b1, [.int .i64 p0.1, v1, v2])] [] w) ?_ ?_
 ·
  have H := G5
  clear G5 K5
  refine Ai (Ac ?_)
  refine ls F W Aa (Ah F Aa).q fun a w F W => ?_
  refine Ad (Ab (Au ?_))
  have W := W.frontZ (i := 1) Aa Aa
  refine Bf H (fun s a w => Fr 173 [] [(2, v4), (8, .bool false), (12, v8), (13, v9), (14, .int .i64 s)] a ∧ Stw ⟨Y, [], w0⟩ [(b1, [.int .i64 p0.1, v1, v2])] [row v8 45 E2 x19, row v9 46 FS x20] w) ⟨F.re ⟨rfl, Aa, Aa, Aa, Aa, trivial⟩, W⟩ fun s o a w H L6 hR => ?_
  obtain ⟨x21, rfl⟩ : ∃ x, x = s := ⟨s, rfl⟩
  obtain ⟨F, W⟩ := hR
  have F : Fr 173 [] [(2, v4), (8, .bool false), (12, v8), (13, v9), (14, .int .i64 x21)] a := F
  have W : Stw ⟨Y, [], w0⟩ [(b1, [.int .i64 p0.1, v1, v2])] [row v8 45 E2 x19, row v9 46 FS x20] w := W
  rw [CY] at H
  refine Ai (Ai (Ac ?_))
  iterate 2 refine ls F W Aa (Ag F Aa).q fun a w F W => ?_
  refine ls F W Aa (A6 (r := FS) (l := x20) Pt Aa F Aa (AE 1 Aa)).q fun a w F W => ?_
  refine ls F W Aa (Bi F Aa Aa).q fun a w F W => ?_
  refine Ad (Ab ?_)
  refine Ax F Aa (fun hb => ?_) fun hb => ?_
  ·
   have H := AK (Bd hb) H
   rw [hb] at F
   clear hb
   refine Ap (Ab (Ai (Au ?_)))
   obtain ⟨o7, G7, K7⟩ := An H
   refine AB (fun a w => ∃ x22 : Bool, some (x22) = some o7 ∧ Fr 173 [] [(2, v4), (8, .bool false), (12, v8), (13, v9), (14, .int .i64 x21), (142, .bool x22)] a ∧ Stw ⟨Y, [], w0⟩ [(b1, [.int .i64 p0.1, v1, v2])] [row v8 45 E2 x19, row v9 46 FS x20] w) ?_ ?_
   ·
    have H := G7
    clear G7 K7
    refine BE W MO (by kernel_rfl) ?_
    iterate 2 refine qs F Aa (Ag F Aa).q fun a F => ?_
    obtain ⟨x23, h19, H⟩ := An H
    refine qs F Aa (Az (r := E2) NE F Aa Aa (AE 0 Aa) h19).q fun a F => ?_
    refine qs F Aa (Af Ot Aa Aa Aa T3 F Aa (Cb v8 + (x21).toNat * 2) Aa).q fun a F => ?_
    refine qs F Aa (Aq (y := Value.int .i64 x23.1) (j := 0) (i := x21) F Aa Aa (AE 0 Aa) h19 O3.to T3 Aa).q fun a F => ?_
    iterate 2 refine qs F Aa (Ag F Aa).q fun a F => ?_
    obtain ⟨x24, h20, H⟩ := An H
    refine qs F Aa (Az (r := FS) N7 F Aa Aa (AE 1 Aa) h20).q fun a F => ?_
    refine qs F Aa (Af O4 Aa Aa Aa T3 F Aa (Cb v9 + (x21).toNat * 2) Aa).q fun a F => ?_
    refine qs F Aa (Aq (y := Value.int .i64 x24.1) (j := 0) (i := x21) F Aa Aa (AE 1 Aa) h20 Pz.to T3 Aa).q fun a F => ?_
    refine qs F Aa (Dx F Aa Aa).q fun a F => ?_
    refine qs F Aa (Ag F Aa).q fun a F => ?_
    rcases Bool.eq_false_or_eq_true (decide (x23.1 ≠ x24.1)) with hb | hb
    ·
     have H := AK (Bd hb) H
     rw [hb] at F
     clear hb
     iterate 11 refine Dn F (CD F Aa Aa Aa Aa Aa) Aa Aa fun a F => ?_
     refine qs F Aa (Ao F Aa Aa Aa).q fun a F => ?_
     refine AX fun w W => ?_
     refine Ab ?_
     have W := W.frontZ (i := 1) Aa Aa
     have W := W.frontZ (i := 1) Aa Aa
     exact ⟨_, H, F.re ⟨rfl, Aa, Aa, Aa, Aa, Aa, trivial⟩, W⟩
    have H := AL (Bc hb) H
    rw [hb] at F
    clear hb
    iterate 2 refine Bu F (Ae F Aa Aa Aa Aa) Aa (Ak Aa) (Ag F Aa).q fun a F => ?_
    obtain ⟨x25, h21, H⟩ := An H
    refine Bu F (Ae F Aa Aa Aa Aa) Aa (Ak Aa) (Az (r := E2) NE F Aa Aa (AE 0 Aa) h21).q fun a F => ?_
    refine Bu F (Ae F Aa Aa Aa Aa) Aa (Ak Aa) (Af Ot Aa Aa Aa T3 F Aa (Cb v8 + (x21).toNat * 2 + 1) Aa).q fun a F => ?_
    refine Bu F (Ae F Aa Aa Aa Aa) Aa (Ak Aa) (Aq (y := Value.int .i64 x25.2) (j := 1) (i := x21) F Aa Aa (AE 0 Aa) h21 O3.to T3 Aa).q fun a F => ?_
    iterate 2 refine Bu F (Ae F Aa Aa Aa Aa) Aa (Ak Aa) (Ag F Aa).q fun a F => ?_
    obtain ⟨x26, h22, H⟩ := An H
    refine Bu F (Ae F Aa Aa Aa Aa) Aa (Ak Aa) (Az (r := FS) N7 F Aa Aa (AE 1 Aa) h22).q fun a F => ?_
    refine Bu F (Ae F Aa Aa Aa Aa) Aa (Ak Aa) (Af O4 Aa Aa Aa T3 F Aa (Cb v9 + (x21).toNat * 2 + 1) Aa).q fun a F => ?_
    refine Bu F (Ae F Aa Aa Aa Aa) Aa (Ak Aa) (Aq (y := Value.int .i64 x26.2) (j := 1) (i := x21) F Aa Aa (AE 1 Aa) h22 Pz.to T3 Aa).q fun a F => ?_
    refine Bu F (Ae F Aa Aa Aa Aa) Aa (Ak Aa) (Dx F Aa Aa).q fun a F => ?_
    refine qs F Aa (Av F Aa Aa Aa).q fun a F => ?_
    refine AX fun w W => ?_
    refine Ab ?_
    have W := W.frontZ (i := 1) Aa Aa
    have W := W.frontZ (i := 1) Aa Aa
    exact ⟨_, H, F.re ⟨rfl, Aa, Aa, Aa, Aa, Aa, trivial⟩, W⟩
   rintro a w ⟨x22, hj, F, W⟩
   have hj := AN hj
   subst hj
   have H := K7
   clear G7 K7
   refine Ax F Aa (fun hb => ?_) fun hb => ?_
   ·
    have H := AK hb H
    rw [hb] at F
    clear hb
    refine Ai (Ac ?_)
    refine ls F W Aa (Ah F Aa).q fun a w F W => ?_
    refine Ad (Ab (AA (AH ?_)))
    iterate 2 refine AD ?_
    refine AH (AD ?_)
    have H := L6 _ H
    have H := L5 _ H
    have H := AN H
    subst H
    refine AW (.inl Aa) F W Aa (As F Aa) ?_
    exact ⟨rfl, W.done⟩
   have H := AL (by rw [hb]; decide) H
   rw [hb] at F
   clear hb
   refine Ap (AF (Ab (Ac ?_)))
   refine ls F W Aa (Ag F Aa).q fun a w F W => ?_
   refine ls F W Aa (BS F Aa Aa Aa).q fun a w F W => ?_
   refine ls F W Aa (Ah F Aa).q fun a w F W => ?_
   refine Ad (Ab ?_)
   have W := W.frontZ (i := 1) Aa Aa
   have W := W.frontZ (i := 1) Aa Aa
   exact ⟨_, H, F.re ⟨rfl, Aa, Aa, Aa, Aa, trivial⟩, W⟩
  have H := AL (Bc hb) H
  rw [hb] at F
  clear hb
  refine A8 ?_
  iterate 2 refine Bk ?_
  refine A9 (Ab ?_)
  have W := W.sub (M' := [(b1, [.int .i64 p0.1, v1, v2])]) (Z' := []) (List.Sublist.refl _) (List.nil_sublist _)
  have H := L6 _ H
  exact ⟨H, F.re ⟨rfl, Aa, trivial⟩, W⟩
 rintro a w ⟨hj, F, W⟩
 have H := K5 _ hj
 clear hj G5 K5 L5
 refine Ai (Ac ?_)
 refine ls F W Aa (Ah F Aa).q fun a w F W => ?_
 refine Ad (Ab ?_)
 obtain ⟨o8, G8, K8⟩ := An H
 refine AB (fun a w => ∃ x27 : Bool, some (x27) = some o8 ∧ Fr 173 [] [(2, v4), (8, .bool false), (15, .bool x27)] a ∧ Stw ⟨Y, [], w0⟩ [(b1, [.int .i64 p0.1, v1, v2])] [] w) ?_ ?_
 ·
  have H := G8
  clear G8 K8
  refine Ai (Ac ?_)
  refine ls F W Aa (Ah F Aa).q fun a w F W => ?_
  refine Ad (Ab (Au ?_))
  refine Bf H (fun s a w => Fr 173 [] [(2, v4), (8, .bool false), (15, .bool s.1), (16, .int .i64 s.2)] a ∧ Stw ⟨Y, [], w0⟩ [(b1, [.int .i64 p0.1, v1, v2])] [] w) ⟨F.re ⟨rfl, Aa, Aa, Aa, trivial⟩, W⟩ fun s o a w H L9 hR => ?_
  obtain ⟨x28, x29⟩ := s
  obtain ⟨F, W⟩ := hR
  have F : Fr 173 [] [(2, v4), (8, .bool false), (15, .bool x28), (16, .int .i64 x29)] a := F
  have W : Stw ⟨Y, [], w0⟩ [(b1, [.int .i64 p0.1, v1, v2])] [] w := W
  rw [Cy] at H
  refine Ai (Ai (Ac ?_))
  iterate 2 refine ls F W Aa (Ag F Aa).q fun a w F W => ?_
  refine ls F W Aa (A6 (r := Ej) (l := p2) JE Aa F Aa (Aj h_v4)).q fun a w F W => ?_
  refine ls F W Aa (Bi F Aa Aa).q fun a w F W => ?_
  refine Ad (Ab ?_)
  refine Ax F Aa (fun hb => ?_) fun hb => ?_
  ·
   have H := AK (Bd hb) H
   rw [hb] at F
   clear hb
   refine Ap (Ab (Ai (Au (Ac ?_))))
   iterate 2 refine ls F W Aa (Ag F Aa).q fun a w F W => ?_
   rcases Bool.eq_false_or_eq_true x28 with hb | hb
   ·
    have H := AK hb H
    rw [hb] at F
    clear hb
    iterate 7 refine B4 F Aa Aa Aa Aa Aa Aa Aa fun a F => ?_
    iterate 6 refine Qh F Aa Aa Aa Aa Aa Aa fun a F => ?_
    refine B4 F Aa Aa Aa Aa Aa Aa Aa fun a F => ?_
    refine ls F W Aa (Ao F Aa Aa Aa).q fun a w F W => ?_
    refine ls F W Aa (Ah F Aa).q fun a w F W => ?_
    refine Ad (AF (Ab (Ac ?_)))
    refine ls F W Aa (Ag F Aa).q fun a w F W => ?_
    refine ls F W Aa (BS F Aa Aa Aa).q fun a w F W => ?_
    refine ls F W Aa (Ah F Aa).q fun a w F W => ?_
    refine Ad (Ab ?_)
    exact ⟨_, H, F.re ⟨rfl, Aa, Aa, Aa, trivial⟩, W⟩
   have H := AL (by rw [hb]; decide) H
   rw [hb] at F
   clear hb
   iterate 2 refine Ay F W (Ae F Aa Aa Aa Aa) Aa (Ak Aa) (Ag F Aa).q fun a w F W => ?_
   obtain ⟨x30, h23, H⟩ := An H
   refine Ay F W (Ae F Aa Aa Aa Aa) Aa (Ak Aa) (Az (r := Ej) JK F Aa Aa (Aj h_v4) h23).q fun a w F W => ?_
   refine Ay F W (Ae F Aa Aa Aa Aa) Aa (Ak Aa) (Af Cf Aa Aa Aa T3 F Aa (Cb v4 + (x29).toNat * 6) Aa).q fun a w F W => ?_
   refine Ay F W (Ae F Aa Aa Aa Aa) Aa (Ak Aa) (Aq (y := Value.int .i64 x30.1) (j := 0) (i := x29) F Aa Aa (Aj h_v4) h23 JJ.to T3 Aa).q fun a w F W => ?_
   refine Ay F W (Ae F Aa Aa Aa Aa) Aa (Ak Aa) (Bz F Aa Aa).q fun a w F W => ?_
   refine Ay F W (Ae F Aa Aa Aa Aa) Aa (Ak Aa) (Ag F Aa).q fun a w F W => ?_
   rcases Bool.eq_false_or_eq_true (decide (x30.1 = 12)) with hb | hb
   ·
    have H := AK (Bd hb) H
    rw [hb] at F
    clear hb
    iterate 2 refine Ay F W (Ae F Aa Aa Aa Aa) Aa (Ak Aa) (Ag F Aa).q fun a w F W => ?_
    obtain ⟨x31, h24, H⟩ := An H
    refine Ay F W (Ae F Aa Aa Aa Aa) Aa (Ak Aa) (Az (r := Ej) JK F Aa Aa (Aj h_v4) h24).q fun a w F W => ?_
    refine Ay F W (Ae F Aa Aa Aa Aa) Aa (Ak Aa) (Af Cf Aa Aa Aa T3 F Aa (Cb v4 + (x29).toNat * 6 + 3) Aa).q fun a w F W => ?_
    refine Ay F W (Ae F Aa Aa Aa Aa) Aa (Ak Aa) (Aq (y := Value.int .i64 x31.2.2.2.1) (j := 3) (i := x29) F Aa Aa (Aj h_v4) h24 JJ.to T3 Aa).q fun a w F W => ?_
    refine Ay F W (Ae F Aa Aa Aa Aa) Aa (Ak Aa) (DH F Aa Aa).q fun a w F W => ?_
    refine Ay F W (Ae F Aa Aa Aa Aa) Aa (Ak Aa) (Ao F Aa Aa Aa).q fun a w F W => ?_
    refine ls F W Aa (Av F Aa Aa Aa).q fun a w F W => ?_
    refine ls F W Aa (Ah F Aa).q fun a w F W => ?_
    refine Ad (AF (Ab (Ac ?_)))
    refine ls F W Aa (Ag F Aa).q fun a w F W => ?_
    refine ls F W Aa (BS F Aa Aa Aa).q fun a w F W => ?_
    refine ls F W Aa (Ah F Aa).q fun a w F W => ?_
    refine Ad (Ab ?_)
    exact ⟨_, H, F.re ⟨rfl, Aa, Aa, Aa, trivial⟩, W⟩
   have H := AL (Bc hb) H
   rw [hb] at F
   clear hb
   iterate 6 refine B4 F Aa Aa Aa Aa Aa Aa Aa fun a F => ?_
   refine Ay F W (Ae F Aa Aa Aa Aa) Aa (Ak Aa) (Av F Aa Aa Aa).q fun a w F W => ?_
   refine ls F W Aa (Av F Aa Aa Aa).q fun a w F W => ?_
   refine ls F W Aa (Ah F Aa).q fun a w F W => ?_
   refine Ad (AF (Ab (Ac ?_)))
   refine ls F W Aa (Ag F Aa).q fun a w F W => ?_
   refine ls F W Aa (BS F Aa Aa Aa).q fun a w F W => ?_
   refine ls F W Aa (Ah F Aa).q fun a w F W => ?_
   refine Ad (Ab ?_)
   exact ⟨_, H, F.re ⟨rfl, Aa, Aa, Aa, trivial⟩, W⟩
  have H := AL (Bc hb) H
  rw [hb] at F
  clear hb
  refine A8 ?_
  iterate 2 refine Bk ?_
  refine A9 (Ab ?_)
  have H := L9 _ H
  exact ⟨_, H, F.re ⟨rfl, Aa, Aa, trivial⟩, W⟩
 rintro a w ⟨x27, hj, F, W⟩
 have hj := AN hj
 subst hj
 have H := K8
 clear G8 K8
 obtain ⟨o10, G10, K10⟩ := An H
 refine AB (fun a w => ∃ x32 : Bool, some (x32) = some o10 ∧ Fr 173 [] [(8, .bool x32)] a ∧ Stw ⟨Y, [], w0⟩ [(b1, [.int .i64 p0.1, v1, v2])] [] w) ?_ ?_
 ·
  have H := G10
  clear G10 K10
  refine Ac ?_
  refine ls F W Aa (Ag F Aa).q fun a w F W => ?_
  obtain ⟨x33, h25, H⟩ := An H
  refine ls F W Aa (Bl (v := Value.bool x33) F RE Aa (fun w W => ID any w (v4) p2 _ h25 (((Aj h_v4) : CH _ _ _ _ _ _) w W).nx)) fun a w F W => ?_
  refine ls F W Aa (Ag F Aa).q fun a w F W => ?_
  refine ls F W Aa (PJ QP F Aa Aa).q fun a w F W => ?_
  refine ls F W Aa (Ag F Aa).q fun a w F W => ?_
  rcases Bool.eq_false_or_eq_true (decide (x33 = x27)) with hb | hb
  ·
   have H := AK (Bd hb) H
   rw [hb] at F
   clear hb
   refine Jv (Ae F Aa Aa Aa Aa) ?_
   obtain ⟨x34, h26, H⟩ := An H
   refine ls F W Aa (Bl (v := Value.bool x34) F H8 Aa (fun w W => Iv any w _ h26)) fun a w F W => ?_
   refine ls F W Aa (Ao F Aa Aa Aa).q fun a w F W => ?_
   refine ls F W Aa (Ah F Aa).q fun a w F W => ?_
   refine Ad (Ab ?_)
   exact ⟨_, H, F.re ⟨rfl, trivial⟩, W⟩
  have H := AL (Bc hb) H
  rw [hb] at F
  clear hb
  refine B4 F Aa Aa Aa Aa Aa Aa Aa fun a F => ?_
  refine ls F W Aa (Av F Aa Aa Aa).q fun a w F W => ?_
  refine ls F W Aa (Ah F Aa).q fun a w F W => ?_
  refine Ad (Ab ?_)
  exact ⟨_, H, F.re ⟨rfl, trivial⟩, W⟩
 rintro a w ⟨x32, hj, F, W⟩
 have hj := AN hj
 subst hj
 have H := K10
 clear G10 K10
 refine AA ?_
 have H := AN H
 subst H
 refine AW (.inl Aa) F W Aa (As F Aa) ?_
 exact ⟨rfl, W.done⟩
end Go.Proofs.Ytflaelbmglmmcaa
