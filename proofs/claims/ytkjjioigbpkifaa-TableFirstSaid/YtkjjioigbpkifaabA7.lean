/- The functions of layer 11, DP. Conditions: none. -/
import Derived.Test.YtkjjioigbpkifaabA6
namespace Go.Proofs.Ytkjjioigbpkifaa
open Go Go.RowKit
set_option linter.unusedVariables false
set_option linter.unusedSimpArgs false
set_option maxRecDepth 20000
noncomputable def Co (p0 : List (Int × (Int × (Int × Int × Int × Int) × (Int × Int × Int × Int)) × (List (Int × Int × Int)))) (p3 : Int) (p4 : Int × Int × Int × Int) (x6 : Int) : Int → Option (Int ⊕ (Unit ⊕ Bool))
  | x7 => (if x7 < (p0.length : Int) then (ix p0 x7).bind fun x8 => (C4 x8.2.1 p3 p4).bind fun x9 => (if x9 = true then (if x6 < 0 then some true else (if (p0.length : Int) ≤ x6 then some true else (ix p0 x7).bind fun x11 => (ix p0 x6).bind fun x12 => (if x12.1 < x11.1 then some true else (if x7 < x6 then some true else (if x7 = x6 then some false else some false))))) else (if x7 = x6 then some true else some false)).bind fun x10 => (if x10 = true then some (.inr (.inr false)) else some (.inl (C3 (x7 + 1)))) else some (.inr (.inl ())))
noncomputable def C7 (p0 : List (Int × (Int × (Int × Int × Int × Int) × (Int × Int × Int × Int)) × (List (Int × Int × Int)))) (p1 : Int) (p2 : Int) (p3 : Int) (p4 : Int × Int × Int × Int) : Option Bool := ((Fd p0).bind fun x2 => (if (!x2) = true then some true else (Fe p0 p1 p2).bind fun x3 => (if (!x3) = true then some true else (E9 p4).bind fun x4 => some (!x4)))).bind fun x1 => (if x1 = true then (DR).bind fun x5 => some x5 else (CC p0 p3 p4).bind fun x6 => FC (BG (Co p0 p3 p4 x6) 0) fun _ => (if (-1) ≤ x6 then (if x6 < (p0.length : Int) then (DR).bind fun x14 => some x14 else some false) else some false).bind fun x13 => some x13)
theorem GA (Y : Nat → Prop) (w0 : World) (v1 : Value) (p0 : List (Int × (Int × (Int × Int × Int × Int) × (Int × Int × Int × Int)) × (List (Int × Int × Int)))) (p1 : Int) (p2 : Int) (p3 : Int) (p4 : Int × Int × Int × Int) (r : Bool) (H : C7 p0 p1 p2 p3 p4 = some r) (h_v1 : Sl w0 (NX []) A4 v1 p0) :
    Calls Try.prog 7 #[v1, .int .i64 p1, .int .i64 p2, .int .i64 p3, .agg #[.int .i64 p4.1, .int .i64 p4.2.1, .int .i64 p4.2.2.1, .int .i64 p4.2.2.2]] w0 fun e w' => e = .returned (.bool r) ∧ Below w0.heap.size w0 w' := by
 refine enter Try.func7 Aa Try.ntmps7 Aa fun a F => ?_
 have W := Stw.start Y w0
 obtain ⟨v2, h1, h_v1⟩ := h_v1.ex Bz
 unfold C7 at H
 refine Ak (Ae ?_)
 refine B1 (cs := [.int .i64 p4.1, .int .i64 p4.2.1, .int .i64 p4.2.2.1, .int .i64 p4.2.2.2]) F W Aa Aa Aa fun b1 a w F W => ?_
 refine ls F W Aa (Af F Aa).q fun a w F W => ?_
 refine Ag (Ad (Ak ?_))
 obtain ⟨o1, G1, K1⟩ := Aq H
 refine AJ (fun a w => ∃ x1 : Bool, some (x1) = some o1 ∧ Fr 97 [] [(0, v1), (3, .int .i64 p3), (9, .pointer (some ⟨b1, 0, none⟩)), (10, .bool false), (28, .bool x1)] a ∧ Stw ⟨Y, [], w0⟩ [(b1, [.int .i64 p4.1, .int .i64 p4.2.1, .int .i64 p4.2.2.1, .int .i64 p4.2.2.2])] [] w) ?_ ?_
 ·
  have H := G1
  clear G1 K1
  refine Ae ?_
  refine ls F W Aa (Ai F Aa).q fun a w F W => ?_
  obtain ⟨x2, h2, H⟩ := Aq H
  refine ls F W Aa (AW (v := Value.bool x2) F H8 Aa (fun w W => In any w (v1) p0 _ h2 (((Bk Bz h1 (Ax h_v1)) : Dl _ _ _ _ _ _) w W).nx)) fun a w F W => ?_
  refine ls F W Aa (E6 F Aa).q fun a w F W => ?_
  refine ls F W Aa (Ai F Aa).q fun a w F W => ?_
  rcases Bool.eq_false_or_eq_true (!x2) with hb | hb
  ·
   have H := AL hb H
   rw [hb] at F
   clear hb
   iterate 5 refine Cw F Aa Aa Aa Aa Aa Aa Aa fun a F => ?_
   refine ls F W Aa (Au F Aa Aa Aa).q fun a w F W => ?_
   refine ls F W Aa (Ai F Aa).q fun a w F W => ?_
   iterate 3 refine Cw F Aa Aa Aa Aa Aa Aa Aa fun a F => ?_
   refine ls F W Aa (Au F Aa Aa Aa).q fun a w F W => ?_
   refine Ag (Ad ?_)
   exact ⟨_, H, F.re ⟨rfl, Aa, Aa, Aa, Aa, trivial⟩, W⟩
  have H := AK (by rw [hb]; decide) H
  rw [hb] at F
  clear hb
  iterate 3 refine AE F W (Aj F Aa Aa Aa Aa) Aa (Ao Aa) (Ai F Aa).q fun a w F W => ?_
  refine Gs (Aj F Aa Aa Aa Aa) ?_
  obtain ⟨x3, h3, H⟩ := Aq H
  refine ls F W Aa (AW (v := Value.bool x3) F MX Aa (fun w W => Io any w (v1) p0 p1 p2 _ h3 (((Bk Bz h1 (Ax h_v1)) : Dl _ _ _ _ _ _) w W).nx)) fun a w F W => ?_
  refine AE F W (Aj F Aa Aa Aa Aa) Aa (Ao Aa) (E6 F Aa).q fun a w F W => ?_
  refine ls F W Aa (Ap F Aa Aa Aa).q fun a w F W => ?_
  refine ls F W Aa (Ai F Aa).q fun a w F W => ?_
  rcases Bool.eq_false_or_eq_true (!x3) with hb | hb
  ·
   have H := AL hb H
   rw [hb] at F
   clear hb
   iterate 3 refine Cw F Aa Aa Aa Aa Aa Aa Aa fun a F => ?_
   refine ls F W Aa (Au F Aa Aa Aa).q fun a w F W => ?_
   refine Ag (Ad ?_)
   exact ⟨_, H, F.re ⟨rfl, Aa, Aa, Aa, Aa, trivial⟩, W⟩
  have H := AK (by rw [hb]; decide) H
  rw [hb] at F
  clear hb
  refine AE F W (Aj F Aa Aa Aa Aa) Aa (Ao Aa) (As (v := Value.agg #[.int .i64 p4.1, .int .i64 p4.2.1, .int .i64 p4.2.2.1, .int .i64 p4.2.2.2]) 0 F Aa Aa IB Aa).q fun a w F W => ?_
  refine Gs (Aj F Aa Aa Aa Aa) ?_
  obtain ⟨x4, h4, H⟩ := Aq H
  refine ls F W Aa (AW (v := Value.bool x4) F Mj Aa (fun w W => Is any w p4 _ h4)) fun a w F W => ?_
  refine AE F W (Aj F Aa Aa Aa Aa) Aa (Ao Aa) (E6 F Aa).q fun a w F W => ?_
  refine ls F W Aa (Ap F Aa Aa Aa).q fun a w F W => ?_
  refine Ag (Ad ?_)
  exact ⟨_, H, F.re ⟨rfl, Aa, Aa, Aa, Aa, trivial⟩, W⟩
 rintro a w ⟨x1, hj, F, W⟩
 have hj := AO hj
 subst hj
 have H := K1
 clear G1 K1
 refine Az F Aa (fun hb => ?_) fun hb => ?_
 ·
  have H := AL hb H
  rw [hb] at F
  clear hb
  refine Ak (Ae ?_)
  obtain ⟨x5, h5, H⟩ := Aq H
  refine ls F W Aa (AW (v := Value.bool x5) F H9 Aa (fun w W => GD any w _ h5)) fun a w F W => ?_
  refine ls F W Aa (Af F Aa).q fun a w F W => ?_
  refine Ag (Ad (Aw (AB ?_)))
  have H := AO H
  subst H
  refine AF (.inl Aa) F W Aa (Av F Aa) ?_
  exact ⟨rfl, W.done⟩
 have H := AK (by rw [hb]; decide) H
 rw [hb] at F
 clear hb
 refine Ay (Ad (Ak (Ae ?_)))
 iterate 2 refine ls F W Aa (Ai F Aa).q fun a w F W => ?_
 refine ls F W Aa (As (v := Value.agg #[.int .i64 p4.1, .int .i64 p4.2.1, .int .i64 p4.2.2.1, .int .i64 p4.2.2.2]) 0 F Aa Aa IB Aa).q fun a w F W => ?_
 obtain ⟨x6, h6, H⟩ := Aq H
 refine ls F W Aa (AW (v := Value.int .i64 x6) F LO Aa (fun w W => Fk any w (v1) p0 p3 p4 _ h6 (((Bk Bz h1 (Ax h_v1)) : Dl _ _ _ _ _ _) w W).nx)) fun a w F W => ?_
 refine ls F W Aa (Af F Aa).q fun a w F W => ?_
 refine Ag (Ad ?_)
 obtain ⟨o2, G2, K2, L2⟩ := Ia H
 refine AJ (fun a w => some (Sum.inl ()) = some o2 ∧ Fr 97 [] [(0, v1), (10, .bool false), (11, .int .i64 x6)] a ∧ Stw ⟨Y, [], w0⟩ [(b1, [.int .i64 p4.1, .int .i64 p4.2.1, .int .i64 p4.2.2.1, .int .i64 p4.2.2.2])] [] w) ?_ ?_
 ·
  have H := G2
  clear G2 K2
  refine Ak (Ae ?_)
  refine ls F W Aa (Af F Aa).q fun a w F W => ?_
  refine Ag (Ad (AA ?_))
  refine BW H (fun s a w => Fr 97 [] [(0, v1), (3, .int .i64 p3), (9, .pointer (some ⟨b1, 0, none⟩)), (10, .bool false), (11, .int .i64 x6), (12, .int .i64 s)] a ∧ Stw ⟨Y, [], w0⟩ [(b1, [.int .i64 p4.1, .int .i64 p4.2.1, .int .i64 p4.2.2.1, .int .i64 p4.2.2.2])] [] w) ⟨F.re ⟨rfl, Aa, Aa, Aa, Aa, Aa, trivial⟩, W⟩ fun s o a w H L3 hR => ?_
  obtain ⟨x7, rfl⟩ : ∃ x, x = s := ⟨s, rfl⟩
  obtain ⟨F, W⟩ := hR
  have F : Fr 97 [] [(0, v1), (3, .int .i64 p3), (9, .pointer (some ⟨b1, 0, none⟩)), (10, .bool false), (11, .int .i64 x6), (12, .int .i64 x7)] a := F
  have W : Stw ⟨Y, [], w0⟩ [(b1, [.int .i64 p4.1, .int .i64 p4.2.1, .int .i64 p4.2.2.1, .int .i64 p4.2.2.2])] [] w := W
  rw [Co] at H
  refine Ak (Ak (Ae ?_))
  iterate 2 refine ls F W Aa (Ai F Aa).q fun a w F W => ?_
  refine ls F W Aa (Cl (r := A4) (l := p0) Ee Aa F Aa (Bk Bz h1 (Ax h_v1))).q fun a w F W => ?_
  refine ls F W Aa (BO F Aa Aa).q fun a w F W => ?_
  refine Ag (Ad ?_)
  refine Az F Aa (fun hb => ?_) fun hb => ?_
  ·
   have H := AL (Bd hb) H
   rw [hb] at F
   clear hb
   refine Ay (Ad (Ak (AA (Ak ?_))))
   refine CR W MO (by kernel_rfl) ?_
   iterate 2 refine qs F Aa (Ai F Aa).q fun a F => ?_
   obtain ⟨x8, h7, H⟩ := Aq H
   obtain ⟨v3, h8, h9⟩ := Cr h1 h7
   have h10 : B9 v3 = [.int .i64 x8.1, .int .i64 x8.2.1.1, .int .i64 x8.2.1.2.1.1, .int .i64 x8.2.1.2.1.2.1, .int .i64 x8.2.1.2.1.2.2.1, .int .i64 x8.2.1.2.1.2.2.2, .int .i64 x8.2.1.2.2.1, .int .i64 x8.2.1.2.2.2.1, .int .i64 x8.2.1.2.2.2.2.1, .int .i64 x8.2.1.2.2.2.2.2, (v3.2.2.1)] := congrArg (fun q : Int × (Int × (Int × Int × Int × Int) × (Int × Int × Int × Int)) × (List (Int × Int × Int)) => ([.int .i64 q.1, .int .i64 q.2.1.1, .int .i64 q.2.1.2.1.1, .int .i64 q.2.1.2.1.2.1, .int .i64 q.2.1.2.1.2.2.1, .int .i64 q.2.1.2.1.2.2.2, .int .i64 q.2.1.2.2.1, .int .i64 q.2.1.2.2.2.1, .int .i64 q.2.1.2.2.2.2.1, .int .i64 q.2.1.2.2.2.2.2, (v3.2.2.1)] : List Value)) h9
   refine qs F Aa (Bo (r := Cz) EQ F Aa Aa (Ax h_v1) h8).q fun a F => ?_
   refine qs F Aa (Al Cp Aa Aa Aa El F Aa (Ei v1 + (x7).toNat * 11 + 1) Aa).q fun a F => ?_
   refine qs F Aa (A9 (y := Value.agg #[.int .i64 x8.2.1.1, .int .i64 x8.2.1.2.1.1, .int .i64 x8.2.1.2.1.2.1, .int .i64 x8.2.1.2.1.2.2.1, .int .i64 x8.2.1.2.1.2.2.2, .int .i64 x8.2.1.2.2.1, .int .i64 x8.2.1.2.2.2.1, .int .i64 x8.2.1.2.2.2.2.1, .int .i64 x8.2.1.2.2.2.2.2]) (j := 1) (i := x7) (enc := B9) F Aa Aa (Ax h_v1) h8 DZ El (by rw [h10]; rfl)).q fun a F => ?_
   refine qs F Aa (Ai F Aa).q fun a F => ?_
   refine qs F Aa (As (v := Value.agg #[.int .i64 p4.1, .int .i64 p4.2.1, .int .i64 p4.2.2.1, .int .i64 p4.2.2.2]) 0 F Aa Aa IB Aa).q fun a F => ?_
   obtain ⟨x9, h11, H⟩ := Aq H
   refine qs F Aa (AW (v := Value.bool x9) F LW Aa (fun w W => Gn any w x8.2.1 p3 p4 _ h11)) fun a F => ?_
   refine qs F Aa (Af F Aa).q fun a F => ?_
   refine AU fun w W => ?_
   refine Ad ?_
   obtain ⟨o4, G4, K4⟩ := Aq H
   refine AJ (fun a w => ∃ x10 : Bool, some (x10) = some o4 ∧ Fr 97 [] [(0, v1), (3, .int .i64 p3), (9, .pointer (some ⟨b1, 0, none⟩)), (10, .bool false), (11, .int .i64 x6), (12, .int .i64 x7), (85, .bool x10)] a ∧ Stw ⟨Y, [], w0⟩ [(b1, [.int .i64 p4.1, .int .i64 p4.2.1, .int .i64 p4.2.2.1, .int .i64 p4.2.2.2])] [] w) ?_ ?_
   ·
    have H := G4
    clear G4 K4
    refine CR W MO (by kernel_rfl) ?_
    iterate 2 refine qs F Aa (Ai F Aa).q fun a F => ?_
    rcases Bool.eq_false_or_eq_true x9 with hb | hb
    ·
     have H := AL hb H
     rw [hb] at F
     clear hb
     refine A0 F (Aj F Aa Aa Aa Aa) Aa (Ao Aa) (Ai F Aa).q fun a F => ?_
     refine A0 F (Aj F Aa Aa Aa Aa) Aa (Ao Aa) (BO F Aa Aa).q fun a F => ?_
     refine A0 F (Aj F Aa Aa Aa Aa) Aa (Ao Aa) (Ai F Aa).q fun a F => ?_
     rcases Bool.eq_false_or_eq_true (decide (x6 < 0)) with hb | hb
     ·
      have H := AL (Bd hb) H
      rw [hb] at F
      clear hb
      iterate 4 refine AP F (AN F Aa Aa Aa Aa Aa) Aa Aa fun a F => ?_
      refine A0 F (Aj F Aa Aa Aa Aa) Aa (Ao Aa) (Au F Aa Aa Aa).q fun a F => ?_
      refine A0 F (Aj F Aa Aa Aa Aa) Aa (Ao Aa) (Ai F Aa).q fun a F => ?_
      iterate 11 refine AP F (AN F Aa Aa Aa Aa Aa) Aa Aa fun a F => ?_
      refine A0 F (Aj F Aa Aa Aa Aa) Aa (Ao Aa) (Au F Aa Aa Aa).q fun a F => ?_
      refine A0 F (Aj F Aa Aa Aa Aa) Aa (Ao Aa) (Ai F Aa).q fun a F => ?_
      iterate 3 refine AP F (AN F Aa Aa Aa Aa Aa) Aa Aa fun a F => ?_
      refine A0 F (Aj F Aa Aa Aa Aa) Aa (Ao Aa) (Au F Aa Aa Aa).q fun a F => ?_
      refine qs F Aa (Au F Aa Aa Aa).q fun a F => ?_
      refine qs F Aa (Ai F Aa).q fun a F => ?_
      iterate 4 refine AP F (AN F Aa Aa Aa Aa Aa) Aa Aa fun a F => ?_
      iterate 2 refine AP F (Cm F Aa Aa Aa Aa) Aa Aa fun a F => ?_
      refine AP F (AN F Aa Aa Aa Aa Aa) Aa Aa fun a F => ?_
      refine qs F Aa (Au F Aa Aa Aa).q fun a F => ?_
      refine AU fun w W => ?_
      refine Ad ?_
      exact ⟨_, H, F.re ⟨rfl, Aa, Aa, Aa, Aa, Aa, Aa, trivial⟩, W⟩
     have H := AK (Be hb) H
     rw [hb] at F
     clear hb
     iterate 2 refine A0 F (Aj F Aa Aa Aa Aa) Aa (Ao Aa) (Ai F Aa).q fun a F => ?_
     refine A0 F (Aj F Aa Aa Aa Aa) Aa (Ao Aa) (Cl (r := A4) (l := p0) Ee Aa F Aa (Bk Bz h1 (Ax h_v1))).q fun a F => ?_
     refine A0 F (Aj F Aa Aa Aa Aa) Aa (Ao Aa) (D3 F Aa Aa).q fun a F => ?_
     refine A0 F (Aj F Aa Aa Aa Aa) Aa (Ao Aa) (Ap F Aa Aa Aa).q fun a F => ?_
     refine A0 F (Aj F Aa Aa Aa Aa) Aa (Ao Aa) (Ai F Aa).q fun a F => ?_
     rcases Bool.eq_false_or_eq_true (decide ((p0.length : Int) ≤ x6)) with hb | hb
     ·
      have H := AL (Bd hb) H
      rw [hb] at F
      clear hb
      iterate 11 refine AP F (AN F Aa Aa Aa Aa Aa) Aa Aa fun a F => ?_
      refine A0 F (Aj F Aa Aa Aa Aa) Aa (Ao Aa) (Au F Aa Aa Aa).q fun a F => ?_
      refine A0 F (Aj F Aa Aa Aa Aa) Aa (Ao Aa) (Ai F Aa).q fun a F => ?_
      iterate 3 refine AP F (AN F Aa Aa Aa Aa Aa) Aa Aa fun a F => ?_
      refine A0 F (Aj F Aa Aa Aa Aa) Aa (Ao Aa) (Au F Aa Aa Aa).q fun a F => ?_
      refine qs F Aa (Au F Aa Aa Aa).q fun a F => ?_
      refine qs F Aa (Ai F Aa).q fun a F => ?_
      iterate 4 refine AP F (AN F Aa Aa Aa Aa Aa) Aa Aa fun a F => ?_
      iterate 2 refine AP F (Cm F Aa Aa Aa Aa) Aa Aa fun a F => ?_
      refine AP F (AN F Aa Aa Aa Aa Aa) Aa Aa fun a F => ?_
      refine qs F Aa (Au F Aa Aa Aa).q fun a F => ?_
      refine AU fun w W => ?_
      refine Ad ?_
      exact ⟨_, H, F.re ⟨rfl, Aa, Aa, Aa, Aa, Aa, Aa, trivial⟩, W⟩
     have H := AK (Be hb) H
     rw [hb] at F
     clear hb
     iterate 2 refine A0 F (Aj F Aa Aa Aa Aa) Aa (Ao Aa) (Ai F Aa).q fun a F => ?_
     obtain ⟨x11, h12, H⟩ := Aq H
     obtain ⟨v4, h13, h14⟩ := Cr h1 h12
     have h15 : B9 v4 = [.int .i64 x11.1, .int .i64 x11.2.1.1, .int .i64 x11.2.1.2.1.1, .int .i64 x11.2.1.2.1.2.1, .int .i64 x11.2.1.2.1.2.2.1, .int .i64 x11.2.1.2.1.2.2.2, .int .i64 x11.2.1.2.2.1, .int .i64 x11.2.1.2.2.2.1, .int .i64 x11.2.1.2.2.2.2.1, .int .i64 x11.2.1.2.2.2.2.2, (v4.2.2.1)] := congrArg (fun q : Int × (Int × (Int × Int × Int × Int) × (Int × Int × Int × Int)) × (List (Int × Int × Int)) => ([.int .i64 q.1, .int .i64 q.2.1.1, .int .i64 q.2.1.2.1.1, .int .i64 q.2.1.2.1.2.1, .int .i64 q.2.1.2.1.2.2.1, .int .i64 q.2.1.2.1.2.2.2, .int .i64 q.2.1.2.2.1, .int .i64 q.2.1.2.2.2.1, .int .i64 q.2.1.2.2.2.2.1, .int .i64 q.2.1.2.2.2.2.2, (v4.2.2.1)] : List Value)) h14
     refine A0 F (Aj F Aa Aa Aa Aa) Aa (Ao Aa) (Bo (r := Cz) EQ F Aa Aa (Ax h_v1) h13).q fun a F => ?_
     refine A0 F (Aj F Aa Aa Aa Aa) Aa (Ao Aa) (Al Cp Aa Aa Aa T3 F Aa (Ei v1 + (x7).toNat * 11) Aa).q fun a F => ?_
     refine A0 F (Aj F Aa Aa Aa Aa) Aa (Ao Aa) (A9 (y := Value.int .i64 x11.1) (j := 0) (i := x7) (enc := B9) F Aa Aa (Ax h_v1) h13 DZ T3 (by rw [h15]; rfl)).q fun a F => ?_
     iterate 2 refine A0 F (Aj F Aa Aa Aa Aa) Aa (Ao Aa) (Ai F Aa).q fun a F => ?_
     obtain ⟨x12, h16, H⟩ := Aq H
     obtain ⟨v5, h17, h18⟩ := Cr h1 h16
     have h19 : B9 v5 = [.int .i64 x12.1, .int .i64 x12.2.1.1, .int .i64 x12.2.1.2.1.1, .int .i64 x12.2.1.2.1.2.1, .int .i64 x12.2.1.2.1.2.2.1, .int .i64 x12.2.1.2.1.2.2.2, .int .i64 x12.2.1.2.2.1, .int .i64 x12.2.1.2.2.2.1, .int .i64 x12.2.1.2.2.2.2.1, .int .i64 x12.2.1.2.2.2.2.2, (v5.2.2.1)] := congrArg (fun q : Int × (Int × (Int × Int × Int × Int) × (Int × Int × Int × Int)) × (List (Int × Int × Int)) => ([.int .i64 q.1, .int .i64 q.2.1.1, .int .i64 q.2.1.2.1.1, .int .i64 q.2.1.2.1.2.1, .int .i64 q.2.1.2.1.2.2.1, .int .i64 q.2.1.2.1.2.2.2, .int .i64 q.2.1.2.2.1, .int .i64 q.2.1.2.2.2.1, .int .i64 q.2.1.2.2.2.2.1, .int .i64 q.2.1.2.2.2.2.2, (v5.2.2.1)] : List Value)) h18
     refine A0 F (Aj F Aa Aa Aa Aa) Aa (Ao Aa) (Bo (r := Cz) EQ F Aa Aa (Ax h_v1) h17).q fun a F => ?_
     refine A0 F (Aj F Aa Aa Aa Aa) Aa (Ao Aa) (Al Cp Aa Aa Aa T3 F Aa (Ei v1 + (x6).toNat * 11) Aa).q fun a F => ?_
     refine A0 F (Aj F Aa Aa Aa Aa) Aa (Ao Aa) (A9 (y := Value.int .i64 x12.1) (j := 0) (i := x6) (enc := B9) F Aa Aa (Ax h_v1) h17 DZ T3 (by rw [h19]; rfl)).q fun a F => ?_
     refine A0 F (Aj F Aa Aa Aa Aa) Aa (Ao Aa) (Fw F Aa Aa).q fun a F => ?_
     refine A0 F (Aj F Aa Aa Aa Aa) Aa (Ao Aa) (Ap F Aa Aa Aa).q fun a F => ?_
     refine A0 F (Aj F Aa Aa Aa Aa) Aa (Ao Aa) (Ai F Aa).q fun a F => ?_
     rcases Bool.eq_false_or_eq_true (decide (x12.1 < x11.1)) with hb | hb
     ·
      have H := AL (Bd hb) H
      rw [hb] at F
      clear hb
      iterate 3 refine AP F (AN F Aa Aa Aa Aa Aa) Aa Aa fun a F => ?_
      refine A0 F (Aj F Aa Aa Aa Aa) Aa (Ao Aa) (Au F Aa Aa Aa).q fun a F => ?_
      refine qs F Aa (Au F Aa Aa Aa).q fun a F => ?_
      refine qs F Aa (Ai F Aa).q fun a F => ?_
      iterate 4 refine AP F (AN F Aa Aa Aa Aa Aa) Aa Aa fun a F => ?_
      iterate 2 refine AP F (Cm F Aa Aa Aa Aa) Aa Aa fun a F => ?_
      refine AP F (AN F Aa Aa Aa Aa Aa) Aa Aa fun a F => ?_
      refine qs F Aa (Au F Aa Aa Aa).q fun a F => ?_
      refine AU fun w W => ?_
      refine Ad ?_
      exact ⟨_, H, F.re ⟨rfl, Aa, Aa, Aa, Aa, Aa, Aa, trivial⟩, W⟩
     have H := AK (Be hb) H
     rw [hb] at F
     clear hb
     iterate 2 refine A0 F (Aj F Aa Aa Aa Aa) Aa (Ao Aa) (Ai F Aa).q fun a F => ?_
     refine A0 F (Aj F Aa Aa Aa Aa) Aa (Ao Aa) (BO F Aa Aa).q fun a F => ?_
     refine A0 F (Aj F Aa Aa Aa Aa) Aa (Ao Aa) (Ap F Aa Aa Aa).q fun a F => ?_
     refine qs F Aa (Au F Aa Aa Aa).q fun a F => ?_
     refine qs F Aa (Ai F Aa).q fun a F => ?_
     rcases Bool.eq_false_or_eq_true (decide (x7 < x6)) with hb | hb
     ·
      have H := AL (Bd hb) H
      rw [hb] at F
      clear hb
      iterate 4 refine AP F (AN F Aa Aa Aa Aa Aa) Aa Aa fun a F => ?_
      iterate 2 refine AP F (Cm F Aa Aa Aa Aa) Aa Aa fun a F => ?_
      refine AP F (AN F Aa Aa Aa Aa Aa) Aa Aa fun a F => ?_
      refine qs F Aa (Au F Aa Aa Aa).q fun a F => ?_
      refine AU fun w W => ?_
      refine Ad ?_
      exact ⟨_, H, F.re ⟨rfl, Aa, Aa, Aa, Aa, Aa, Aa, trivial⟩, W⟩
     have H := AK (Be hb) H
     rw [hb] at F
     clear hb
     iterate 2 refine A0 F (Aj F Aa Aa Aa Aa) Aa (Ao Aa) (Ai F Aa).q fun a F => ?_
     refine A0 F (Aj F Aa Aa Aa Aa) Aa (Ao Aa) (BP F Aa Aa).q fun a F => ?_
     refine A0 F (Aj F Aa Aa Aa Aa) Aa (Ao Aa) (Ai F Aa).q fun a F => ?_
     rcases Bool.eq_false_or_eq_true (decide (x7 = x6)) with hb | hb
     ·
      have H := AL (Bd hb) H
      rw [hb] at F
      clear hb
      refine A0 F (Aj F Aa Aa Aa Aa) Aa (Ao Aa) (Ai F Aa).q fun a F => ?_
      refine A0 F (Aj F Aa Aa Aa Aa) Aa (Ao Aa) (E6 F Aa).q fun a F => ?_
      refine A0 F (Aj F Aa Aa Aa Aa) Aa (Ao Aa) (Au F Aa Aa Aa).q fun a F => ?_
      refine qs F Aa (Ap F Aa Aa Aa).q fun a F => ?_
      refine AU fun w W => ?_
      refine Ad ?_
      exact ⟨_, H, F.re ⟨rfl, Aa, Aa, Aa, Aa, Aa, Aa, trivial⟩, W⟩
     have H := AK (Be hb) H
     rw [hb] at F
     clear hb
     iterate 2 refine AP F (AN F Aa Aa Aa Aa Aa) Aa Aa fun a F => ?_
     refine A0 F (Aj F Aa Aa Aa Aa) Aa (Ao Aa) (Ap F Aa Aa Aa).q fun a F => ?_
     refine qs F Aa (Ap F Aa Aa Aa).q fun a F => ?_
     refine AU fun w W => ?_
     refine Ad ?_
     exact ⟨_, H, F.re ⟨rfl, Aa, Aa, Aa, Aa, Aa, Aa, trivial⟩, W⟩
    have H := AK (by rw [hb]; decide) H
    rw [hb] at F
    clear hb
    iterate 3 refine AP F (AN F Aa Aa Aa Aa Aa) Aa Aa fun a F => ?_
    iterate 4 refine AP F (Cm F Aa Aa Aa Aa) Aa Aa fun a F => ?_
    iterate 2 refine AP F (AN F Aa Aa Aa Aa Aa) Aa Aa fun a F => ?_
    iterate 11 refine AP F (Cm F Aa Aa Aa Aa) Aa Aa fun a F => ?_
    iterate 2 refine AP F (AN F Aa Aa Aa Aa Aa) Aa Aa fun a F => ?_
    iterate 3 refine AP F (Cm F Aa Aa Aa Aa) Aa Aa fun a F => ?_
    refine AP F (AN F Aa Aa Aa Aa Aa) Aa Aa fun a F => ?_
    refine qs F Aa (Ap F Aa Aa Aa).q fun a F => ?_
    refine qs F Aa (Ai F Aa).q fun a F => ?_
    iterate 2 refine A0 F (Aj F Aa Aa Aa Aa) Aa (Ao Aa) (Ai F Aa).q fun a F => ?_
    refine A0 F (Aj F Aa Aa Aa Aa) Aa (Ao Aa) (BP F Aa Aa).q fun a F => ?_
    refine A0 F (Aj F Aa Aa Aa Aa) Aa (Ao Aa) (Ai F Aa).q fun a F => ?_
    rcases Bool.eq_false_or_eq_true (decide (x7 = x6)) with hb | hb
    ·
     have H := AL (Bd hb) H
     rw [hb] at F
     clear hb
     refine A0 F (Aj F Aa Aa Aa Aa) Aa (Ao Aa) (Ai F Aa).q fun a F => ?_
     refine A0 F (Aj F Aa Aa Aa Aa) Aa (Ao Aa) (E6 F Aa).q fun a F => ?_
     refine A0 F (Aj F Aa Aa Aa Aa) Aa (Ao Aa) (Au F Aa Aa Aa).q fun a F => ?_
     refine qs F Aa (Ap F Aa Aa Aa).q fun a F => ?_
     refine AU fun w W => ?_
     refine Ad ?_
     exact ⟨_, H, F.re ⟨rfl, Aa, Aa, Aa, Aa, Aa, Aa, trivial⟩, W⟩
    have H := AK (Be hb) H
    rw [hb] at F
    clear hb
    iterate 2 refine AP F (AN F Aa Aa Aa Aa Aa) Aa Aa fun a F => ?_
    refine A0 F (Aj F Aa Aa Aa Aa) Aa (Ao Aa) (Ap F Aa Aa Aa).q fun a F => ?_
    refine qs F Aa (Ap F Aa Aa Aa).q fun a F => ?_
    refine AU fun w W => ?_
    refine Ad ?_
    exact ⟨_, H, F.re ⟨rfl, Aa, Aa, Aa, Aa, Aa, Aa, trivial⟩, W⟩
   rintro a w ⟨x10, hj, F, W⟩
   have hj := AO hj
   subst hj
   have H := K4
   clear G4 K4
   refine Az F Aa (fun hb => ?_) fun hb => ?_
   ·
    have H := AL hb H
    rw [hb] at F
    clear hb
    refine Ak (Ae ?_)
    refine ls F W Aa (Af F Aa).q fun a w F W => ?_
    refine Ag (Ad (Aw (AM ?_)))
    iterate 2 refine AB ?_
    refine AM (AB ?_)
    have H := L3 _ H
    have H := L2 _ H
    have H := AO H
    subst H
    refine AF (.inl Aa) F W Aa (Av F Aa) ?_
    exact ⟨rfl, W.done⟩
   have H := AK (by rw [hb]; decide) H
   rw [hb] at F
   clear hb
   refine Ay (AV (Ad (Ae ?_)))
   refine ls F W Aa (Ai F Aa).q fun a w F W => ?_
   refine ls F W Aa (Cg F Aa Aa Aa).q fun a w F W => ?_
   refine ls F W Aa (Af F Aa).q fun a w F W => ?_
   refine Ag (Ad ?_)
   exact ⟨_, H, F.re ⟨rfl, Aa, Aa, Aa, Aa, Aa, trivial⟩, W⟩
  have H := AK (Be hb) H
  rw [hb] at F
  clear hb
  refine BV ?_
  iterate 2 refine Cd ?_
  refine BU (Ad ?_)
  have H := L3 _ H
  exact ⟨H, F.re ⟨rfl, Aa, Aa, trivial⟩, W⟩
 rintro a w ⟨hj, F, W⟩
 have H := K2 _ hj
 clear hj G2 K2 L2
 obtain ⟨o5, G5, K5⟩ := Aq H
 refine AJ (fun a w => ∃ x13 : Bool, some (x13) = some o5 ∧ Fr 97 [] [(10, .bool x13)] a ∧ Stw ⟨Y, [], w0⟩ [(b1, [.int .i64 p4.1, .int .i64 p4.2.1, .int .i64 p4.2.2.1, .int .i64 p4.2.2.2])] [] w) ?_ ?_
 ·
  have H := G5
  clear G5 K5
  refine Ae ?_
  refine ls F W Aa (Ai F Aa).q fun a w F W => ?_
  refine ls F W Aa (D3 F Aa Aa).q fun a w F W => ?_
  refine ls F W Aa (Ai F Aa).q fun a w F W => ?_
  rcases Bool.eq_false_or_eq_true (decide ((-1) ≤ x6)) with hb | hb
  ·
   have H := AL (Bd hb) H
   rw [hb] at F
   clear hb
   iterate 2 refine AE F W (Aj F Aa Aa Aa Aa) Aa (Ao Aa) (Ai F Aa).q fun a w F W => ?_
   refine AE F W (Aj F Aa Aa Aa Aa) Aa (Ao Aa) (Cl (r := A4) (l := p0) Ee Aa F Aa (Bk Bz h1 (Ax h_v1))).q fun a w F W => ?_
   refine AE F W (Aj F Aa Aa Aa Aa) Aa (Ao Aa) (BO F Aa Aa).q fun a w F W => ?_
   refine ls F W Aa (Au F Aa Aa Aa).q fun a w F W => ?_
   refine ls F W Aa (Ai F Aa).q fun a w F W => ?_
   rcases Bool.eq_false_or_eq_true (decide (x6 < (p0.length : Int))) with hb | hb
   ·
    have H := AL (Bd hb) H
    rw [hb] at F
    clear hb
    refine Gs (Aj F Aa Aa Aa Aa) ?_
    obtain ⟨x14, h20, H⟩ := Aq H
    refine ls F W Aa (AW (v := Value.bool x14) F H9 Aa (fun w W => GD any w _ h20)) fun a w F W => ?_
    refine ls F W Aa (Au F Aa Aa Aa).q fun a w F W => ?_
    refine ls F W Aa (Af F Aa).q fun a w F W => ?_
    refine Ag (Ad ?_)
    exact ⟨_, H, F.re ⟨rfl, trivial⟩, W⟩
   have H := AK (Be hb) H
   rw [hb] at F
   clear hb
   refine Cw F Aa Aa Aa Aa Aa Aa Aa fun a F => ?_
   refine ls F W Aa (Ap F Aa Aa Aa).q fun a w F W => ?_
   refine ls F W Aa (Af F Aa).q fun a w F W => ?_
   refine Ag (Ad ?_)
   exact ⟨_, H, F.re ⟨rfl, trivial⟩, W⟩
  have H := AK (Be hb) H
  rw [hb] at F
  clear hb
  iterate 4 refine Cw F Aa Aa Aa Aa Aa Aa Aa fun a F => ?_
  refine ls F W Aa (Ap F Aa Aa Aa).q fun a w F W => ?_
  refine ls F W Aa (Ai F Aa).q fun a w F W => ?_
  refine Cw F Aa Aa Aa Aa Aa Aa Aa fun a F => ?_
  refine ls F W Aa (Ap F Aa Aa Aa).q fun a w F W => ?_
  refine ls F W Aa (Af F Aa).q fun a w F W => ?_
  refine Ag (Ad ?_)
  exact ⟨_, H, F.re ⟨rfl, trivial⟩, W⟩
 rintro a w ⟨x13, hj, F, W⟩
 have hj := AO hj
 subst hj
 have H := K5
 clear G5 K5
 refine Aw ?_
 have H := AO H
 subst H
 refine AF (.inl Aa) F W Aa (Av F Aa) ?_
 exact ⟨rfl, W.done⟩
end Go.Proofs.Ytkjjioigbpkifaa
