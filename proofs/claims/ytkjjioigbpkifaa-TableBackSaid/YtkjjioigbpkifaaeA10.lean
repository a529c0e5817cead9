/- The functions of layer 11, En. Conditions: none. -/
import Derived.Test.YtkjjioigbpkifaaeA9
namespace Go.Proofs.Ytkjjioigbpkifaa
open Go Go.RowKit
set_option linter.unusedVariables false
set_option linter.unusedSimpArgs false
set_option maxRecDepth 20000
set_option synthInstance.maxSize 1000
noncomputable def CT (p0 : List (Int × (Int × (Int × Int × Int × Int) × (Int × Int × Int × Int)) × (List (Int × Int × Int)))) (p1 : Int × (Int × (Int × Int × Int × Int) × (Int × Int × Int × Int)) × (List (Int × Int × Int))) : Int → Option (Int ⊕ (Unit ⊕ Bool))
  | x7 => (if x7 < (p0.length : Int) then (ix p0 x7).bind fun x8 => (if (Fa x8 p1) = true then (Dc).bind fun x9 => some (.inr (.inr x9)) else some (.inl (CA (x7 + 1)))) else some (.inr (.inl ())))
noncomputable def DO (p0 : List (Int × (Int × (Int × Int × Int × Int) × (Int × Int × Int × Int)) × (List (Int × Int × Int)))) (p1 : Int × (Int × (Int × Int × Int × Int) × (Int × Int × Int × Int)) × (List (Int × Int × Int))) (p2 : Int) (p3 : Int) (p4 : Int) (p5 : Int × Int × Int × Int) : Option Bool := ((FE p0).bind fun x2 => (if (!x2) = true then some true else (if 10 < (p1.2.2.length : Int) then some true else (FQ p0 p2 p3).bind fun x3 => (if (!x3) = true then some true else (E2 p1 p2).bind fun x4 => (if (!x4) = true then some true else (FG p5).bind fun x5 => some (!x5)))))).bind fun x1 => (if x1 = true then (Dc).bind fun x6 => some x6 else Fp (Bk (CT p0 p1) 0) fun _ => (Cx p0 (1, p1, false) p2 p3).bind fun x10 => (if x10.2 ≠ 0 then (if x10.2 = 6 then (if (p0.length : Int) = p3 then (El x10.1 p0).bind fun x12 => (if x12 = true then (Dc).bind fun x13 => some x13 else some false) else some false) else some false).bind fun x11 => some x11 else (Cx x10.1 (5, p1, false) p2 p3).bind fun x14 => (if (x10.1.length : Int) ≠ (CA ((p0.length : Int) + 1)) then some true else (if x14.2 ≠ 0 then some true else (El x14.1 p0).bind fun x16 => some (!x16))).bind fun x15 => (if x15 = true then some false else (FT p0 p4 p5).bind fun x17 => ((Dw p1.2.1 p4 p5).bind fun x19 => (if (!x19) = true then some true else (if 0 ≤ x17 then (ix p0 x17).bind fun x20 => some (decide (p1.1 ≤ x20.1)) else some false))).bind fun x18 => (if x18 = true then ((CS x10.1 p4 p5).bind fun x22 => (GF p0 p4 p5).bind fun x23 => (EF x22 x23).bind fun x24 => (if x24 = true then (Dc).bind fun x25 => some x25 else some false)).bind fun x21 => some x21 else ((CS x10.1 p4 p5).bind fun x27 => (F0 p1.2.2 p5).bind fun x28 => (EF x27 x28).bind fun x29 => (if x29 = true then (Dc).bind fun x30 => some x30 else some false)).bind fun x26 => some x26))))
theorem HY (Y : Nat → Prop) (w0 : World) (v1 : Value) (v2 : Value) (p0 : List (Int × (Int × (Int × Int × Int × Int) × (Int × Int × Int × Int)) × (List (Int × Int × Int)))) (p1 : Int × (Int × (Int × Int × Int × Int) × (Int × Int × Int × Int)) × (List (Int × Int × Int))) (p2 : Int) (p3 : Int) (p4 : Int) (p5 : Int × Int × Int × Int) (r : Bool) (H : DO p0 p1 p2 p3 p4 p5 = some r) (s_v1 : Sl w0 Y Bc v1 p0) (s_v2 : Sl w0 Y Bu v2 p1.2.2) :
    Calls Try.prog 6 #[v1, .agg #[.int .i64 p1.1, .int .i64 p1.2.1.1, .int .i64 p1.2.1.2.1.1, .int .i64 p1.2.1.2.1.2.1, .int .i64 p1.2.1.2.1.2.2.1, .int .i64 p1.2.1.2.1.2.2.2, .int .i64 p1.2.1.2.2.1, .int .i64 p1.2.1.2.2.2.1, .int .i64 p1.2.1.2.2.2.2.1, .int .i64 p1.2.1.2.2.2.2.2, v2], .int .i64 p2, .int .i64 p3, .int .i64 p4, .agg #[.int .i64 p5.1, .int .i64 p5.2.1, .int .i64 p5.2.2.1, .int .i64 p5.2.2.2]] w0 fun e w' => e = .returned (.bool r) ∧ Below w0.heap.size w0 w' := by
 refine enter Try.func6 Aa Try.ntmps6 Aa fun a F => ?_
 have W := Stw.start Y w0
 obtain ⟨v3, h1, s_v1⟩ := s_v1.ex Bl
 have h_v1 := W.nx s_v1
 have h_v2 := W.nx s_v2
 unfold DO at H
 refine Ak (Ae ?_)
 refine BS (cs := [.int .i64 p1.1, .int .i64 p1.2.1.1, .int .i64 p1.2.1.2.1.1, .int .i64 p1.2.1.2.1.2.1, .int .i64 p1.2.1.2.1.2.2.1, .int .i64 p1.2.1.2.1.2.2.2, .int .i64 p1.2.1.2.2.1, .int .i64 p1.2.1.2.2.2.1, .int .i64 p1.2.1.2.2.2.2.1, .int .i64 p1.2.1.2.2.2.2.2, v2]) F W Aa Aa Aa fun b1 a w F W => ?_
 refine BS (cs := [.int .i64 p5.1, .int .i64 p5.2.1, .int .i64 p5.2.2.1, .int .i64 p5.2.2.2]) F W Aa Aa Aa fun b2 a w F W => ?_
 refine ls F W Aa (Ag F Aa).q fun a w F W => ?_
 refine Af (Ad (Ak ?_))
 obtain ⟨o1, G1, K1⟩ := Ap H
 refine AH (fun a w => ∃ x1 : Bool, some (x1) = some o1 ∧ Fr 160 [] [(0, v1), (2, .int .i64 p2), (3, .int .i64 p3), (4, .int .i64 p4), (7, .pointer (some ⟨b1, 0, none⟩)), (11, .pointer (some ⟨b2, 0, none⟩)), (12, .bool false), (45, .bool x1)] a ∧ Stw ⟨Y, [], w0⟩ [(b2, [.int .i64 p5.1, .int .i64 p5.2.1, .int .i64 p5.2.2.1, .int .i64 p5.2.2.2]), (b1, [.int .i64 p1.1, .int .i64 p1.2.1.1, .int .i64 p1.2.1.2.1.1, .int .i64 p1.2.1.2.1.2.1, .int .i64 p1.2.1.2.1.2.2.1, .int .i64 p1.2.1.2.1.2.2.2, .int .i64 p1.2.1.2.2.1, .int .i64 p1.2.1.2.2.2.1, .int .i64 p1.2.1.2.2.2.2.1, .int .i64 p1.2.1.2.2.2.2.2, v2])] [] w) ?_ ?_
 ·
  have H := G1
  clear G1 K1
  refine Ae ?_
  refine ls F W Aa (Ah F Aa).q fun a w F W => ?_
  obtain ⟨x2, h2, H⟩ := Ap H
  refine ls F W Aa (AY (v := Value.bool x2) F H8 Aa (fun w W => J5 any w (v1) p0 _ h2 (((Be Bl h1 (Au h_v1)) : CV _ _ _ _ _ _) w W).nx)) fun a w F W => ?_
  refine ls F W Aa (E9 F Aa).q fun a w F W => ?_
  refine ls F W Aa (Ah F Aa).q fun a w F W => ?_
  rcases Bool.eq_false_or_eq_true (!x2) with hb | hb
  ·
   have H := AK hb H
   rw [hb] at F
   clear hb
   iterate 4 refine Cs F Aa Aa Aa Aa Aa Aa Aa fun a F => ?_
   refine ls F W Aa (Aw F Aa Aa Aa).q fun a w F W => ?_
   refine ls F W Aa (Ah F Aa).q fun a w F W => ?_
   iterate 5 refine Cs F Aa Aa Aa Aa Aa Aa Aa fun a F => ?_
   refine ls F W Aa (Aw F Aa Aa Aa).q fun a w F W => ?_
   refine ls F W Aa (Ah F Aa).q fun a w F W => ?_
   iterate 4 refine Cs F Aa Aa Aa Aa Aa Aa Aa fun a F => ?_
   refine ls F W Aa (Aw F Aa Aa Aa).q fun a w F W => ?_
   refine ls F W Aa (Ah F Aa).q fun a w F W => ?_
   iterate 3 refine Cs F Aa Aa Aa Aa Aa Aa Aa fun a F => ?_
   refine ls F W Aa (Aw F Aa Aa Aa).q fun a w F W => ?_
   refine Af (Ad ?_)
   have W := W.frontM (i := 1) Aa Aa
   have W := W.frontM (i := 1) Aa Aa
   exact ⟨_, H, F.re ⟨rfl, Aa, Aa, Aa, Aa, Aa, Aa, Aa, trivial⟩, W⟩
  have H := AJ (by rw [hb]; decide) H
  rw [hb] at F
  clear hb
  refine AG F W (Ai F Aa Aa Aa Aa) Aa (Ao Aa) (Al Ct Aa Aa Aa Hr F Aa 10 Aa).q fun a w F W => ?_
  refine AG F W (Ai F Aa Aa Aa Aa) Aa (Ao Aa) (As (v := v2) 1 F Aa Aa Hr Aa).q fun a w F W => ?_
  refine AG F W (Ai F Aa Aa Aa Aa) Aa (Ao Aa) (B1 (r := Bu) (l := p1.2.2) Hs Aa F Aa (Au h_v2)).q fun a w F W => ?_
  refine AG F W (Ai F Aa Aa Aa Aa) Aa (Ao Aa) (Gb F Aa Aa).q fun a w F W => ?_
  refine ls F W Aa (Aq F Aa Aa Aa).q fun a w F W => ?_
  refine ls F W Aa (Ah F Aa).q fun a w F W => ?_
  rcases Bool.eq_false_or_eq_true (decide (10 < (p1.2.2.length : Int))) with hb | hb
  ·
   have H := AK (Bi hb) H
   rw [hb] at F
   clear hb
   iterate 5 refine Cs F Aa Aa Aa Aa Aa Aa Aa fun a F => ?_
   refine ls F W Aa (Aw F Aa Aa Aa).q fun a w F W => ?_
   refine ls F W Aa (Ah F Aa).q fun a w F W => ?_
   iterate 4 refine Cs F Aa Aa Aa Aa Aa Aa Aa fun a F => ?_
   refine ls F W Aa (Aw F Aa Aa Aa).q fun a w F W => ?_
   refine ls F W Aa (Ah F Aa).q fun a w F W => ?_
   iterate 3 refine Cs F Aa Aa Aa Aa Aa Aa Aa fun a F => ?_
   refine ls F W Aa (Aw F Aa Aa Aa).q fun a w F W => ?_
   refine Af (Ad ?_)
   have W := W.frontM (i := 1) Aa Aa
   have W := W.frontM (i := 1) Aa Aa
   exact ⟨_, H, F.re ⟨rfl, Aa, Aa, Aa, Aa, Aa, Aa, Aa, trivial⟩, W⟩
  have H := AJ (Bh hb) H
  rw [hb] at F
  clear hb
  iterate 3 refine AG F W (Ai F Aa Aa Aa Aa) Aa (Ao Aa) (Ah F Aa).q fun a w F W => ?_
  refine FD (Ai F Aa Aa Aa Aa) ?_
  obtain ⟨x3, h3, H⟩ := Ap H
  refine ls F W Aa (AY (v := Value.bool x3) F PD Aa (fun w W => JB any w (v1) p0 p2 p3 _ h3 (((Be Bl h1 (Au h_v1)) : CV _ _ _ _ _ _) w W).nx)) fun a w F W => ?_
  refine AG F W (Ai F Aa Aa Aa Aa) Aa (Ao Aa) (E9 F Aa).q fun a w F W => ?_
  refine ls F W Aa (Aq F Aa Aa Aa).q fun a w F W => ?_
  refine ls F W Aa (Ah F Aa).q fun a w F W => ?_
  rcases Bool.eq_false_or_eq_true (!x3) with hb | hb
  ·
   have H := AK hb H
   rw [hb] at F
   clear hb
   iterate 4 refine Cs F Aa Aa Aa Aa Aa Aa Aa fun a F => ?_
   refine ls F W Aa (Aw F Aa Aa Aa).q fun a w F W => ?_
   refine ls F W Aa (Ah F Aa).q fun a w F W => ?_
   iterate 3 refine Cs F Aa Aa Aa Aa Aa Aa Aa fun a F => ?_
   refine ls F W Aa (Aw F Aa Aa Aa).q fun a w F W => ?_
   refine Af (Ad ?_)
   have W := W.frontM (i := 1) Aa Aa
   have W := W.frontM (i := 1) Aa Aa
   exact ⟨_, H, F.re ⟨rfl, Aa, Aa, Aa, Aa, Aa, Aa, Aa, trivial⟩, W⟩
  have H := AJ (by rw [hb]; decide) H
  rw [hb] at F
  clear hb
  refine AG F W (Ai F Aa Aa Aa Aa) Aa (Ao Aa) (As (v := Value.agg #[.int .i64 p1.1, .int .i64 p1.2.1.1, .int .i64 p1.2.1.2.1.1, .int .i64 p1.2.1.2.1.2.1, .int .i64 p1.2.1.2.1.2.2.1, .int .i64 p1.2.1.2.1.2.2.2, .int .i64 p1.2.1.2.2.1, .int .i64 p1.2.1.2.2.2.1, .int .i64 p1.2.1.2.2.2.2.1, .int .i64 p1.2.1.2.2.2.2.2, v2]) 1 F Aa Aa C6 Aa).q fun a w F W => ?_
  refine AG F W (Ai F Aa Aa Aa Aa) Aa (Ao Aa) (Ah F Aa).q fun a w F W => ?_
  refine FD (Ai F Aa Aa Aa Aa) ?_
  obtain ⟨x4, h4, H⟩ := Ap H
  refine ls F W Aa (AY (v := Value.bool x4) F O5 Aa (fun w W => HC any w (v2) p1 p2 _ h4 (((Au h_v2) : CV _ _ _ _ _ _) w W).nx)) fun a w F W => ?_
  refine AG F W (Ai F Aa Aa Aa Aa) Aa (Ao Aa) (E9 F Aa).q fun a w F W => ?_
  refine ls F W Aa (Aq F Aa Aa Aa).q fun a w F W => ?_
  refine ls F W Aa (Ah F Aa).q fun a w F W => ?_
  rcases Bool.eq_false_or_eq_true (!x4) with hb | hb
  ·
   have H := AK hb H
   rw [hb] at F
   clear hb
   iterate 3 refine Cs F Aa Aa Aa Aa Aa Aa Aa fun a F => ?_
   refine ls F W Aa (Aw F Aa Aa Aa).q fun a w F W => ?_
   refine Af (Ad ?_)
   have W := W.frontM (i := 1) Aa Aa
   have W := W.frontM (i := 1) Aa Aa
   exact ⟨_, H, F.re ⟨rfl, Aa, Aa, Aa, Aa, Aa, Aa, Aa, trivial⟩, W⟩
  have H := AJ (by rw [hb]; decide) H
  rw [hb] at F
  clear hb
  refine AG F W (Ai F Aa Aa Aa Aa) Aa (Ao Aa) (As (v := Value.agg #[.int .i64 p5.1, .int .i64 p5.2.1, .int .i64 p5.2.2.1, .int .i64 p5.2.2.2]) 0 F Aa Aa GD Aa).q fun a w F W => ?_
  refine FD (Ai F Aa Aa Aa Aa) ?_
  obtain ⟨x5, h5, H⟩ := Ap H
  refine ls F W Aa (AY (v := Value.bool x5) F PX Aa (fun w W => JE any w p5 _ h5)) fun a w F W => ?_
  refine AG F W (Ai F Aa Aa Aa Aa) Aa (Ao Aa) (E9 F Aa).q fun a w F W => ?_
  refine ls F W Aa (Aq F Aa Aa Aa).q fun a w F W => ?_
  refine Af (Ad ?_)
  have W := W.frontM (i := 1) Aa Aa
  have W := W.frontM (i := 1) Aa Aa
  exact ⟨_, H, F.re ⟨rfl, Aa, Aa, Aa, Aa, Aa, Aa, Aa, trivial⟩, W⟩
 rintro a w ⟨x1, hj, F, W⟩
 have hj := AL hj
 subst hj
 have H := K1
 clear G1 K1
 refine AA F Aa (fun hb => ?_) fun hb => ?_
 ·
  have H := AK hb H
  rw [hb] at F
  clear hb
  refine Ak (Ae ?_)
  obtain ⟨x6, h6, H⟩ := Ap H
  refine ls F W Aa (AY (v := Value.bool x6) F H9 Aa (fun w W => EA any w _ h6)) fun a w F W => ?_
  refine ls F W Aa (Ag F Aa).q fun a w F W => ?_
  refine Af (Ad (Ax (AD ?_)))
  have H := AL H
  subst H
  refine AF (.inl Aa) F W Aa (Av F Aa) ?_
  exact ⟨rfl, W.done⟩
 have H := AJ (by rw [hb]; decide) H
 rw [hb] at F
 clear hb
 refine Ay (Ad ?_)
 obtain ⟨o2, G2, K2, L2⟩ := HZ H
 refine AH (fun a w => some (Sum.inl ()) = some o2 ∧ Fr 160 [] [(0, v1), (2, .int .i64 p2), (3, .int .i64 p3), (4, .int .i64 p4), (7, .pointer (some ⟨b1, 0, none⟩)), (11, .pointer (some ⟨b2, 0, none⟩)), (12, .bool false)] a ∧ Stw ⟨Y, [], w0⟩ [(b2, [.int .i64 p5.1, .int .i64 p5.2.1, .int .i64 p5.2.2.1, .int .i64 p5.2.2.2]), (b1, [.int .i64 p1.1, .int .i64 p1.2.1.1, .int .i64 p1.2.1.2.1.1, .int .i64 p1.2.1.2.1.2.1, .int .i64 p1.2.1.2.1.2.2.1, .int .i64 p1.2.1.2.1.2.2.2, .int .i64 p1.2.1.2.2.1, .int .i64 p1.2.1.2.2.2.1, .int .i64 p1.2.1.2.2.2.2.1, .int .i64 p1.2.1.2.2.2.2.2, v2])] [] w) ?_ ?_
 ·
  have H := G2
  clear G2 K2
  refine Ak (Ae ?_)
  refine ls F W Aa (Ag F Aa).q fun a w F W => ?_
  refine Af (Ad (AC ?_))
  have W := W.frontM (i := 1) Aa Aa
  have W := W.frontM (i := 1) Aa Aa
  refine Bz H (fun s a w => Fr 160 [] [(0, v1), (2, .int .i64 p2), (3, .int .i64 p3), (4, .int .i64 p4), (7, .pointer (some ⟨b1, 0, none⟩)), (11, .pointer (some ⟨b2, 0, none⟩)), (12, .bool false), (13, .int .i64 s)] a ∧ Stw ⟨Y, [], w0⟩ [(b2, [.int .i64 p5.1, .int .i64 p5.2.1, .int .i64 p5.2.2.1, .int .i64 p5.2.2.2]), (b1, [.int .i64 p1.1, .int .i64 p1.2.1.1, .int .i64 p1.2.1.2.1.1, .int .i64 p1.2.1.2.1.2.1, .int .i64 p1.2.1.2.1.2.2.1, .int .i64 p1.2.1.2.1.2.2.2, .int .i64 p1.2.1.2.2.1, .int .i64 p1.2.1.2.2.2.1, .int .i64 p1.2.1.2.2.2.2.1, .int .i64 p1.2.1.2.2.2.2.2, v2])] [] w) ⟨F.re ⟨rfl, Aa, Aa, Aa, Aa, Aa, Aa, Aa, trivial⟩, W⟩ fun s o a w H L3 hR => ?_
  obtain ⟨x7, rfl⟩ : ∃ x, x = s := ⟨s, rfl⟩
  obtain ⟨F, W⟩ := hR
  have F : Fr 160 [] [(0, v1), (2, .int .i64 p2), (3, .int .i64 p3), (4, .int .i64 p4), (7, .pointer (some ⟨b1, 0, none⟩)), (11, .pointer (some ⟨b2, 0, none⟩)), (12, .bool false), (13, .int .i64 x7)] a := F
  have W : Stw ⟨Y, [], w0⟩ [(b2, [.int .i64 p5.1, .int .i64 p5.2.1, .int .i64 p5.2.2.1, .int .i64 p5.2.2.2]), (b1, [.int .i64 p1.1, .int .i64 p1.2.1.1, .int .i64 p1.2.1.2.1.1, .int .i64 p1.2.1.2.1.2.1, .int .i64 p1.2.1.2.1.2.2.1, .int .i64 p1.2.1.2.1.2.2.2, .int .i64 p1.2.1.2.2.1, .int .i64 p1.2.1.2.2.2.1, .int .i64 p1.2.1.2.2.2.2.1, .int .i64 p1.2.1.2.2.2.2.2, v2])] [] w := W
  rw [CT] at H
  refine Ak (Ak (Ae ?_))
  iterate 2 refine ls F W Aa (Ah F Aa).q fun a w F W => ?_
  refine ls F W Aa (B1 (r := Bc) (l := p0) DZ Aa F Aa (Be Bl h1 (Au h_v1))).q fun a w F W => ?_
  refine ls F W Aa (BN F Aa Aa).q fun a w F W => ?_
  refine Af (Ad ?_)
  refine AA F Aa (fun hb => ?_) fun hb => ?_
  ·
   have H := AK (Bi hb) H
   rw [hb] at F
   clear hb
   refine Ay (Ad (Ak (AC (Ak ?_))))
   refine Ci W MO (by kernel_rfl) ?_
   iterate 2 refine qs F Aa (Ah F Aa).q fun a F => ?_
   obtain ⟨x8, h7, H⟩ := Ap H
   obtain ⟨v4, h8, h9⟩ := CE h1 h7
   have h10 : B9 v4 = [.int .i64 x8.1, .int .i64 x8.2.1.1, .int .i64 x8.2.1.2.1.1, .int .i64 x8.2.1.2.1.2.1, .int .i64 x8.2.1.2.1.2.2.1, .int .i64 x8.2.1.2.1.2.2.2, .int .i64 x8.2.1.2.2.1, .int .i64 x8.2.1.2.2.2.1, .int .i64 x8.2.1.2.2.2.2.1, .int .i64 x8.2.1.2.2.2.2.2, (v4.2.2.1)] := congrArg (fun q : Int × (Int × (Int × Int × Int × Int) × (Int × Int × Int × Int)) × (List (Int × Int × Int)) => ([.int .i64 q.1, .int .i64 q.2.1.1, .int .i64 q.2.1.2.1.1, .int .i64 q.2.1.2.1.2.1, .int .i64 q.2.1.2.1.2.2.1, .int .i64 q.2.1.2.1.2.2.2, .int .i64 q.2.1.2.2.1, .int .i64 q.2.1.2.2.2.1, .int .i64 q.2.1.2.2.2.2.1, .int .i64 q.2.1.2.2.2.2.2, (v4.2.2.1)] : List Value)) h9
   refine qs F Aa (Bd (r := CM) Fh F Aa Aa (Au h_v1) h8).q fun a F => ?_
   refine qs F Aa (A1 (y := Value.agg #[.int .i64 x8.1, .int .i64 x8.2.1.1, .int .i64 x8.2.1.2.1.1, .int .i64 x8.2.1.2.1.2.1, .int .i64 x8.2.1.2.1.2.2.1, .int .i64 x8.2.1.2.1.2.2.2, .int .i64 x8.2.1.2.2.1, .int .i64 x8.2.1.2.2.2.1, .int .i64 x8.2.1.2.2.2.2.1, .int .i64 x8.2.1.2.2.2.2.2, (v4.2.2.1)]) (j := 0) (i := x7) (enc := B9) F Aa Aa (Au h_v1) h8 D8 C6 (by rw [h10]; rfl)).q fun a F => ?_
   refine qs F Aa (As (v := Value.agg #[.int .i64 p1.1, .int .i64 p1.2.1.1, .int .i64 p1.2.1.2.1.1, .int .i64 p1.2.1.2.1.2.1, .int .i64 p1.2.1.2.1.2.2.1, .int .i64 p1.2.1.2.1.2.2.2, .int .i64 p1.2.1.2.2.1, .int .i64 p1.2.1.2.2.2.1, .int .i64 p1.2.1.2.2.2.2.1, .int .i64 p1.2.1.2.2.2.2.2, v2]) 1 F Aa Aa C6 Aa).q fun a F => ?_
   refine qs F Aa (AY (v := Value.bool (Fa x8 p1)) F Pe Aa (fun w W => H2 any w ((v4.2.2.1)) (v2) x8 p1 _ Aa (((DU (Au h_v1) h8 (BC.snd (BC.snd BC.here)) (congrArg (fun q : Int × (Int × (Int × Int × Int × Int) × (Int × Int × Int × Int)) × (List (Int × Int × Int)) => q.2.2) h9)) : CV _ _ _ _ _ _) w W).nx (((Au h_v2) : CV _ _ _ _ _ _) w W).nx)) fun a F => ?_
   refine A9 fun w W => ?_
   refine Ad ?_
   refine AA F Aa (fun hb => ?_) fun hb => ?_
   ·
    have H := AK hb H
    rw [hb] at F
    clear hb
    refine Ak (Ae ?_)
    obtain ⟨x9, h11, H⟩ := Ap H
    refine ls F W Aa (AY (v := Value.bool x9) F H9 Aa (fun w W => EA any w _ h11)) fun a w F W => ?_
    refine ls F W Aa (Ag F Aa).q fun a w F W => ?_
    refine Af (Ad (Ax (AO ?_)))
    iterate 2 refine AD ?_
    refine AO (AD ?_)
    have H := L3 _ H
    have H := L2 _ H
    have H := AL H
    subst H
    refine AF (.inl Aa) F W Aa (Av F Aa) ?_
    exact ⟨rfl, W.done⟩
   have H := AJ (by rw [hb]; decide) H
   rw [hb] at F
   clear hb
   refine Ay (A5 (Ad (Ae ?_)))
   refine ls F W Aa (Ah F Aa).q fun a w F W => ?_
   refine ls F W Aa (B7 F Aa Aa Aa).q fun a w F W => ?_
   refine ls F W Aa (Ag F Aa).q fun a w F W => ?_
   refine Af (Ad ?_)
   have W := W.frontM (i := 1) Aa Aa
   have W := W.frontM (i := 1) Aa Aa
   exact ⟨_, H, F.re ⟨rfl, Aa, Aa, Aa, Aa, Aa, Aa, Aa, trivial⟩, W⟩
  have H := AJ (Bh hb) H
  rw [hb] at F
  clear hb
  refine Bw ?_
  iterate 2 refine B3 ?_
  refine Bx (Ad ?_)
  have W := W.frontM (i := 1) Aa Aa
  have W := W.frontM (i := 1) Aa Aa
  have H := L3 _ H
  exact ⟨H, F.re ⟨rfl, Aa, Aa, Aa, Aa, Aa, Aa, trivial⟩, W⟩
 rintro a w ⟨hj, F, W⟩
 have H := K2 _ hj
 clear hj G2 K2 L2
 refine Ak (Ae ?_)
 refine ls F W Aa (Ah F Aa).q fun a w F W => ?_
 refine ls F W Aa (As (v := Value.agg #[.int .i64 p1.1, .int .i64 p1.2.1.1, .int .i64 p1.2.1.2.1.1, .int .i64 p1.2.1.2.1.2.1, .int .i64 p1.2.1.2.1.2.2.1, .int .i64 p1.2.1.2.1.2.2.2, .int .i64 p1.2.1.2.2.1, .int .i64 p1.2.1.2.2.2.1, .int .i64 p1.2.1.2.2.2.2.1, .int .i64 p1.2.1.2.2.2.2.2, v2]) 1 F Aa Aa C6 Aa).q fun a w F W => ?_
 refine ls F W Aa (DI (v := Value.agg #[.int .i64 1, .int .i64 p1.1, .int .i64 p1.2.1.1, .int .i64 p1.2.1.2.1.1, .int .i64 p1.2.1.2.1.2.1, .int .i64 p1.2.1.2.1.2.2.1, .int .i64 p1.2.1.2.1.2.2.2, .int .i64 p1.2.1.2.2.1, .int .i64 p1.2.1.2.2.2.1, .int .i64 p1.2.1.2.2.2.2.1, .int .i64 p1.2.1.2.2.2.2.2, v2, .bool false]) Ot F Aa (B5 Aa Aa Aa (B5 Aa Aa Aa EH)) Aa).q fun a w F W => ?_
 iterate 2 refine ls F W Aa (Ah F Aa).q fun a w F W => ?_
 obtain ⟨x10, h12, H⟩ := Ap H
 refine Bp (Ml := []) (Zl := []) (M := [(b2, [.int .i64 p5.1, .int .i64 p5.2.1, .int .i64 p5.2.2.1, .int .i64 p5.2.2.2]), (b1, [.int .i64 p1.1, .int .i64 p1.2.1.1, .int .i64 p1.2.1.2.1.1, .int .i64 p1.2.1.2.1.2.1, .int .i64 p1.2.1.2.1.2.2.1, .int .i64 p1.2.1.2.1.2.2.2, .int .i64 p1.2.1.2.2.1, .int .i64 p1.2.1.2.2.2.1, .int .i64 p1.2.1.2.2.2.2.1, .int .i64 p1.2.1.2.2.2.2.2, v2])]) (Z := []) (β := Value) (rv := fun x => .tuple #[x, .int .i64 x10.2]) (MM := fun x => []) (ZZ := fun x => [BM x Bc x10.1]) F W OD Aa Aa (fun hL => FC _ w (v1) (v2) p0 (1, p1, false) p2 p3 _ h12 (Sl.hide Bl h1 (W.old s_v1)) (W.old s_v2)) fun x a w F W => ?_
 obtain ⟨v5, rfl⟩ : ∃ y, y = x := ⟨x, rfl⟩
 have W : Stw ⟨Y, [], w0⟩ [(b2, [.int .i64 p5.1, .int .i64 p5.2.1, .int .i64 p5.2.2.1, .int .i64 p5.2.2.2]), (b1, [.int .i64 p1.1, .int .i64 p1.2.1.1, .int .i64 p1.2.1.2.1.1, .int .i64 p1.2.1.2.1.2.1, .int .i64 p1.2.1.2.1.2.2.1, .int .i64 p1.2.1.2.1.2.2.2, .int .i64 p1.2.1.2.2.1, .int .i64 p1.2.1.2.2.2.1, .int .i64 p1.2.1.2.2.2.2.1, .int .i64 p1.2.1.2.2.2.2.2, v2])] [BM v5 Bc x10.1] w := W
 refine ls F W Aa (Ah F Aa).q fun a w F W => ?_
 refine ls F W Aa (Ck (v := v5) F Aa Aa).q fun a w F W => ?_
 refine ls F W Aa (Ck (v := Value.int .i64 x10.2) F Aa Aa).q fun a w F W => ?_
 iterate 2 refine ls F W Aa (Ag F Aa).q fun a w F W => ?_
 refine Af (Ad (Ak (Ak (Ae ?_))))
 refine ls F W Aa (Ah F Aa).q fun a w F W => ?_
 refine ls F W Aa (Eh F Aa Aa).q fun a w F W => ?_
 refine Af (Ad ?_)
 refine AA F Aa (fun hb => ?_) fun hb => ?_
 ·
  have H := AK (Bi hb) H
  rw [hb] at F
  clear hb
  obtain ⟨o4, G4, K4⟩ := Ap H
  refine AH (fun a w => ∃ x11 : Bool, some (x11) = some o4 ∧ Fr 160 [] [(0, v1), (2, .int .i64 p2), (3, .int .i64 p3), (4, .int .i64 p4), (7, .pointer (some ⟨b1, 0, none⟩)), (11, .pointer (some ⟨b2, 0, none⟩)), (12, .bool x11), (14, v5)] a ∧ Stw ⟨Y, [], w0⟩ [(b2, [.int .i64 p5.1, .int .i64 p5.2.1, .int .i64 p5.2.2.1, .int .i64 p5.2.2.2]), (b1, [.int .i64 p1.1, .int .i64 p1.2.1.1, .int .i64 p1.2.1.2.1.1, .int .i64 p1.2.1.2.1.2.1, .int .i64 p1.2.1.2.1.2.2.1, .int .i64 p1.2.1.2.1.2.2.2, .int .i64 p1.2.1.2.2.1, .int .i64 p1.2.1.2.2.2.1, .int .i64 p1.2.1.2.2.2.2.1, .int .i64 p1.2.1.2.2.2.2.2, v2])] [BM v5 Bc x10.1] w) ?_ ?_
  ·
   have H := G4
   clear G4 K4
   refine Ae ?_
   refine ls F W Aa (Ah F Aa).q fun a w F W => ?_
   refine ls F W Aa (BJ F Aa Aa).q fun a w F W => ?_
   refine ls F W Aa (Ah F Aa).q fun a w F W => ?_
   rcases Bool.eq_false_or_eq_true (decide (x10.2 = 6)) with hb | hb
   ·
    have H := AK (Bi hb) H
    rw [hb] at F
    clear hb
    refine AG F W (Ai F Aa Aa Aa Aa) Aa (Ao Aa) (Ah F Aa).q fun a w F W => ?_
    refine AG F W (Ai F Aa Aa Aa Aa) Aa (Ao Aa) (B1 (r := Bc) (l := p0) DZ Aa F Aa (Be Bl h1 (Au h_v1))).q fun a w F W => ?_
    refine AG F W (Ai F Aa Aa Aa Aa) Aa (Ao Aa) (Ah F Aa).q fun a w F W => ?_
    refine AG F W (Ai F Aa Aa Aa Aa) Aa (Ao Aa) (BJ F Aa Aa).q fun a w F W => ?_
    refine ls F W Aa (Aw F Aa Aa Aa).q fun a w F W => ?_
    refine ls F W Aa (Ah F Aa).q fun a w F W => ?_
    rcases Bool.eq_false_or_eq_true (decide ((p0.length : Int) = p3)) with hb | hb
    ·
     have H := AK (Bi hb) H
     rw [hb] at F
     clear hb
     iterate 2 refine AG F W (Ai F Aa Aa Aa Aa) Aa (Ao Aa) (Ah F Aa).q fun a w F W => ?_
     refine FD (Ai F Aa Aa Aa Aa) ?_
     obtain ⟨x12, h13, H⟩ := Ap H
     refine ls F W Aa (AY (v := Value.bool x12) F Pa Aa (fun w W => HL any w (v5) (v1) x10.1 p0 _ h13 (((CH 0 Aa) : CV _ _ _ _ _ _) w W).nx (((Be Bl h1 (Au h_v1)) : CV _ _ _ _ _ _) w W).nx)) fun a w F W => ?_
     refine ls F W Aa (Aw F Aa Aa Aa).q fun a w F W => ?_
     refine ls F W Aa (Ah F Aa).q fun a w F W => ?_
     rcases Bool.eq_false_or_eq_true x12 with hb | hb
     ·
      have H := AK hb H
      rw [hb] at F
      clear hb
      refine FD (Ai F Aa Aa Aa Aa) ?_
      obtain ⟨x13, h14, H⟩ := Ap H
      refine ls F W Aa (AY (v := Value.bool x13) F H9 Aa (fun w W => EA any w _ h14)) fun a w F W => ?_
      refine ls F W Aa (Aw F Aa Aa Aa).q fun a w F W => ?_
      refine ls F W Aa (Ag F Aa).q fun a w F W => ?_
      refine Af (Ad ?_)
      have W := W.frontM (i := 1) Aa Aa
      have W := W.frontM (i := 1) Aa Aa
      exact ⟨_, H, F.re ⟨rfl, Aa, Aa, Aa, Aa, Aa, Aa, Aa, trivial⟩, W⟩
     have H := AJ (by rw [hb]; decide) H
     rw [hb] at F
     clear hb
     refine Cs F Aa Aa Aa Aa Aa Aa Aa fun a F => ?_
     refine ls F W Aa (Aq F Aa Aa Aa).q fun a w F W => ?_
     refine ls F W Aa (Ag F Aa).q fun a w F W => ?_
     refine Af (Ad ?_)
     have W := W.frontM (i := 1) Aa Aa
     have W := W.frontM (i := 1) Aa Aa
     exact ⟨_, H, F.re ⟨rfl, Aa, Aa, Aa, Aa, Aa, Aa, Aa, trivial⟩, W⟩
    have H := AJ (Bh hb) H
    rw [hb] at F
    clear hb
    iterate 3 refine Cs F Aa Aa Aa Aa Aa Aa Aa fun a F => ?_
    refine ls F W Aa (Aq F Aa Aa Aa).q fun a w F W => ?_
    refine ls F W Aa (Ah F Aa).q fun a w F W => ?_
    refine Cs F Aa Aa Aa Aa Aa Aa Aa fun a F => ?_
    refine ls F W Aa (Aq F Aa Aa Aa).q fun a w F W => ?_
    refine ls F W Aa (Ag F Aa).q fun a w F W => ?_
    refine Af (Ad ?_)
    have W := W.frontM (i := 1) Aa Aa
    have W := W.frontM (i := 1) Aa Aa
    exact ⟨_, H, F.re ⟨rfl, Aa, Aa, Aa, Aa, Aa, Aa, Aa, trivial⟩, W⟩
   have H := AJ (Bh hb) H
   rw [hb] at F
   clear hb
   iterate 4 refine Cs F Aa Aa Aa Aa Aa Aa Aa fun a F => ?_
   refine ls F W Aa (Aq F Aa Aa Aa).q fun a w F W => ?_
   refine ls F W Aa (Ah F Aa).q fun a w F W => ?_
   iterate 3 refine Cs F Aa Aa Aa Aa Aa Aa Aa fun a F => ?_
   refine ls F W Aa (Aq F Aa Aa Aa).q fun a w F W => ?_
   refine ls F W Aa (Ah F Aa).q fun a w F W => ?_
   refine Cs F Aa Aa Aa Aa Aa Aa Aa fun a F => ?_
   refine ls F W Aa (Aq F Aa Aa Aa).q fun a w F W => ?_
   refine ls F W Aa (Ag F Aa).q fun a w F W => ?_
   refine Af (Ad ?_)
   have W := W.frontM (i := 1) Aa Aa
   have W := W.frontM (i := 1) Aa Aa
   exact ⟨_, H, F.re ⟨rfl, Aa, Aa, Aa, Aa, Aa, Aa, Aa, trivial⟩, W⟩
  rintro a w ⟨x11, hj, F, W⟩
  have hj := AL hj
  subst hj
  have H := K4
  clear G4 K4
  refine Ax (AD ?_)
  have H := AL H
  subst H
  refine AF (.inl Aa) F W Aa (Av F Aa) ?_
  exact ⟨rfl, W.done⟩
 have H := AJ (Bh hb) H
 rw [hb] at F
 clear hb
 refine Ay (Ad (Ak (Ae ?_)))
 refine ls F W Aa (Ah F Aa).q fun a w F W => ?_
 refine ls F W Aa (As (v := Value.agg #[.int .i64 p1.1, .int .i64 p1.2.1.1, .int .i64 p1.2.1.2.1.1, .int .i64 p1.2.1.2.1.2.1, .int .i64 p1.2.1.2.1.2.2.1, .int .i64 p1.2.1.2.1.2.2.2, .int .i64 p1.2.1.2.2.1, .int .i64 p1.2.1.2.2.2.1, .int .i64 p1.2.1.2.2.2.2.1, .int .i64 p1.2.1.2.2.2.2.2, v2]) 1 F Aa Aa C6 Aa).q fun a w F W => ?_
 refine ls F W Aa (DI (v := Value.agg #[.int .i64 5, .int .i64 p1.1, .int .i64 p1.2.1.1, .int .i64 p1.2.1.2.1.1, .int .i64 p1.2.1.2.1.2.1, .int .i64 p1.2.1.2.1.2.2.1, .int .i64 p1.2.1.2.1.2.2.2, .int .i64 p1.2.1.2.2.1, .int .i64 p1.2.1.2.2.2.1, .int .i64 p1.2.1.2.2.2.2.1, .int .i64 p1.2.1.2.2.2.2.2, v2, .bool false]) Ot F Aa (B5 Aa Aa Aa (B5 Aa Aa Aa EH)) Aa).q fun a w F W => ?_
 iterate 2 refine ls F W Aa (Ah F Aa).q fun a w F W => ?_
 obtain ⟨x14, h15, H⟩ := Ap H
 refine Bp (Ml := []) (Zl := []) (M := [(b2, [.int .i64 p5.1, .int .i64 p5.2.1, .int .i64 p5.2.2.1, .int .i64 p5.2.2.2]), (b1, [.int .i64 p1.1, .int .i64 p1.2.1.1, .int .i64 p1.2.1.2.1.1, .int .i64 p1.2.1.2.1.2.1, .int .i64 p1.2.1.2.1.2.2.1, .int .i64 p1.2.1.2.1.2.2.2, .int .i64 p1.2.1.2.2.1, .int .i64 p1.2.1.2.2.2.1, .int .i64 p1.2.1.2.2.2.2.1, .int .i64 p1.2.1.2.2.2.2.2, v2])]) (Z := [BM v5 Bc x10.1]) (β := Value) (rv := fun x => .tuple #[x, .int .i64 x14.2]) (MM := fun x => []) (ZZ := fun x => [BM x Bc x14.1]) F W OD Aa Aa (fun hL => FC _ w (v5) (v2) x10.1 (5, p1, false) p2 p3 _ h15 (W.item (i := 0) Aa) (W.old s_v2)) fun x a w F W => ?_
 obtain ⟨v6, rfl⟩ : ∃ y, y = x := ⟨x, rfl⟩
 have W : Stw ⟨Y, [], w0⟩ [(b2, [.int .i64 p5.1, .int .i64 p5.2.1, .int .i64 p5.2.2.1, .int .i64 p5.2.2.2]), (b1, [.int .i64 p1.1, .int .i64 p1.2.1.1, .int .i64 p1.2.1.2.1.1, .int .i64 p1.2.1.2.1.2.1, .int .i64 p1.2.1.2.1.2.2.1, .int .i64 p1.2.1.2.1.2.2.2, .int .i64 p1.2.1.2.2.1, .int .i64 p1.2.1.2.2.2.1, .int .i64 p1.2.1.2.2.2.2.1, .int .i64 p1.2.1.2.2.2.2.2, v2])] [BM v6 Bc x14.1, BM v5 Bc x10.1] w := W
 refine ls F W Aa (Ah F Aa).q fun a w F W => ?_
 refine ls F W Aa (Ck (v := v6) F Aa Aa).q fun a w F W => ?_
 refine ls F W Aa (Ck (v := Value.int .i64 x14.2) F Aa Aa).q fun a w F W => ?_
 iterate 2 refine ls F W Aa (Ag F Aa).q fun a w F W => ?_
 refine Af (Ad (Ak ?_))
 obtain ⟨o5, G5, K5⟩ := Ap H
 refine AH (fun a w => ∃ x15 : Bool, some (x15) = some o5 ∧ Fr 160 [] [(0, v1), (4, .int .i64 p4), (7, .pointer (some ⟨b1, 0, none⟩)), (11, .pointer (some ⟨b2, 0, none⟩)), (12, .bool false), (14, v5), (111, .bool x15)] a ∧ Stw ⟨Y, [], w0⟩ [(b2, [.int .i64 p5.1, .int .i64 p5.2.1, .int .i64 p5.2.2.1, .int .i64 p5.2.2.2]), (b1, [.int .i64 p1.1, .int .i64 p1.2.1.1, .int .i64 p1.2.1.2.1.1, .int .i64 p1.2.1.2.1.2.1, .int .i64 p1.2.1.2.1.2.2.1, .int .i64 p1.2.1.2.1.2.2.2, .int .i64 p1.2.1.2.2.1, .int .i64 p1.2.1.2.2.2.1, .int .i64 p1.2.1.2.2.2.2.1, .int .i64 p1.2.1.2.2.2.2.2, v2])] [BM v5 Bc x10.1] w) ?_ ?_
 ·
  have H := G5
  clear G5 K5
  refine Ae ?_
  refine ls F W Aa (Ah F Aa).q fun a w F W => ?_
  refine ls F W Aa (B1 (r := Bc) (l := x10.1) DZ Aa F Aa (CH 1 Aa)).q fun a w F W => ?_
  refine ls F W Aa (Ah F Aa).q fun a w F W => ?_
  refine ls F W Aa (B1 (r := Bc) (l := p0) DZ Aa F Aa (Be Bl h1 (Au h_v1))).q fun a w F W => ?_
  refine ls F W Aa (B7 F Aa Aa Aa).q fun a w F W => ?_
  refine ls F W Aa (Eh F Aa Aa).q fun a w F W => ?_
  refine ls F W Aa (Ah F Aa).q fun a w F W => ?_
  rcases Bool.eq_false_or_eq_true (decide ((x10.1.length : Int) ≠ (CA ((p0.length : Int) + 1)))) with hb | hb
  ·
   have H := AK (Bi hb) H
   rw [hb] at F
   clear hb
   iterate 2 refine Cs F Aa Aa Aa Aa Aa Aa Aa fun a F => ?_
   refine ls F W Aa (Aw F Aa Aa Aa).q fun a w F W => ?_
   refine ls F W Aa (Ah F Aa).q fun a w F W => ?_
   iterate 4 refine Cs F Aa Aa Aa Aa Aa Aa Aa fun a F => ?_
   refine ls F W Aa (Aw F Aa Aa Aa).q fun a w F W => ?_
   refine Af (Ad ?_)
   have W := W.frontZ (i := 1) Aa Aa
   have W := W.frontM (i := 1) Aa Aa
   have W := W.frontM (i := 1) Aa Aa
   have W := W.sub (M' := [(b2, [.int .i64 p5.1, .int .i64 p5.2.1, .int .i64 p5.2.2.1, .int .i64 p5.2.2.2]), (b1, [.int .i64 p1.1, .int .i64 p1.2.1.1, .int .i64 p1.2.1.2.1.1, .int .i64 p1.2.1.2.1.2.1, .int .i64 p1.2.1.2.1.2.2.1, .int .i64 p1.2.1.2.1.2.2.2, .int .i64 p1.2.1.2.2.1, .int .i64 p1.2.1.2.2.2.1, .int .i64 p1.2.1.2.2.2.2.1, .int .i64 p1.2.1.2.2.2.2.2, v2])]) (Z' := [BM v5 Bc x10.1]) (List.Sublist.refl _) (List.Sublist.cons_cons _ (List.nil_sublist _))
   exact ⟨_, H, F.re ⟨rfl, Aa, Aa, Aa, Aa, Aa, Aa, trivial⟩, W⟩
  have H := AJ (Bh hb) H
  rw [hb] at F
  clear hb
  refine AG F W (Ai F Aa Aa Aa Aa) Aa (Ao Aa) (Ah F Aa).q fun a w F W => ?_
  refine AG F W (Ai F Aa Aa Aa Aa) Aa (Ao Aa) (Eh F Aa Aa).q fun a w F W => ?_
  refine ls F W Aa (Aq F Aa Aa Aa).q fun a w F W => ?_
  refine ls F W Aa (Ah F Aa).q fun a w F W => ?_
  rcases Bool.eq_false_or_eq_true (decide (x14.2 ≠ 0)) with hb | hb
  ·
   have H := AK (Bi hb) H
   rw [hb] at F
   clear hb
   iterate 4 refine Cs F Aa Aa Aa Aa Aa Aa Aa fun a F => ?_
   refine ls F W Aa (Aw F Aa Aa Aa).q fun a w F W => ?_
   refine Af (Ad ?_)
   have W := W.frontZ (i := 1) Aa Aa
   have W := W.frontM (i := 1) Aa Aa
   have W := W.frontM (i := 1) Aa Aa
   have W := W.sub (M' := [(b2, [.int .i64 p5.1, .int .i64 p5.2.1, .int .i64 p5.2.2.1, .int .i64 p5.2.2.2]), (b1, [.int .i64 p1.1, .int .i64 p1.2.1.1, .int .i64 p1.2.1.2.1.1, .int .i64 p1.2.1.2.1.2.1, .int .i64 p1.2.1.2.1.2.2.1, .int .i64 p1.2.1.2.1.2.2.2, .int .i64 p1.2.1.2.2.1, .int .i64 p1.2.1.2.2.2.1, .int .i64 p1.2.1.2.2.2.2.1, .int .i64 p1.2.1.2.2.2.2.2, v2])]) (Z' := [BM v5 Bc x10.1]) (List.Sublist.refl _) (List.Sublist.cons_cons _ (List.nil_sublist _))
   exact ⟨_, H, F.re ⟨rfl, Aa, Aa, Aa, Aa, Aa, Aa, trivial⟩, W⟩
  have H := AJ (Bh hb) H
  rw [hb] at F
  clear hb
  iterate 2 refine AG F W (Ai F Aa Aa Aa Aa) Aa (Ao Aa) (Ah F Aa).q fun a w F W => ?_
  refine FD (Ai F Aa Aa Aa Aa) ?_
  obtain ⟨x16, h16, H⟩ := Ap H
  refine ls F W Aa (AY (v := Value.bool x16) F Pa Aa (fun w W => HL any w (v6) (v1) x14.1 p0 _ h16 (((CH 0 Aa) : CV _ _ _ _ _ _) w W).nx (((Be Bl h1 (Au h_v1)) : CV _ _ _ _ _ _) w W).nx)) fun a w F W => ?_
  refine AG F W (Ai F Aa Aa Aa Aa) Aa (Ao Aa) (E9 F Aa).q fun a w F W => ?_
  refine ls F W Aa (Aq F Aa Aa Aa).q fun a w F W => ?_
  refine Af (Ad ?_)
  have W := W.frontZ (i := 1) Aa Aa
  have W := W.frontM (i := 1) Aa Aa
  have W := W.frontM (i := 1) Aa Aa
  have W := W.sub (M' := [(b2, [.int .i64 p5.1, .int .i64 p5.2.1, .int .i64 p5.2.2.1, .int .i64 p5.2.2.2]), (b1, [.int .i64 p1.1, .int .i64 p1.2.1.1, .int .i64 p1.2.1.2.1.1, .int .i64 p1.2.1.2.1.2.1, .int .i64 p1.2.1.2.1.2.2.1, .int .i64 p1.2.1.2.1.2.2.2, .int .i64 p1.2.1.2.2.1, .int .i64 p1.2.1.2.2.2.1, .int .i64 p1.2.1.2.2.2.2.1, .int .i64 p1.2.1.2.2.2.2.2, v2])]) (Z' := [BM v5 Bc x10.1]) (List.Sublist.refl _) (List.Sublist.cons_cons _ (List.nil_sublist _))
  exact ⟨_, H, F.re ⟨rfl, Aa, Aa, Aa, Aa, Aa, Aa, trivial⟩, W⟩
 rintro a w ⟨x15, hj, F, W⟩
 have hj := AL hj
 subst hj
 have H := K5
 clear G5 K5
 refine AA F Aa (fun hb => ?_) fun hb => ?_
 ·
  have H := AK hb H
  rw [hb] at F
  clear hb
  refine Ak (Ae ?_)
  refine ls F W Aa (Ag F Aa).q fun a w F W => ?_
  refine Af (Ad (Ax (AD ?_)))
  have H := AL H
  subst H
  refine AF (.inl Aa) F W Aa (Av F Aa) ?_
  exact ⟨rfl, W.done⟩
 have H := AJ (by rw [hb]; decide) H
 rw [hb] at F
 clear hb
 refine Ay (Ad (Ak (Ae ?_)))
 iterate 2 refine ls F W Aa (Ah F Aa).q fun a w F W => ?_
 refine ls F W Aa (As (v := Value.agg #[.int .i64 p5.1, .int .i64 p5.2.1, .int .i64 p5.2.2.1, .int .i64 p5.2.2.2]) 0 F Aa Aa GD Aa).q fun a w F W => ?_
 obtain ⟨x17, h17, H⟩ := Ap H
 refine ls F W Aa (AY (v := Value.int .i64 x17) F OW Aa (fun w W => H6 any w (v1) p0 p4 p5 _ h17 (((Be Bl h1 (Au h_v1)) : CV _ _ _ _ _ _) w W).nx)) fun a w F W => ?_
 refine ls F W Aa (Ag F Aa).q fun a w F W => ?_
 refine Af (Ad (Ak ?_))
 obtain ⟨o6, G6, K6⟩ := Ap H
 refine AH (fun a w => ∃ x18 : Bool, some (x18) = some o6 ∧ Fr 160 [] [(0, v1), (4, .int .i64 p4), (7, .pointer (some ⟨b1, 0, none⟩)), (11, .pointer (some ⟨b2, 0, none⟩)), (12, .bool false), (14, v5), (135, .bool x18)] a ∧ Stw ⟨Y, [], w0⟩ [(b2, [.int .i64 p5.1, .int .i64 p5.2.1, .int .i64 p5.2.2.1, .int .i64 p5.2.2.2]), (b1, [.int .i64 p1.1, .int .i64 p1.2.1.1, .int .i64 p1.2.1.2.1.1, .int .i64 p1.2.1.2.1.2.1, .int .i64 p1.2.1.2.1.2.2.1, .int .i64 p1.2.1.2.1.2.2.2, .int .i64 p1.2.1.2.2.1, .int .i64 p1.2.1.2.2.2.1, .int .i64 p1.2.1.2.2.2.2.1, .int .i64 p1.2.1.2.2.2.2.2, v2])] [BM v5 Bc x10.1] w) ?_ ?_
 ·
  have H := G6
  clear G6 K6
  obtain ⟨v7, h18, W⟩ := W.exF Bl
  refine Ci W MO (by kernel_rfl) ?_
  refine qs F Aa (Al Ct Aa Aa Aa Ef F Aa 1 Aa).q fun a F => ?_
  refine qs F Aa (As (v := Value.agg #[.int .i64 p1.2.1.1, .int .i64 p1.2.1.2.1.1, .int .i64 p1.2.1.2.1.2.1, .int .i64 p1.2.1.2.1.2.2.1, .int .i64 p1.2.1.2.1.2.2.2, .int .i64 p1.2.1.2.2.1, .int .i64 p1.2.1.2.2.2.1, .int .i64 p1.2.1.2.2.2.2.1, .int .i64 p1.2.1.2.2.2.2.2]) 1 F Aa Aa Ef Aa).q fun a F => ?_
  refine qs F Aa (Ah F Aa).q fun a F => ?_
  refine qs F Aa (As (v := Value.agg #[.int .i64 p5.1, .int .i64 p5.2.1, .int .i64 p5.2.2.1, .int .i64 p5.2.2.2]) 0 F Aa Aa GD Aa).q fun a F => ?_
  obtain ⟨x19, h19, H⟩ := Ap H
  refine qs F Aa (AY (v := Value.bool x19) F O4 Aa (fun w W => GW any w p1.2.1 p4 p5 _ h19)) fun a F => ?_
  refine qs F Aa (E9 F Aa).q fun a F => ?_
  refine qs F Aa (Ah F Aa).q fun a F => ?_
  rcases Bool.eq_false_or_eq_true (!x19) with hb | hb
  ·
   have H := AK hb H
   rw [hb] at F
   clear hb
   iterate 3 refine B4 F (BK F Aa Aa Aa Aa Aa) Aa Aa fun a F => ?_
   iterate 8 refine B4 F (Hi F Aa Aa Aa Aa) Aa Aa fun a F => ?_
   refine B4 F (BK F Aa Aa Aa Aa Aa) Aa Aa fun a F => ?_
   refine qs F Aa (Aw F Aa Aa Aa).q fun a F => ?_
   refine A9 fun w W => ?_
   refine Ad ?_
   have W := W.hideF Bl h18
   have W := W.frontM (i := 1) Aa Aa
   have W := W.frontM (i := 1) Aa Aa
   exact ⟨_, H, F.re ⟨rfl, Aa, Aa, Aa, Aa, Aa, Aa, trivial⟩, W⟩
  have H := AJ (by rw [hb]; decide) H
  rw [hb] at F
  clear hb
  refine BA F (Ai F Aa Aa Aa Aa) Aa (Ao Aa) (Ah F Aa).q fun a F => ?_
  refine BA F (Ai F Aa Aa Aa Aa) Aa (Ao Aa) (D7 F Aa Aa).q fun a F => ?_
  refine BA F (Ai F Aa Aa Aa Aa) Aa (Ao Aa) (Ah F Aa).q fun a F => ?_
  rcases Bool.eq_false_or_eq_true (decide (0 ≤ x17)) with hb | hb
  ·
   have H := AK (Bi hb) H
   rw [hb] at F
   clear hb
   iterate 2 refine BA F (Ai F Aa Aa Aa Aa) Aa (Ao Aa) (Ah F Aa).q fun a F => ?_
   obtain ⟨x20, h20, H⟩ := Ap H
   obtain ⟨v8, h21, h22⟩ := CE h1 h20
   have h23 : B9 v8 = [.int .i64 x20.1, .int .i64 x20.2.1.1, .int .i64 x20.2.1.2.1.1, .int .i64 x20.2.1.2.1.2.1, .int .i64 x20.2.1.2.1.2.2.1, .int .i64 x20.2.1.2.1.2.2.2, .int .i64 x20.2.1.2.2.1, .int .i64 x20.2.1.2.2.2.1, .int .i64 x20.2.1.2.2.2.2.1, .int .i64 x20.2.1.2.2.2.2.2, (v8.2.2.1)] := congrArg (fun q : Int × (Int × (Int × Int × Int × Int) × (Int × Int × Int × Int)) × (List (Int × Int × Int)) => ([.int .i64 q.1, .int .i64 q.2.1.1, .int .i64 q.2.1.2.1.1, .int .i64 q.2.1.2.1.2.1, .int .i64 q.2.1.2.1.2.2.1, .int .i64 q.2.1.2.1.2.2.2, .int .i64 q.2.1.2.2.1, .int .i64 q.2.1.2.2.2.1, .int .i64 q.2.1.2.2.2.2.1, .int .i64 q.2.1.2.2.2.2.2, (v8.2.2.1)] : List Value)) h22
   refine BA F (Ai F Aa Aa Aa Aa) Aa (Ao Aa) (Bd (r := CM) Fh F Aa Aa (Au h_v1) h21).q fun a F => ?_
   refine BA F (Ai F Aa Aa Aa Aa) Aa (Ao Aa) (Al Ct Aa Aa Aa T3 F Aa (DS v1 + (x17).toNat * 11) Aa).q fun a F => ?_
   refine BA F (Ai F Aa Aa Aa Aa) Aa (Ao Aa) (A1 (y := Value.int .i64 x20.1) (j := 0) (i := x17) (enc := B9) F Aa Aa (Au h_v1) h21 D8 T3 (by rw [h23]; rfl)).q fun a F => ?_
   refine BA F (Ai F Aa Aa Aa Aa) Aa (Ao Aa) (Al Ct Aa Aa Aa T3 F Aa 0 Aa).q fun a F => ?_
   refine BA F (Ai F Aa Aa Aa Aa) Aa (Ao Aa) (As (v := Value.int .i64 p1.1) 1 F Aa Aa T3 Aa).q fun a F => ?_
   refine BA F (Ai F Aa Aa Aa Aa) Aa (Ao Aa) (D7 F Aa Aa).q fun a F => ?_
   refine BA F (Ai F Aa Aa Aa Aa) Aa (Ao Aa) (Aw F Aa Aa Aa).q fun a F => ?_
   refine qs F Aa (Aq F Aa Aa Aa).q fun a F => ?_
   refine A9 fun w W => ?_
   refine Ad ?_
   have W := W.hideF Bl h18
   have W := W.frontM (i := 1) Aa Aa
   have W := W.frontM (i := 1) Aa Aa
   exact ⟨_, H, F.re ⟨rfl, Aa, Aa, Aa, Aa, Aa, Aa, trivial⟩, W⟩
  have H := AJ (Bh hb) H
  rw [hb] at F
  clear hb
  iterate 8 refine B4 F (BK F Aa Aa Aa Aa Aa) Aa Aa fun a F => ?_
  refine BA F (Ai F Aa Aa Aa Aa) Aa (Ao Aa) (Aq F Aa Aa Aa).q fun a F => ?_
  refine qs F Aa (Aq F Aa Aa Aa).q fun a F => ?_
  refine A9 fun w W => ?_
  refine Ad ?_
  have W := W.hideF Bl h18
  have W := W.frontM (i := 1) Aa Aa
  have W := W.frontM (i := 1) Aa Aa
  exact ⟨_, H, F.re ⟨rfl, Aa, Aa, Aa, Aa, Aa, Aa, trivial⟩, W⟩
 rintro a w ⟨x18, hj, F, W⟩
 have hj := AL hj
 subst hj
 have H := K6
 clear G6 K6
 refine AA F Aa (fun hb => ?_) fun hb => ?_
 ·
  have H := AK hb H
  rw [hb] at F
  clear hb
  obtain ⟨o7, G7, K7⟩ := Ap H
  refine AH (fun a w => ∃ x21 : Bool, some (x21) = some o7 ∧ Fr 160 [] [(4, .int .i64 p4), (7, .pointer (some ⟨b1, 0, none⟩)), (11, .pointer (some ⟨b2, 0, none⟩)), (12, .bool x21), (14, v5)] a ∧ Stw ⟨Y, [], w0⟩ [(b2, [.int .i64 p5.1, .int .i64 p5.2.1, .int .i64 p5.2.2.1, .int .i64 p5.2.2.2]), (b1, [.int .i64 p1.1, .int .i64 p1.2.1.1, .int .i64 p1.2.1.2.1.1, .int .i64 p1.2.1.2.1.2.1, .int .i64 p1.2.1.2.1.2.2.1, .int .i64 p1.2.1.2.1.2.2.2, .int .i64 p1.2.1.2.2.1, .int .i64 p1.2.1.2.2.2.1, .int .i64 p1.2.1.2.2.2.2.1, .int .i64 p1.2.1.2.2.2.2.2, v2])] [BM v5 Bc x10.1] w) ?_ ?_
  ·
   have H := G7
   clear G7 K7
   refine E8 [(true, 0), (true, 1), (true, 2), (true, 4), (true, 5), (true, 6), (false, 3), (false, 7), (false, 8), (true, 9), (false, 10), (true, 11), (false, 12)] (CN ⟨Y, [], w0⟩ [(some 3, b2, [.int .i64 p5.1, .int .i64 p5.2.1, .int .i64 p5.2.2.1, .int .i64 p5.2.2.2]), (some 7, b2, [.int .i64 p5.1, .int .i64 p5.2.1, .int .i64 p5.2.2.1, .int .i64 p5.2.2.2])] []) (fun ch a d v w h => by cases d <;> exact h) MO (by kernel_rfl) W (fun w W => ⟨_, _, W, (all_cons (fun _ => (.head _)) (all_cons (fun _ => (.head _)) AB)), AB⟩) fun w W => ?_
   iterate 2 refine CK (R := []) F Aa Aa (yC fun M Z hN hZ => Ah F Aa) Aa Aa fun a F => ?_
   refine CK (R := [3]) F Aa Aa (yC fun M Z hN hZ => C8 (cs := [.int .i64 p5.1, .int .i64 p5.2.1, .int .i64 p5.2.2.1, .int .i64 p5.2.2.2]) (v := Value.agg #[.int .i64 p5.1, .int .i64 p5.2.1, .int .i64 p5.2.2.1, .int .i64 p5.2.2.2]) F Aa (hN ((some 3), b2, [.int .i64 p5.1, .int .i64 p5.2.1, .int .i64 p5.2.2.1, .int .i64 p5.2.2.2]) (.head _) Aa) GD Aa) (by kernel_rfl) Aa fun a F => ?_
   iterate 2 refine CK (R := []) F Aa Aa (yC fun M Z hN hZ => Ah F Aa) Aa Aa fun a F => ?_
   refine CK (R := [7]) F Aa Aa (yC fun M Z hN hZ => C8 (cs := [.int .i64 p5.1, .int .i64 p5.2.1, .int .i64 p5.2.2.1, .int .i64 p5.2.2.2]) (v := Value.agg #[.int .i64 p5.1, .int .i64 p5.2.1, .int .i64 p5.2.2.1, .int .i64 p5.2.2.2]) F Aa (hN ((some 7), b2, [.int .i64 p5.1, .int .i64 p5.2.1, .int .i64 p5.2.2.1, .int .i64 p5.2.2.2]) (.tail _ (.head _)) Aa) GD Aa) (by kernel_rfl) Aa fun a F => ?_
   refine DE Aa ?_
   obtain ⟨x22, h24, H⟩ := Ap H
   refine Bp (Ml := []) (Zl := []) (M := [(b2, [.int .i64 p5.1, .int .i64 p5.2.1, .int .i64 p5.2.2.1, .int .i64 p5.2.2.2]), (b1, [.int .i64 p1.1, .int .i64 p1.2.1.1, .int .i64 p1.2.1.2.1.1, .int .i64 p1.2.1.2.1.2.1, .int .i64 p1.2.1.2.1.2.2.1, .int .i64 p1.2.1.2.1.2.2.2, .int .i64 p1.2.1.2.2.1, .int .i64 p1.2.1.2.2.2.1, .int .i64 p1.2.1.2.2.2.2.1, .int .i64 p1.2.1.2.2.2.2.2, v2])]) (Z := [BM v5 Bc x10.1]) (β := Value) (rv := fun x => x) (MM := fun x => []) (ZZ := fun x => [row x 64 DN x22]) F W OP Aa Aa (fun hL => Gw _ w (v5) x10.1 p4 p5 _ h24 ((CH 0 Aa) w W).nx) fun x a w F W => ?_
   obtain ⟨v9, rfl⟩ : ∃ y, y = x := ⟨x, rfl⟩
   have W : Stw ⟨Y, [], w0⟩ [(b2, [.int .i64 p5.1, .int .i64 p5.2.1, .int .i64 p5.2.2.1, .int .i64 p5.2.2.2]), (b1, [.int .i64 p1.1, .int .i64 p1.2.1.1, .int .i64 p1.2.1.2.1.1, .int .i64 p1.2.1.2.1.2.1, .int .i64 p1.2.1.2.1.2.2.1, .int .i64 p1.2.1.2.1.2.2.2, .int .i64 p1.2.1.2.2.1, .int .i64 p1.2.1.2.2.2.1, .int .i64 p1.2.1.2.2.2.2.1, .int .i64 p1.2.1.2.2.2.2.2, v2])] [row v9 64 DN x22, BM v5 Bc x10.1] w := W
   refine Bq (N2 := []) (NZ2 := []) (N3 := [(some 3, b2, [.int .i64 p5.1, .int .i64 p5.2.1, .int .i64 p5.2.2.1, .int .i64 p5.2.2.2]), (some 7, b2, [.int .i64 p5.1, .int .i64 p5.2.1, .int .i64 p5.2.2.1, .int .i64 p5.2.2.2])]) (NZ3 := []) W Aa Aa (all_cons (fun h => AE (by kernel_rfl) h) (all_cons (fun _ => (.head _)) AB)) AB ?_
   refine DE Aa ?_
   obtain ⟨x23, h25, H⟩ := Ap H
   refine Bp (Ml := []) (Zl := []) (M := [(b2, [.int .i64 p5.1, .int .i64 p5.2.1, .int .i64 p5.2.2.1, .int .i64 p5.2.2.2]), (b1, [.int .i64 p1.1, .int .i64 p1.2.1.1, .int .i64 p1.2.1.2.1.1, .int .i64 p1.2.1.2.1.2.1, .int .i64 p1.2.1.2.1.2.2.1, .int .i64 p1.2.1.2.1.2.2.2, .int .i64 p1.2.1.2.2.1, .int .i64 p1.2.1.2.2.2.1, .int .i64 p1.2.1.2.2.2.2.1, .int .i64 p1.2.1.2.2.2.2.2, v2])]) (Z := [row v9 64 DN x22, BM v5 Bc x10.1]) (β := Value) (rv := fun x => x) (MM := fun x => []) (ZZ := fun x => [row x 64 DN x23]) F W PL Aa Aa (fun hL => La _ w (v1) p0 p4 p5 _ h25 ((Be Bl h1 (Au h_v1)) w W).nx) fun x a w F W => ?_
   obtain ⟨v10, rfl⟩ : ∃ y, y = x := ⟨x, rfl⟩
   have W : Stw ⟨Y, [], w0⟩ [(b2, [.int .i64 p5.1, .int .i64 p5.2.1, .int .i64 p5.2.2.1, .int .i64 p5.2.2.2]), (b1, [.int .i64 p1.1, .int .i64 p1.2.1.1, .int .i64 p1.2.1.2.1.1, .int .i64 p1.2.1.2.1.2.1, .int .i64 p1.2.1.2.1.2.2.1, .int .i64 p1.2.1.2.1.2.2.2, .int .i64 p1.2.1.2.2.1, .int .i64 p1.2.1.2.2.2.1, .int .i64 p1.2.1.2.2.2.2.1, .int .i64 p1.2.1.2.2.2.2.2, v2])] [row v10 64 DN x23, row v9 64 DN x22, BM v5 Bc x10.1] w := W
   refine Bq (N2 := []) (NZ2 := []) (N3 := [(some 3, b2, [.int .i64 p5.1, .int .i64 p5.2.1, .int .i64 p5.2.2.1, .int .i64 p5.2.2.2]), (some 7, b2, [.int .i64 p5.1, .int .i64 p5.2.1, .int .i64 p5.2.2.1, .int .i64 p5.2.2.2])]) (NZ3 := []) W Aa Aa (all_cons (fun h => AE (by kernel_rfl) h) (all_cons (fun h => AE (by kernel_rfl) h) AB)) AB ?_
   refine DE Aa ?_
   obtain ⟨x24, h26, H⟩ := Ap H
   refine ls F W Aa (AY (v := Value.bool x24) F Pb Aa (fun w W => H4 any w (v9) (v10) x22 x23 _ h26 (((Bg 1 Aa) : CV _ _ _ _ _ _) w W).nx (((Bg 0 Aa) : CV _ _ _ _ _ _) w W).nx)) fun a w F W => ?_
   refine Bq (N2 := []) (NZ2 := []) (N3 := [(some 3, b2, [.int .i64 p5.1, .int .i64 p5.2.1, .int .i64 p5.2.2.1, .int .i64 p5.2.2.2]), (some 7, b2, [.int .i64 p5.1, .int .i64 p5.2.1, .int .i64 p5.2.2.1, .int .i64 p5.2.2.2])]) (NZ3 := []) W Aa Aa (all_cons (fun h => AE (by kernel_rfl) h) (all_cons (fun h => AE (by kernel_rfl) h) AB)) AB ?_
   refine CK (R := []) F Aa Aa (yC fun M Z hN hZ => Ah F Aa) Aa Aa fun a F => ?_
   rcases Bool.eq_false_or_eq_true x24 with hb | hb
   ·
    have H := AK hb H
    rw [hb] at F
    clear hb
    refine DE Aa ?_
    refine FD (Ai F Aa Aa Aa Aa) ?_
    obtain ⟨x25, h27, H⟩ := Ap H
    refine ls F W Aa (AY (v := Value.bool x25) F H9 Aa (fun w W => EA any w _ h27)) fun a w F W => ?_
    refine Bq (N2 := []) (NZ2 := []) (N3 := [(some 3, b2, [.int .i64 p5.1, .int .i64 p5.2.1, .int .i64 p5.2.2.1, .int .i64 p5.2.2.2]), (some 7, b2, [.int .i64 p5.1, .int .i64 p5.2.1, .int .i64 p5.2.2.1, .int .i64 p5.2.2.2])]) (NZ3 := []) W Aa Aa (all_cons (fun h => AE (by kernel_rfl) h) (all_cons (fun h => AE (by kernel_rfl) h) AB)) AB ?_
    refine CK (R := []) F Aa Aa (yC fun M Z hN hZ => Aw F Aa Aa Aa) Aa Aa fun a F => ?_
    refine DE Aa ?_
    refine ls F W Aa (Ag F Aa).q fun a w F W => ?_
    refine Bq (N2 := []) (NZ2 := []) (N3 := [(some 3, b2, [.int .i64 p5.1, .int .i64 p5.2.1, .int .i64 p5.2.2.1, .int .i64 p5.2.2.2]), (some 7, b2, [.int .i64 p5.1, .int .i64 p5.2.1, .int .i64 p5.2.2.1, .int .i64 p5.2.2.2])]) (NZ3 := []) W Aa Aa (all_cons (fun h => AE (by kernel_rfl) h) (all_cons (fun h => AE (by kernel_rfl) h) AB)) AB ?_
    refine F7 (Ad ?_)
    have W := W.frontZ (i := 2) Aa Aa
    have W := W.frontM (i := 1) Aa Aa
    have W := W.frontM (i := 1) Aa Aa
    have W := W.sub (M' := [(b2, [.int .i64 p5.1, .int .i64 p5.2.1, .int .i64 p5.2.2.1, .int .i64 p5.2.2.2]), (b1, [.int .i64 p1.1, .int .i64 p1.2.1.1, .int .i64 p1.2.1.2.1.1, .int .i64 p1.2.1.2.1.2.1, .int .i64 p1.2.1.2.1.2.2.1, .int .i64 p1.2.1.2.1.2.2.2, .int .i64 p1.2.1.2.2.1, .int .i64 p1.2.1.2.2.2.1, .int .i64 p1.2.1.2.2.2.2.1, .int .i64 p1.2.1.2.2.2.2.2, v2])]) (Z' := [BM v5 Bc x10.1]) (List.Sublist.refl _) (List.Sublist.cons_cons _ (List.nil_sublist _))
    exact ⟨_, H, F.re ⟨rfl, Aa, Aa, Aa, Aa, trivial⟩, W⟩
   have H := AJ (by rw [hb]; decide) H
   rw [hb] at F
   clear hb
   refine DE Aa ?_
   refine Cs F Aa Aa Aa Aa Aa Aa Aa fun a F => ?_
   refine Bq (N2 := []) (NZ2 := []) (N3 := [(some 3, b2, [.int .i64 p5.1, .int .i64 p5.2.1, .int .i64 p5.2.2.1, .int .i64 p5.2.2.2]), (some 7, b2, [.int .i64 p5.1, .int .i64 p5.2.1, .int .i64 p5.2.2.1, .int .i64 p5.2.2.2])]) (NZ3 := []) W Aa Aa (all_cons (fun h => AE (by kernel_rfl) h) (all_cons (fun h => AE (by kernel_rfl) h) AB)) AB ?_
   refine CK (R := []) F Aa Aa (yC fun M Z hN hZ => Aq F Aa Aa Aa) Aa Aa fun a F => ?_
   refine DE Aa ?_
   refine ls F W Aa (Ag F Aa).q fun a w F W => ?_
   refine Bq (N2 := []) (NZ2 := []) (N3 := [(some 3, b2, [.int .i64 p5.1, .int .i64 p5.2.1, .int .i64 p5.2.2.1, .int .i64 p5.2.2.2]), (some 7, b2, [.int .i64 p5.1, .int .i64 p5.2.1, .int .i64 p5.2.2.1, .int .i64 p5.2.2.2])]) (NZ3 := []) W Aa Aa (all_cons (fun h => AE (by kernel_rfl) h) (all_cons (fun h => AE (by kernel_rfl) h) AB)) AB ?_
   refine F7 (Ad ?_)
   have W := W.frontZ (i := 2) Aa Aa
   have W := W.frontM (i := 1) Aa Aa
   have W := W.frontM (i := 1) Aa Aa
   have W := W.sub (M' := [(b2, [.int .i64 p5.1, .int .i64 p5.2.1, .int .i64 p5.2.2.1, .int .i64 p5.2.2.2]), (b1, [.int .i64 p1.1, .int .i64 p1.2.1.1, .int .i64 p1.2.1.2.1.1, .int .i64 p1.2.1.2.1.2.1, .int .i64 p1.2.1.2.1.2.2.1, .int .i64 p1.2.1.2.1.2.2.2, .int .i64 p1.2.1.2.2.1, .int .i64 p1.2.1.2.2.2.1, .int .i64 p1.2.1.2.2.2.2.1, .int .i64 p1.2.1.2.2.2.2.2, v2])]) (Z' := [BM v5 Bc x10.1]) (List.Sublist.refl _) (List.Sublist.cons_cons _ (List.nil_sublist _))
   exact ⟨_, H, F.re ⟨rfl, Aa, Aa, Aa, Aa, trivial⟩, W⟩
  rintro a w ⟨x21, hj, F, W⟩
  have hj := AL hj
  subst hj
  have H := K7
  clear G7 K7
  refine Ax (AD ?_)
  have H := AL H
  subst H
  refine AF (.inl Aa) F W Aa (Av F Aa) ?_
  exact ⟨rfl, W.done⟩
 have H := AJ (by rw [hb]; decide) H
 rw [hb] at F
 clear hb
 refine Ay (Ad ?_)
 obtain ⟨o8, G8, K8⟩ := Ap H
 refine AH (fun a w => ∃ x26 : Bool, some (x26) = some o8 ∧ Fr 160 [] [(12, .bool x26)] a ∧ Stw ⟨Y, [], w0⟩ [(b2, [.int .i64 p5.1, .int .i64 p5.2.1, .int .i64 p5.2.2.1, .int .i64 p5.2.2.2]), (b1, [.int .i64 p1.1, .int .i64 p1.2.1.1, .int .i64 p1.2.1.2.1.1, .int .i64 p1.2.1.2.1.2.1, .int .i64 p1.2.1.2.1.2.2.1, .int .i64 p1.2.1.2.1.2.2.2, .int .i64 p1.2.1.2.2.1, .int .i64 p1.2.1.2.2.2.1, .int .i64 p1.2.1.2.2.2.2.1, .int .i64 p1.2.1.2.2.2.2.2, v2])] [] w) ?_ ?_
 ·
  have H := G8
  clear G8 K8
  refine E8 [(true, 0), (true, 1), (true, 2), (true, 4), (true, 5), (true, 6), (false, 3), (false, 7), (false, 8), (true, 9), (false, 10), (true, 11), (false, 12)] (CN ⟨Y, [], w0⟩ [(some 3, b2, [.int .i64 p5.1, .int .i64 p5.2.1, .int .i64 p5.2.2.1, .int .i64 p5.2.2.2]), (some 7, b1, [.int .i64 p1.1, .int .i64 p1.2.1.1, .int .i64 p1.2.1.2.1.1, .int .i64 p1.2.1.2.1.2.1, .int .i64 p1.2.1.2.1.2.2.1, .int .i64 p1.2.1.2.1.2.2.2, .int .i64 p1.2.1.2.2.1, .int .i64 p1.2.1.2.2.2.1, .int .i64 p1.2.1.2.2.2.2.1, .int .i64 p1.2.1.2.2.2.2.2, v2]), (some 7, b2, [.int .i64 p5.1, .int .i64 p5.2.1, .int .i64 p5.2.2.1, .int .i64 p5.2.2.2])] []) (fun ch a d v w h => by cases d <;> exact h) MO (by kernel_rfl) W (fun w W => ⟨_, _, W, (all_cons (fun _ => (.head _)) (all_cons (fun _ => (.tail _ (.head _))) (all_cons (fun _ => (.head _)) AB))), AB⟩) fun w W => ?_
  iterate 2 refine CK (R := []) F Aa Aa (yC fun M Z hN hZ => Ah F Aa) Aa Aa fun a F => ?_
  refine CK (R := [3]) F Aa Aa (yC fun M Z hN hZ => C8 (cs := [.int .i64 p5.1, .int .i64 p5.2.1, .int .i64 p5.2.2.1, .int .i64 p5.2.2.2]) (v := Value.agg #[.int .i64 p5.1, .int .i64 p5.2.1, .int .i64 p5.2.2.1, .int .i64 p5.2.2.2]) F Aa (hN ((some 3), b2, [.int .i64 p5.1, .int .i64 p5.2.1, .int .i64 p5.2.2.1, .int .i64 p5.2.2.2]) (.head _) Aa) GD Aa) (by kernel_rfl) Aa fun a F => ?_
  refine CK (R := []) F Aa Aa (yC fun M Z hN hZ => Al Ct Aa Aa Aa Hr F Aa 10 Aa) Aa Aa fun a F => ?_
  refine CK (R := [7]) F Aa Aa (yC fun M Z hN hZ => C8 (cs := [.int .i64 p1.1, .int .i64 p1.2.1.1, .int .i64 p1.2.1.2.1.1, .int .i64 p1.2.1.2.1.2.1, .int .i64 p1.2.1.2.1.2.2.1, .int .i64 p1.2.1.2.1.2.2.2, .int .i64 p1.2.1.2.2.1, .int .i64 p1.2.1.2.2.2.1, .int .i64 p1.2.1.2.2.2.2.1, .int .i64 p1.2.1.2.2.2.2.2, v2]) (v := v2) F Aa (hN ((some 7), b1, [.int .i64 p1.1, .int .i64 p1.2.1.1, .int .i64 p1.2.1.2.1.1, .int .i64 p1.2.1.2.1.2.1, .int .i64 p1.2.1.2.1.2.2.1, .int .i64 p1.2.1.2.1.2.2.2, .int .i64 p1.2.1.2.2.1, .int .i64 p1.2.1.2.2.2.1, .int .i64 p1.2.1.2.2.2.2.1, .int .i64 p1.2.1.2.2.2.2.2, v2]) (.tail _ (.head _)) Aa) Hr Aa) (by kernel_rfl) Aa fun a F => ?_
  refine CK (R := [7]) F Aa Aa (yC fun M Z hN hZ => C8 (cs := [.int .i64 p5.1, .int .i64 p5.2.1, .int .i64 p5.2.2.1, .int .i64 p5.2.2.2]) (v := Value.agg #[.int .i64 p5.1, .int .i64 p5.2.1, .int .i64 p5.2.2.1, .int .i64 p5.2.2.2]) F Aa (hN ((some 7), b2, [.int .i64 p5.1, .int .i64 p5.2.1, .int .i64 p5.2.2.1, .int .i64 p5.2.2.2]) (.tail _ (.tail _ (.head _))) Aa) GD Aa) (by kernel_rfl) Aa fun a F => ?_
  refine DE Aa ?_
  obtain ⟨x27, h28, H⟩ := Ap H
  refine Bp (Ml := []) (Zl := []) (M := [(b2, [.int .i64 p5.1, .int .i64 p5.2.1, .int .i64 p5.2.2.1, .int .i64 p5.2.2.2]), (b1, [.int .i64 p1.1, .int .i64 p1.2.1.1, .int .i64 p1.2.1.2.1.1, .int .i64 p1.2.1.2.1.2.1, .int .i64 p1.2.1.2.1.2.2.1, .int .i64 p1.2.1.2.1.2.2.2, .int .i64 p1.2.1.2.2.1, .int .i64 p1.2.1.2.2.2.1, .int .i64 p1.2.1.2.2.2.2.1, .int .i64 p1.2.1.2.2.2.2.2, v2])]) (Z := [BM v5 Bc x10.1]) (β := Value) (rv := fun x => x) (MM := fun x => []) (ZZ := fun x => [row x 64 DN x27]) F W OP Aa Aa (fun hL => Gw _ w (v5) x10.1 p4 p5 _ h28 ((CH 0 Aa) w W).nx) fun x a w F W => ?_
  obtain ⟨v11, rfl⟩ : ∃ y, y = x := ⟨x, rfl⟩
  have W : Stw ⟨Y, [], w0⟩ [(b2, [.int .i64 p5.1, .int .i64 p5.2.1, .int .i64 p5.2.2.1, .int .i64 p5.2.2.2]), (b1, [.int .i64 p1.1, .int .i64 p1.2.1.1, .int .i64 p1.2.1.2.1.1, .int .i64 p1.2.1.2.1.2.1, .int .i64 p1.2.1.2.1.2.2.1, .int .i64 p1.2.1.2.1.2.2.2, .int .i64 p1.2.1.2.2.1, .int .i64 p1.2.1.2.2.2.1, .int .i64 p1.2.1.2.2.2.2.1, .int .i64 p1.2.1.2.2.2.2.2, v2])] [row v11 64 DN x27, BM v5 Bc x10.1] w := W
  refine Bq (N2 := []) (NZ2 := []) (N3 := [(some 3, b2, [.int .i64 p5.1, .int .i64 p5.2.1, .int .i64 p5.2.2.1, .int .i64 p5.2.2.2]), (some 7, b1, [.int .i64 p1.1, .int .i64 p1.2.1.1, .int .i64 p1.2.1.2.1.1, .int .i64 p1.2.1.2.1.2.1, .int .i64 p1.2.1.2.1.2.2.1, .int .i64 p1.2.1.2.1.2.2.2, .int .i64 p1.2.1.2.2.1, .int .i64 p1.2.1.2.2.2.1, .int .i64 p1.2.1.2.2.2.2.1, .int .i64 p1.2.1.2.2.2.2.2, v2]), (some 7, b2, [.int .i64 p5.1, .int .i64 p5.2.1, .int .i64 p5.2.2.1, .int .i64 p5.2.2.2])]) (NZ3 := []) W Aa Aa (all_cons (fun h => AE (by kernel_rfl) h) (all_cons (fun _ => (.tail _ (.head _))) (all_cons (fun _ => (.head _)) AB))) AB ?_
  refine DE Aa ?_
  obtain ⟨x28, h29, H⟩ := Ap H
  refine Bp (Ml := []) (Zl := []) (M := [(b2, [.int .i64 p5.1, .int .i64 p5.2.1, .int .i64 p5.2.2.1, .int .i64 p5.2.2.2]), (b1, [.int .i64 p1.1, .int .i64 p1.2.1.1, .int .i64 p1.2.1.2.1.1, .int .i64 p1.2.1.2.1.2.1, .int .i64 p1.2.1.2.1.2.2.1, .int .i64 p1.2.1.2.1.2.2.2, .int .i64 p1.2.1.2.2.1, .int .i64 p1.2.1.2.2.2.1, .int .i64 p1.2.1.2.2.2.2.1, .int .i64 p1.2.1.2.2.2.2.2, v2])]) (Z := [row v11 64 DN x27, BM v5 Bc x10.1]) (β := Value) (rv := fun x => x) (MM := fun x => []) (ZZ := fun x => [row x 64 DN x28]) F W O6 Aa Aa (fun hL => I9 _ w (v2) p1.2.2 p5 _ h29 ((Au h_v2) w W).nx) fun x a w F W => ?_
  obtain ⟨v12, rfl⟩ : ∃ y, y = x := ⟨x, rfl⟩
  have W : Stw ⟨Y, [], w0⟩ [(b2, [.int .i64 p5.1, .int .i64 p5.2.1, .int .i64 p5.2.2.1, .int .i64 p5.2.2.2]), (b1, [.int .i64 p1.1, .int .i64 p1.2.1.1, .int .i64 p1.2.1.2.1.1, .int .i64 p1.2.1.2.1.2.1, .int .i64 p1.2.1.2.1.2.2.1, .int .i64 p1.2.1.2.1.2.2.2, .int .i64 p1.2.1.2.2.1, .int .i64 p1.2.1.2.2.2.1, .int .i64 p1.2.1.2.2.2.2.1, .int .i64 p1.2.1.2.2.2.2.2, v2])] [row v12 64 DN x28, row v11 64 DN x27, BM v5 Bc x10.1] w := W
  refine Bq (N2 := []) (NZ2 := []) (N3 := [(some 3, b2, [.int .i64 p5.1, .int .i64 p5.2.1, .int .i64 p5.2.2.1, .int .i64 p5.2.2.2]), (some 7, b1, [.int .i64 p1.1, .int .i64 p1.2.1.1, .int .i64 p1.2.1.2.1.1, .int .i64 p1.2.1.2.1.2.1, .int .i64 p1.2.1.2.1.2.2.1, .int .i64 p1.2.1.2.1.2.2.2, .int .i64 p1.2.1.2.2.1, .int .i64 p1.2.1.2.2.2.1, .int .i64 p1.2.1.2.2.2.2.1, .int .i64 p1.2.1.2.2.2.2.2, v2]), (some 7, b2, [.int .i64 p5.1, .int .i64 p5.2.1, .int .i64 p5.2.2.1, .int .i64 p5.2.2.2])]) (NZ3 := []) W Aa Aa (all_cons (fun h => AE (by kernel_rfl) h) (all_cons (fun h => AE (by kernel_rfl) h) (all_cons (fun h => AE (by kernel_rfl) h) AB))) AB ?_
  refine DE Aa ?_
  obtain ⟨x29, h30, H⟩ := Ap H
  refine ls F W Aa (AY (v := Value.bool x29) F Pb Aa (fun w W => H4 any w (v11) (v12) x27 x28 _ h30 (((Bg 1 Aa) : CV _ _ _ _ _ _) w W).nx (((Bg 0 Aa) : CV _ _ _ _ _ _) w W).nx)) fun a w F W => ?_
  refine Bq (N2 := []) (NZ2 := []) (N3 := [(some 3, b2, [.int .i64 p5.1, .int .i64 p5.2.1, .int .i64 p5.2.2.1, .int .i64 p5.2.2.2]), (some 7, b1, [.int .i64 p1.1, .int .i64 p1.2.1.1, .int .i64 p1.2.1.2.1.1, .int .i64 p1.2.1.2.1.2.1, .int .i64 p1.2.1.2.1.2.2.1, .int .i64 p1.2.1.2.1.2.2.2, .int .i64 p1.2.1.2.2.1, .int .i64 p1.2.1.2.2.2.1, .int .i64 p1.2.1.2.2.2.2.1, .int .i64 p1.2.1.2.2.2.2.2, v2]), (some 7, b2, [.int .i64 p5.1, .int .i64 p5.2.1, .int .i64 p5.2.2.1, .int .i64 p5.2.2.2])]) (NZ3 := []) W Aa Aa (all_cons (fun h => AE (by kernel_rfl) h) (all_cons (fun h => AE (by kernel_rfl) h) (all_cons (fun h => AE (by kernel_rfl) h) AB))) AB ?_
  refine CK (R := []) F Aa Aa (yC fun M Z hN hZ => Ah F Aa) Aa Aa fun a F => ?_
  rcases Bool.eq_false_or_eq_true x29 with hb | hb
  ·
   have H := AK hb H
   rw [hb] at F
   clear hb
   refine DE Aa ?_
   refine FD (Ai F Aa Aa Aa Aa) ?_
   obtain ⟨x30, h31, H⟩ := Ap H
   refine ls F W Aa (AY (v := Value.bool x30) F H9 Aa (fun w W => EA any w _ h31)) fun a w F W => ?_
   refine Bq (N2 := []) (NZ2 := []) (N3 := [(some 3, b2, [.int .i64 p5.1, .int .i64 p5.2.1, .int .i64 p5.2.2.1, .int .i64 p5.2.2.2]), (some 7, b1, [.int .i64 p1.1, .int .i64 p1.2.1.1, .int .i64 p1.2.1.2.1.1, .int .i64 p1.2.1.2.1.2.1, .int .i64 p1.2.1.2.1.2.2.1, .int .i64 p1.2.1.2.1.2.2.2, .int .i64 p1.2.1.2.2.1, .int .i64 p1.2.1.2.2.2.1, .int .i64 p1.2.1.2.2.2.2.1, .int .i64 p1.2.1.2.2.2.2.2, v2]), (some 7, b2, [.int .i64 p5.1, .int .i64 p5.2.1, .int .i64 p5.2.2.1, .int .i64 p5.2.2.2])]) (NZ3 := []) W Aa Aa (all_cons (fun h => AE (by kernel_rfl) h) (all_cons (fun h => AE (by kernel_rfl) h) (all_cons (fun h => AE (by kernel_rfl) h) AB))) AB ?_
   refine CK (R := []) F Aa Aa (yC fun M Z hN hZ => Aw F Aa Aa Aa) Aa Aa fun a F => ?_
   refine DE Aa ?_
   refine ls F W Aa (Ag F Aa).q fun a w F W => ?_
   refine Bq (N2 := []) (NZ2 := []) (N3 := [(some 3, b2, [.int .i64 p5.1, .int .i64 p5.2.1, .int .i64 p5.2.2.1, .int .i64 p5.2.2.2]), (some 7, b1, [.int .i64 p1.1, .int .i64 p1.2.1.1, .int .i64 p1.2.1.2.1.1, .int .i64 p1.2.1.2.1.2.1, .int .i64 p1.2.1.2.1.2.2.1, .int .i64 p1.2.1.2.1.2.2.2, .int .i64 p1.2.1.2.2.1, .int .i64 p1.2.1.2.2.2.1, .int .i64 p1.2.1.2.2.2.2.1, .int .i64 p1.2.1.2.2.2.2.2, v2]), (some 7, b2, [.int .i64 p5.1, .int .i64 p5.2.1, .int .i64 p5.2.2.1, .int .i64 p5.2.2.2])]) (NZ3 := []) W Aa Aa (all_cons (fun h => AE (by kernel_rfl) h) (all_cons (fun h => AE (by kernel_rfl) h) (all_cons (fun h => AE (by kernel_rfl) h) AB))) AB ?_
   refine F7 (Ad ?_)
   have W := W.frontM (i := 1) Aa Aa
   have W := W.frontM (i := 1) Aa Aa
   have W := W.sub (M' := [(b2, [.int .i64 p5.1, .int .i64 p5.2.1, .int .i64 p5.2.2.1, .int .i64 p5.2.2.2]), (b1, [.int .i64 p1.1, .int .i64 p1.2.1.1, .int .i64 p1.2.1.2.1.1, .int .i64 p1.2.1.2.1.2.1, .int .i64 p1.2.1.2.1.2.2.1, .int .i64 p1.2.1.2.1.2.2.2, .int .i64 p1.2.1.2.2.1, .int .i64 p1.2.1.2.2.2.1, .int .i64 p1.2.1.2.2.2.2.1, .int .i64 p1.2.1.2.2.2.2.2, v2])]) (Z' := []) (List.Sublist.refl _) (List.nil_sublist _)
   exact ⟨_, H, F.re ⟨rfl, trivial⟩, W⟩
  have H := AJ (by rw [hb]; decide) H
  rw [hb] at F
  clear hb
  refine DE Aa ?_
  refine Cs F Aa Aa Aa Aa Aa Aa Aa fun a F => ?_
  refine Bq (N2 := []) (NZ2 := []) (N3 := [(some 3, b2, [.int .i64 p5.1, .int .i64 p5.2.1, .int .i64 p5.2.2.1, .int .i64 p5.2.2.2]), (some 7, b1, [.int .i64 p1.1, .int .i64 p1.2.1.1, .int .i64 p1.2.1.2.1.1, .int .i64 p1.2.1.2.1.2.1, .int .i64 p1.2.1.2.1.2.2.1, .int .i64 p1.2.1.2.1.2.2.2, .int .i64 p1.2.1.2.2.1, .int .i64 p1.2.1.2.2.2.1, .int .i64 p1.2.1.2.2.2.2.1, .int .i64 p1.2.1.2.2.2.2.2, v2]), (some 7, b2, [.int .i64 p5.1, .int .i64 p5.2.1, .int .i64 p5.2.2.1, .int .i64 p5.2.2.2])]) (NZ3 := []) W Aa Aa (all_cons (fun h => AE (by kernel_rfl) h) (all_cons (fun h => AE (by kernel_rfl) h) (all_cons (fun h => AE (by kernel_rfl) h) AB))) AB ?_
  refine CK (R := []) F Aa Aa (yC fun M Z hN hZ => Aq F Aa Aa Aa) Aa Aa fun a F => ?_
  refine DE Aa ?_
  refine ls F W Aa (Ag F Aa).q fun a w F W => ?_
  refine Bq (N2 := []) (NZ2 := []) (N3 := [(some 3, b2, [.int .i64 p5.1, .int .i64 p5.2.1, .int .i64 p5.2.2.1, .int .i64 p5.2.2.2]), (some 7, b1, [.int .i64 p1.1, .int .i64 p1.2.1.1, .int .i64 p1.2.1.2.1.1, .int .i64 p1.2.1.2.1.2.1, .int .i64 p1.2.1.2.1.2.2.1, .int .i64 p1.2.1.2.1.2.2.2, .int .i64 p1.2.1.2.2.1, .int .i64 p1.2.1.2.2.2.1, .int .i64 p1.2.1.2.2.2.2.1, .int .i64 p1.2.1.2.2.2.2.2, v2]), (some 7, b2, [.int .i64 p5.1, .int .i64 p5.2.1, .int .i64 p5.2.2.1, .int .i64 p5.2.2.2])]) (NZ3 := []) W Aa Aa (all_cons (fun h => AE (by kernel_rfl) h) (all_cons (fun h => AE (by kernel_rfl) h) (all_cons (fun h => AE (by kernel_rfl) h) AB))) AB ?_
  refine F7 (Ad ?_)
  have W := W.frontM (i := 1) Aa Aa
  have W := W.frontM (i := 1) Aa Aa
  have W := W.sub (M' := [(b2, [.int .i64 p5.1, .int .i64 p5.2.1, .int .i64 p5.2.2.1, .int .i64 p5.2.2.2]), (b1, [.int .i64 p1.1, .int .i64 p1.2.1.1, .int .i64 p1.2.1.2.1.1, .int .i64 p1.2.1.2.1.2.1, .int .i64 p1.2.1.2.1.2.2.1, .int .i64 p1.2.1.2.1.2.2.2, .int .i64 p1.2.1.2.2.1, .int .i64 p1.2.1.2.2.2.1, .int .i64 p1.2.1.2.2.2.2.1, .int .i64 p1.2.1.2.2.2.2.2, v2])]) (Z' := []) (List.Sublist.refl _) (List.nil_sublist _)
  exact ⟨_, H, F.re ⟨rfl, trivial⟩, W⟩
 rintro a w ⟨x26, hj, F, W⟩
 have hj := AL hj
 subst hj
 have H := K8
 clear G8 K8
 refine Ax ?_
 have H := AL H
 subst H
 refine AF (.inl Aa) F W Aa (Av F Aa) ?_
 exact ⟨rfl, W.done⟩
end Go.Proofs.Ytkjjioigbpkifaa
