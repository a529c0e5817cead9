/- The functions of layer 35, EJ. Conditions: none. -/
import Derived.Test.YtemacefkdopgaaacA1
namespace Go.Proofs.Ytemacefkdopgaaa
open Go Go.RowKit
set_option linter.unusedVariables false
set_option linter.unusedSimpArgs false
set_option maxRecDepth 20000
theorem Ly : Has Try.prog 30 := ⟨fun args w => An Try.func30 rfl (by decide) args w⟩
noncomputable def DA (p0 : Int × (List (Int × Int × Int × Int × Int × Int)) × (List (Int × Int))) : Int → Option (Int ⊕ (Unit ⊕ Bool))
  | x1 => (if x1 < (p0.2.1.length : Int) then (ix p0.2.1 x1).bind fun x2 => (if x2.1 = x2.2.2.1 then some true else (if x2.2.2.2.2.1 < 1 then some true else (if x2.2.2.2.2.2 < x2.2.2.2.2.1 then some true else (if 1000 < x2.2.2.2.2.2 then some true else (D4 p0 x2.1 x2.2.1).bind fun x4 => (if (!x4) = true then some true else (D4 p0 x2.2.2.1 x2.2.2.2.1).bind fun x5 => some (!x5)))))).bind fun x3 => (if x3 = true then some (.inr (.inr false)) else some (.inl (Ay (x1 + 1)))) else some (.inr (.inl ())))
noncomputable def Dx (p0 : Int × (List (Int × Int × Int × Int × Int × Int)) × (List (Int × Int))) : Int → Option (Int ⊕ (Unit ⊕ Bool))
  | x6 => (if x6 < (p0.2.2.length : Int) then (ix p0.2.2 x6).bind fun x7 => (ix p0.2.2 x6).bind fun x8 => (D4 p0 x7.1 x8.2).bind fun x9 => (if (!x9) = true then some (.inr (.inr false)) else some (.inl (Ay (x6 + 1)))) else some (.inr (.inl ())))
noncomputable def D2 (p0 : Int × (List (Int × Int × Int × Int × Int × Int)) × (List (Int × Int))) : Option Bool := (if (decide (p0.1 < 1) || (decide (8 < p0.1) || (decide (24 < (p0.2.1.length : Int)) || decide (8 < (p0.2.2.length : Int))))) = true then some false else F3 (AM (DA p0) 0) fun _ => F3 (AM (Dx p0) 0) fun _ => some true)
theorem HR (Y : Nat → Prop) (w0 : World) (v1 : Value) (v2 : Value) (p0 : Int × (List (Int × Int × Int × Int × Int × Int)) × (List (Int × Int))) (r : Bool) (H : D2 p0 = some r) (h_v1 : Sl w0 (NX []) Bx v1 p0.2.1) (h_v2 : Sl w0 (NX []) Cb v2 p0.2.2) :
    Calls Try.prog 14 #[.agg #[.int .i64 p0.1, v1, v2]] w0 fun e w' => e = .returned (.bool r) ∧ Below w0.heap.size w0 w' := by
 refine enter Try.func14 Aa Try.ntmps14 Aa fun a F => ?_
 have W := Stw.start Y w0
 unfold D2 at H
 refine Ai (Ac ?_)
 refine DW (cs := [.int .i64 p0.1, v1, v2]) F W Aa Aa Aa fun b1 a w F W => ?_
 refine ls F W Aa (Ag F Aa).q fun a w F W => ?_
 refine Ae (Ab (Ai ?_))
 refine AO (fun a w => Fr 100 [] [(1, .pointer (some ⟨b1, 0, none⟩)), (2, .bool false), (25, .bool (decide (p0.1 < 1) || (decide (8 < p0.1) || (decide (24 < (p0.2.1.length : Int)) || decide (8 < (p0.2.2.length : Int))))))] a ∧ Stw ⟨Y, [], w0⟩ [(b1, [.int .i64 p0.1, v1, v2])] [] w) ?_ ?_
 ·
  refine Ac ?_
  refine ls F W Aa (Ah CZ Aa Aa Aa T3 F Aa 0 Aa).q fun a w F W => ?_
  refine ls F W Aa (Ao (v := Value.int .i64 p0.1) 0 F Aa Aa T3 Aa).q fun a w F W => ?_
  refine ls F W Aa (Bm F Aa Aa).q fun a w F W => ?_
  refine ls F W Aa (Ad F Aa).q fun a w F W => ?_
  rcases Bool.eq_false_or_eq_true (decide (p0.1 < 1)) with hb0 | hb0
  ·
   rw [hb0] at F
   iterate 3 refine B7 F Aa Aa Aa Aa Aa Aa Aa fun a F => ?_
   refine ls F W Aa (Am F Aa Aa Aa).q fun a w F W => ?_
   refine ls F W Aa (Ad F Aa).q fun a w F W => ?_
   iterate 4 refine B7 F Aa Aa Aa Aa Aa Aa Aa fun a F => ?_
   refine ls F W Aa (Am F Aa Aa Aa).q fun a w F W => ?_
   refine ls F W Aa (Ad F Aa).q fun a w F W => ?_
   iterate 4 refine B7 F Aa Aa Aa Aa Aa Aa Aa fun a F => ?_
   refine ls F W Aa (Am F Aa Aa Aa).q fun a w F W => ?_
   refine Ae (Ab ?_)
   exact ⟨F.re ⟨rfl, Aa, (Ev (by try rw [hb0]; all_goals simp only [Ez])), trivial⟩, W⟩
  rw [hb0] at F
  refine Ax F W (Af F Aa Aa Aa Aa) Aa (Aj Aa) (Ah CZ Aa Aa Aa T3 F Aa 0 Aa).q fun a w F W => ?_
  refine Ax F W (Af F Aa Aa Aa Aa) Aa (Aj Aa) (Ao (v := Value.int .i64 p0.1) 0 F Aa Aa T3 Aa).q fun a w F W => ?_
  refine Ax F W (Af F Aa Aa Aa Aa) Aa (Aj Aa) (DP F Aa Aa).q fun a w F W => ?_
  refine ls F W Aa (Ak F Aa Aa Aa).q fun a w F W => ?_
  refine ls F W Aa (Ad F Aa).q fun a w F W => ?_
  rcases Bool.eq_false_or_eq_true (decide (8 < p0.1)) with hb1 | hb1
  ·
   rw [hb1] at F
   iterate 4 refine B7 F Aa Aa Aa Aa Aa Aa Aa fun a F => ?_
   refine ls F W Aa (Am F Aa Aa Aa).q fun a w F W => ?_
   refine ls F W Aa (Ad F Aa).q fun a w F W => ?_
   iterate 4 refine B7 F Aa Aa Aa Aa Aa Aa Aa fun a F => ?_
   refine ls F W Aa (Am F Aa Aa Aa).q fun a w F W => ?_
   refine Ae (Ab ?_)
   exact ⟨F.re ⟨rfl, Aa, (Ev (by try rw [hb0]; try rw [hb1]; all_goals simp only [Ez])), trivial⟩, W⟩
  rw [hb1] at F
  refine Ax F W (Af F Aa Aa Aa Aa) Aa (Aj Aa) (Ah CZ Aa Aa Aa E5 F Aa 1 Aa).q fun a w F W => ?_
  refine Ax F W (Af F Aa Aa Aa Aa) Aa (Aj Aa) (Ao (v := v1) 0 F Aa Aa E5 Aa).q fun a w F W => ?_
  refine Ax F W (Af F Aa Aa Aa Aa) Aa (Aj Aa) (Cp (r := Bx) (l := p0.2.1) Gx Aa F Aa (Ap h_v1)).q fun a w F W => ?_
  refine Ax F W (Af F Aa Aa Aa Aa) Aa (Aj Aa) (DP F Aa Aa).q fun a w F W => ?_
  refine ls F W Aa (Ak F Aa Aa Aa).q fun a w F W => ?_
  refine ls F W Aa (Ad F Aa).q fun a w F W => ?_
  rcases Bool.eq_false_or_eq_true (decide (24 < (p0.2.1.length : Int))) with hb2 | hb2
  ·
   rw [hb2] at F
   iterate 4 refine B7 F Aa Aa Aa Aa Aa Aa Aa fun a F => ?_
   refine ls F W Aa (Am F Aa Aa Aa).q fun a w F W => ?_
   refine Ae (Ab ?_)
   exact ⟨F.re ⟨rfl, Aa, (Ev (by try rw [hb2]; try rw [hb0]; try rw [hb1]; all_goals simp only [Ez])), trivial⟩, W⟩
  rw [hb2] at F
  refine Ax F W (Af F Aa Aa Aa Aa) Aa (Aj Aa) (Ah CZ Aa Aa Aa GH F Aa 2 Aa).q fun a w F W => ?_
  refine Ax F W (Af F Aa Aa Aa Aa) Aa (Aj Aa) (Ao (v := v2) 0 F Aa Aa GH Aa).q fun a w F W => ?_
  refine Ax F W (Af F Aa Aa Aa Aa) Aa (Aj Aa) (Cp (r := Cb) (l := p0.2.2) HX Aa F Aa (Ap h_v2)).q fun a w F W => ?_
  refine Ax F W (Af F Aa Aa Aa Aa) Aa (Aj Aa) (DP F Aa Aa).q fun a w F W => ?_
  refine ls F W Aa (Ak F Aa Aa Aa).q fun a w F W => ?_
  refine Ae (Ab ?_)
  exact ⟨F.re ⟨rfl, Aa, (Ev (by try rw [hb2]; try rw [hb0]; try rw [hb1]; all_goals simp only [Ez])), trivial⟩, W⟩
 rintro a w ⟨F, W⟩
 refine AC F Aa (fun hb => ?_) fun hb => ?_
 ·
  have H := A5 hb H
  rw [hb] at F
  clear hb
  refine Ai (Ac ?_)
  refine ls F W Aa (Ag F Aa).q fun a w F W => ?_
  refine Ae (Ab (AN (AY ?_)))
  have H := Bg H
  subst H
  refine Bz (.inl Aa) F W Aa (Az F Aa) ?_
  exact ⟨rfl, W.done⟩
 have H := A6 (by rw [hb]; decide) H
 rw [hb] at F
 clear hb
 refine As (Ab ?_)
 obtain ⟨o1, G1, K1, L1⟩ := Jh H
 refine AO (fun a w => some (Sum.inl ()) = some o1 ∧ Fr 100 [] [(1, .pointer (some ⟨b1, 0, none⟩)), (2, .bool false)] a ∧ Stw ⟨Y, [], w0⟩ [(b1, [.int .i64 p0.1, v1, v2])] [] w) ?_ ?_
 ·
  have H := G1
  clear G1 K1
  refine Ai (Ac ?_)
  refine ls F W Aa (Ag F Aa).q fun a w F W => ?_
  refine Ae (Ab (AA ?_))
  refine BG H (fun s a w => Fr 100 [] [(1, .pointer (some ⟨b1, 0, none⟩)), (2, .bool false), (3, .int .i64 s)] a ∧ Stw ⟨Y, [], w0⟩ [(b1, [.int .i64 p0.1, v1, v2])] [] w) ⟨F.re ⟨rfl, Aa, Aa, trivial⟩, W⟩ fun s o a w H L2 hR => ?_
  obtain ⟨x1, rfl⟩ : ∃ x, x = s := ⟨s, rfl⟩
  obtain ⟨F, W⟩ := hR
  have F : Fr 100 [] [(1, .pointer (some ⟨b1, 0, none⟩)), (2, .bool false), (3, .int .i64 x1)] a := F
  have W : Stw ⟨Y, [], w0⟩ [(b1, [.int .i64 p0.1, v1, v2])] [] w := W
  rw [DA] at H
  refine Ai (Ai (Ac ?_))
  refine ls F W Aa (Ad F Aa).q fun a w F W => ?_
  refine ls F W Aa (Ah CZ Aa Aa Aa E5 F Aa 1 Aa).q fun a w F W => ?_
  refine ls F W Aa (Ao (v := v1) 0 F Aa Aa E5 Aa).q fun a w F W => ?_
  refine ls F W Aa (Cp (r := Bx) (l := p0.2.1) Gx Aa F Aa (Ap h_v1)).q fun a w F W => ?_
  refine ls F W Aa (Bm F Aa Aa).q fun a w F W => ?_
  refine Ae (Ab ?_)
  refine AC F Aa (fun hb => ?_) fun hb => ?_
  ·
   have H := A5 (BJ hb) H
   rw [hb] at F
   clear hb
   refine As (Ab (Ai (AA (Ai (Ac ?_)))))
   refine ls F W Aa (Ah CZ Aa Aa Aa E5 F Aa 1 Aa).q fun a w F W => ?_
   refine ls F W Aa (Ao (v := v1) 0 F Aa Aa E5 Aa).q fun a w F W => ?_
   refine ls F W Aa (Ad F Aa).q fun a w F W => ?_
   obtain ⟨x2, h1, H⟩ := Al H
   refine ls F W Aa (AW (r := Bx) I0 F Aa Aa (Ap h_v1) h1).q fun a w F W => ?_
   refine ls F W Aa (Av (y := Value.agg #[.int .i64 x2.1, .int .i64 x2.2.1, .int .i64 x2.2.2.1, .int .i64 x2.2.2.2.1, .int .i64 x2.2.2.2.2.1, .int .i64 x2.2.2.2.2.2]) (j := 0) (i := x1) F Aa Aa (Ap h_v1) h1 Jo.to IA Aa).q fun a w F W => ?_
   refine BZ (cs := (IU)) F W Aa Ka Aa fun b2 a w F W => ?_
   refine Bl (vs := (Gv x2)) (M' := (Gy b2 x2 b1 p0 v1 v2)) 0 F W Aa Aa Aa IA Aa Aa Aa Aa Aa fun w W => ?_
   refine Ae (Ab ?_)
   obtain ⟨o3, G3, K3⟩ := Al H
   refine AO (fun a w => ∃ x3 : Bool, some (x3) = some o3 ∧ Fr 100 [] [(1, .pointer (some ⟨b1, 0, none⟩)), (2, .bool false), (3, .int .i64 x1), (77, .bool x3)] a ∧ Stw ⟨Y, [], w0⟩ (Gy b2 x2 b1 p0 v1 v2) [] w) ?_ ?_
   ·
    have H := G3
    clear G3 K3
    refine Ac ?_
    refine ls F W Aa (Ah Cs Aa Aa Aa T3 F Aa 0 Aa).q fun a w F W => ?_
    refine ls F W Aa (Ao (v := Value.int .i64 x2.1) 0 F Aa Aa T3 Aa).q fun a w F W => ?_
    refine ls F W Aa (Ah Cs Aa Aa Aa T3 F Aa 2 Aa).q fun a w F W => ?_
    refine ls F W Aa (Ao (v := Value.int .i64 x2.2.2.1) 0 F Aa Aa T3 Aa).q fun a w F W => ?_
    refine ls F W Aa (Cm F Aa Aa).q fun a w F W => ?_
    refine ls F W Aa (Ad F Aa).q fun a w F W => ?_
    rcases Bool.eq_false_or_eq_true (decide (x2.1 = x2.2.2.1)) with hb | hb
    ·
     have H := A5 (BJ hb) H
     rw [hb] at F
     clear hb
     iterate 3 refine B7 F Aa Aa Aa Aa Aa Aa Aa fun a F => ?_
     refine ls F W Aa (Am F Aa Aa Aa).q fun a w F W => ?_
     refine ls F W Aa (Ad F Aa).q fun a w F W => ?_
     iterate 5 refine B7 F Aa Aa Aa Aa Aa Aa Aa fun a F => ?_
     refine ls F W Aa (Am F Aa Aa Aa).q fun a w F W => ?_
     refine ls F W Aa (Ad F Aa).q fun a w F W => ?_
     iterate 3 refine B7 F Aa Aa Aa Aa Aa Aa Aa fun a F => ?_
     refine ls F W Aa (Am F Aa Aa Aa).q fun a w F W => ?_
     refine ls F W Aa (Ad F Aa).q fun a w F W => ?_
     iterate 7 refine B7 F Aa Aa Aa Aa Aa Aa Aa fun a F => ?_
     refine ls F W Aa (Am F Aa Aa Aa).q fun a w F W => ?_
     refine ls F W Aa (Ad F Aa).q fun a w F W => ?_
     iterate 7 refine B7 F Aa Aa Aa Aa Aa Aa Aa fun a F => ?_
     refine ls F W Aa (Am F Aa Aa Aa).q fun a w F W => ?_
     refine Ae (Ab ?_)
     have W := W.frontM (i := 1) Aa Aa
     have W := W.frontM (i := 1) Aa Aa
     exact ⟨_, H, F.re ⟨rfl, Aa, Aa, Aa, trivial⟩, W⟩
    have H := A6 (BK hb) H
    rw [hb] at F
    clear hb
    refine Ax F W (Af F Aa Aa Aa Aa) Aa (Aj Aa) (Ah Cs Aa Aa Aa T3 F Aa 4 Aa).q fun a w F W => ?_
    refine Ax F W (Af F Aa Aa Aa Aa) Aa (Aj Aa) (Ao (v := Value.int .i64 x2.2.2.2.2.1) 0 F Aa Aa T3 Aa).q fun a w F W => ?_
    refine Ax F W (Af F Aa Aa Aa Aa) Aa (Aj Aa) (Bm F Aa Aa).q fun a w F W => ?_
    refine ls F W Aa (Ak F Aa Aa Aa).q fun a w F W => ?_
    refine ls F W Aa (Ad F Aa).q fun a w F W => ?_
    rcases Bool.eq_false_or_eq_true (decide (x2.2.2.2.2.1 < 1)) with hb | hb
    ·
     have H := A5 (BJ hb) H
     rw [hb] at F
     clear hb
     iterate 5 refine B7 F Aa Aa Aa Aa Aa Aa Aa fun a F => ?_
     refine ls F W Aa (Am F Aa Aa Aa).q fun a w F W => ?_
     refine ls F W Aa (Ad F Aa).q fun a w F W => ?_
     iterate 3 refine B7 F Aa Aa Aa Aa Aa Aa Aa fun a F => ?_
     refine ls F W Aa (Am F Aa Aa Aa).q fun a w F W => ?_
     refine ls F W Aa (Ad F Aa).q fun a w F W => ?_
     iterate 7 refine B7 F Aa Aa Aa Aa Aa Aa Aa fun a F => ?_
     refine ls F W Aa (Am F Aa Aa Aa).q fun a w F W => ?_
     refine ls F W Aa (Ad F Aa).q fun a w F W => ?_
     iterate 7 refine B7 F Aa Aa Aa Aa Aa Aa Aa fun a F => ?_
     refine ls F W Aa (Am F Aa Aa Aa).q fun a w F W => ?_
     refine Ae (Ab ?_)
     have W := W.frontM (i := 1) Aa Aa
     have W := W.frontM (i := 1) Aa Aa
     exact ⟨_, H, F.re ⟨rfl, Aa, Aa, Aa, trivial⟩, W⟩
    have H := A6 (BK hb) H
    rw [hb] at F
    clear hb
    refine Ax F W (Af F Aa Aa Aa Aa) Aa (Aj Aa) (Ah Cs Aa Aa Aa T3 F Aa 4 Aa).q fun a w F W => ?_
    refine Ax F W (Af F Aa Aa Aa Aa) Aa (Aj Aa) (Ao (v := Value.int .i64 x2.2.2.2.2.1) 0 F Aa Aa T3 Aa).q fun a w F W => ?_
    refine Ax F W (Af F Aa Aa Aa Aa) Aa (Aj Aa) (Ah Cs Aa Aa Aa T3 F Aa 5 Aa).q fun a w F W => ?_
    refine Ax F W (Af F Aa Aa Aa Aa) Aa (Aj Aa) (Ao (v := Value.int .i64 x2.2.2.2.2.2) 0 F Aa Aa T3 Aa).q fun a w F W => ?_
    refine Ax F W (Af F Aa Aa Aa Aa) Aa (Aj Aa) (DP F Aa Aa).q fun a w F W => ?_
    refine ls F W Aa (Ak F Aa Aa Aa).q fun a w F W => ?_
    refine ls F W Aa (Ad F Aa).q fun a w F W => ?_
    rcases Bool.eq_false_or_eq_true (decide (x2.2.2.2.2.2 < x2.2.2.2.2.1)) with hb | hb
    ·
     have H := A5 (BJ hb) H
     rw [hb] at F
     clear hb
     iterate 3 refine B7 F Aa Aa Aa Aa Aa Aa Aa fun a F => ?_
     refine ls F W Aa (Am F Aa Aa Aa).q fun a w F W => ?_
     refine ls F W Aa (Ad F Aa).q fun a w F W => ?_
     iterate 7 refine B7 F Aa Aa Aa Aa Aa Aa Aa fun a F => ?_
     refine ls F W Aa (Am F Aa Aa Aa).q fun a w F W => ?_
     refine ls F W Aa (Ad F Aa).q fun a w F W => ?_
     iterate 7 refine B7 F Aa Aa Aa Aa Aa Aa Aa fun a F => ?_
     refine ls F W Aa (Am F Aa Aa Aa).q fun a w F W => ?_
     refine Ae (Ab ?_)
     have W := W.frontM (i := 1) Aa Aa
     have W := W.frontM (i := 1) Aa Aa
     exact ⟨_, H, F.re ⟨rfl, Aa, Aa, Aa, trivial⟩, W⟩
    have H := A6 (BK hb) H
    rw [hb] at F
    clear hb
    refine Ax F W (Af F Aa Aa Aa Aa) Aa (Aj Aa) (Ah Cs Aa Aa Aa T3 F Aa 5 Aa).q fun a w F W => ?_
    refine Ax F W (Af F Aa Aa Aa Aa) Aa (Aj Aa) (Ao (v := Value.int .i64 x2.2.2.2.2.2) 0 F Aa Aa T3 Aa).q fun a w F W => ?_
    refine Ax F W (Af F Aa Aa Aa Aa) Aa (Aj Aa) (DP F Aa Aa).q fun a w F W => ?_
    refine ls F W Aa (Ak F Aa Aa Aa).q fun a w F W => ?_
    refine ls F W Aa (Ad F Aa).q fun a w F W => ?_
    rcases Bool.eq_false_or_eq_true (decide (1000 < x2.2.2.2.2.2)) with hb | hb
    ·
     have H := A5 (BJ hb) H
     rw [hb] at F
     clear hb
     iterate 7 refine B7 F Aa Aa Aa Aa Aa Aa Aa fun a F => ?_
     refine ls F W Aa (Am F Aa Aa Aa).q fun a w F W => ?_
     refine ls F W Aa (Ad F Aa).q fun a w F W => ?_
     iterate 7 refine B7 F Aa Aa Aa Aa Aa Aa Aa fun a F => ?_
     refine ls F W Aa (Am F Aa Aa Aa).q fun a w F W => ?_
     refine Ae (Ab ?_)
     have W := W.frontM (i := 1) Aa Aa
     have W := W.frontM (i := 1) Aa Aa
     exact ⟨_, H, F.re ⟨rfl, Aa, Aa, Aa, trivial⟩, W⟩
    have H := A6 (BK hb) H
    rw [hb] at F
    clear hb
    refine Ax F W (Af F Aa Aa Aa Aa) Aa (Aj Aa) (Ao (v := Value.agg #[.int .i64 p0.1, v1, v2]) 1 F Aa Aa IB Aa).q fun a w F W => ?_
    refine Ax F W (Af F Aa Aa Aa Aa) Aa (Aj Aa) (Ah Cs Aa Aa Aa T3 F Aa 0 Aa).q fun a w F W => ?_
    refine Ax F W (Af F Aa Aa Aa Aa) Aa (Aj Aa) (Ao (v := Value.int .i64 x2.1) 0 F Aa Aa T3 Aa).q fun a w F W => ?_
    refine Ax F W (Af F Aa Aa Aa Aa) Aa (Aj Aa) (Ah Cs Aa Aa Aa T3 F Aa 1 Aa).q fun a w F W => ?_
    refine Ax F W (Af F Aa Aa Aa Aa) Aa (Aj Aa) (Ao (v := Value.int .i64 x2.2.1) 0 F Aa Aa T3 Aa).q fun a w F W => ?_
    refine IM (Af F Aa Aa Aa Aa) ?_
    obtain ⟨x4, h2, H⟩ := Al H
    refine ls F W Aa (B3 (v := Value.bool x4) F Ly Aa (fun w W => Fi any w (v1) (v2) p0 x2.1 x2.2.1 _ h2 (((Ap h_v1) : DT _ _ _ _ _ _) w W).nx (((Ap h_v2) : DT _ _ _ _ _ _) w W).nx)) fun a w F W => ?_
    refine Ax F W (Af F Aa Aa Aa Aa) Aa (Aj Aa) (Fc F Aa).q fun a w F W => ?_
    refine ls F W Aa (Ak F Aa Aa Aa).q fun a w F W => ?_
    refine ls F W Aa (Ad F Aa).q fun a w F W => ?_
    rcases Bool.eq_false_or_eq_true (!x4) with hb | hb
    ·
     have H := A5 hb H
     rw [hb] at F
     clear hb
     iterate 7 refine B7 F Aa Aa Aa Aa Aa Aa Aa fun a F => ?_
     refine ls F W Aa (Am F Aa Aa Aa).q fun a w F W => ?_
     refine Ae (Ab ?_)
     have W := W.frontM (i := 1) Aa Aa
     have W := W.frontM (i := 1) Aa Aa
     exact ⟨_, H, F.re ⟨rfl, Aa, Aa, Aa, trivial⟩, W⟩
    have H := A6 (by rw [hb]; decide) H
    rw [hb] at F
    clear hb
    refine Ax F W (Af F Aa Aa Aa Aa) Aa (Aj Aa) (Ao (v := Value.agg #[.int .i64 p0.1, v1, v2]) 1 F Aa Aa IB Aa).q fun a w F W => ?_
    refine Ax F W (Af F Aa Aa Aa Aa) Aa (Aj Aa) (Ah Cs Aa Aa Aa T3 F Aa 2 Aa).q fun a w F W => ?_
    refine Ax F W (Af F Aa Aa Aa Aa) Aa (Aj Aa) (Ao (v := Value.int .i64 x2.2.2.1) 0 F Aa Aa T3 Aa).q fun a w F W => ?_
    refine Ax F W (Af F Aa Aa Aa Aa) Aa (Aj Aa) (Ah Cs Aa Aa Aa T3 F Aa 3 Aa).q fun a w F W => ?_
    refine Ax F W (Af F Aa Aa Aa Aa) Aa (Aj Aa) (Ao (v := Value.int .i64 x2.2.2.2.1) 0 F Aa Aa T3 Aa).q fun a w F W => ?_
    refine IM (Af F Aa Aa Aa Aa) ?_
    obtain ⟨x5, h3, H⟩ := Al H
    refine ls F W Aa (B3 (v := Value.bool x5) F Ly Aa (fun w W => Fi any w (v1) (v2) p0 x2.2.2.1 x2.2.2.2.1 _ h3 (((Ap h_v1) : DT _ _ _ _ _ _) w W).nx (((Ap h_v2) : DT _ _ _ _ _ _) w W).nx)) fun a w F W => ?_
    refine Ax F W (Af F Aa Aa Aa Aa) Aa (Aj Aa) (Fc F Aa).q fun a w F W => ?_
    refine ls F W Aa (Ak F Aa Aa Aa).q fun a w F W => ?_
    refine Ae (Ab ?_)
    have W := W.frontM (i := 1) Aa Aa
    have W := W.frontM (i := 1) Aa Aa
    exact ⟨_, H, F.re ⟨rfl, Aa, Aa, Aa, trivial⟩, W⟩
   rintro a w ⟨x3, hj, F, W⟩
   have hj := Bg hj
   subst hj
   have H := K3
   clear G3 K3
   refine AC F Aa (fun hb => ?_) fun hb => ?_
   ·
    have H := A5 hb H
    rw [hb] at F
    clear hb
    refine Ai (Ac ?_)
    refine ls F W Aa (Ag F Aa).q fun a w F W => ?_
    refine Ae (Ab (AN (BX ?_)))
    iterate 2 refine AY ?_
    refine BX (AY ?_)
    have H := L2 _ H
    have H := L1 _ H
    have H := Bg H
    subst H
    refine Bz (.inl Aa) F W Aa (Az F Aa) ?_
    exact ⟨rfl, W.done⟩
   have H := A6 (by rw [hb]; decide) H
   rw [hb] at F
   clear hb
   refine As (AZ (Ab (Ac ?_)))
   refine ls F W Aa (Ad F Aa).q fun a w F W => ?_
   refine ls F W Aa (BE F Aa Aa Aa).q fun a w F W => ?_
   refine ls F W Aa (Ag F Aa).q fun a w F W => ?_
   refine Ae (Ab ?_)
   have W := W.frontM (i := 1) Aa Aa
   have W := W.sub (M' := [(b1, [.int .i64 p0.1, v1, v2])]) (Z' := []) (List.Sublist.cons_cons _ (List.nil_sublist _)) (List.Sublist.refl _)
   exact ⟨_, H, F.re ⟨rfl, Aa, Aa, trivial⟩, W⟩
  have H := A6 (BK hb) H
  rw [hb] at F
  clear hb
  refine BF ?_
  iterate 2 refine Cf ?_
  refine BI (Ab ?_)
  have H := L2 _ H
  exact ⟨H, F.re ⟨rfl, Aa, trivial⟩, W⟩
 rintro a w ⟨hj, F, W⟩
 have H := K1 _ hj
 clear hj G1 K1 L1
 obtain ⟨o4, G4, K4, L4⟩ := Jh H
 refine AO (fun a w => some (Sum.inl ()) = some o4 ∧ Fr 100 [] [(2, .bool false)] a ∧ Stw ⟨Y, [], w0⟩ [(b1, [.int .i64 p0.1, v1, v2])] [] w) ?_ ?_
 ·
  have H := G4
  clear G4 K4
  refine Ai (Ac ?_)
  refine ls F W Aa (Ag F Aa).q fun a w F W => ?_
  refine Ae (Ab (AA ?_))
  refine BG H (fun s a w => Fr 100 [] [(1, .pointer (some ⟨b1, 0, none⟩)), (2, .bool false), (5, .int .i64 s)] a ∧ Stw ⟨Y, [], w0⟩ [(b1, [.int .i64 p0.1, v1, v2])] [] w) ⟨F.re ⟨rfl, Aa, Aa, trivial⟩, W⟩ fun s o a w H L5 hR => ?_
  obtain ⟨x6, rfl⟩ : ∃ x, x = s := ⟨s, rfl⟩
  obtain ⟨F, W⟩ := hR
  have F : Fr 100 [] [(1, .pointer (some ⟨b1, 0, none⟩)), (2, .bool false), (5, .int .i64 x6)] a := F
  have W : Stw ⟨Y, [], w0⟩ [(b1, [.int .i64 p0.1, v1, v2])] [] w := W
  rw [Dx] at H
  refine Ai (Ai (Ac ?_))
  refine ls F W Aa (Ad F Aa).q fun a w F W => ?_
  refine ls F W Aa (Ah CZ Aa Aa Aa GH F Aa 2 Aa).q fun a w F W => ?_
  refine ls F W Aa (Ao (v := v2) 0 F Aa Aa GH Aa).q fun a w F W => ?_
  refine ls F W Aa (Cp (r := Cb) (l := p0.2.2) HX Aa F Aa (Ap h_v2)).q fun a w F W => ?_
  refine ls F W Aa (Bm F Aa Aa).q fun a w F W => ?_
  refine Ae (Ab ?_)
  refine AC F Aa (fun hb => ?_) fun hb => ?_
  ·
   have H := A5 (BJ hb) H
   rw [hb] at F
   clear hb
   refine As (Ab (Ai (AA (Ai ?_))))
   refine CB W MO (by kernel_rfl) ?_
   refine qs F Aa (Ao (v := Value.agg #[.int .i64 p0.1, v1, v2]) 0 F Aa Aa IB Aa).q fun a F => ?_
   refine qs F Aa (Ah CZ Aa Aa Aa GH F Aa 2 Aa).q fun a F => ?_
   refine qs F Aa (Ao (v := v2) 0 F Aa Aa GH Aa).q fun a F => ?_
   refine qs F Aa (Ad F Aa).q fun a F => ?_
   obtain ⟨x7, h4, H⟩ := Al H
   refine qs F Aa (AW (r := Cb) KM F Aa Aa (Ap h_v2) h4).q fun a F => ?_
   refine qs F Aa (Ah IC Aa Aa Aa T3 F Aa (Dd v2 + (x6).toNat * 2) Aa).q fun a F => ?_
   refine qs F Aa (Av (y := Value.int .i64 x7.1) (j := 0) (i := x6) F Aa Aa (Ap h_v2) h4 KV.to T3 Aa).q fun a F => ?_
   refine qs F Aa (Ah CZ Aa Aa Aa GH F Aa 2 Aa).q fun a F => ?_
   refine qs F Aa (Ao (v := v2) 0 F Aa Aa GH Aa).q fun a F => ?_
   refine qs F Aa (Ad F Aa).q fun a F => ?_
   obtain ⟨x8, h5, H⟩ := Al H
   refine qs F Aa (AW (r := Cb) KM F Aa Aa (Ap h_v2) h5).q fun a F => ?_
   refine qs F Aa (Ah IC Aa Aa Aa T3 F Aa (Dd v2 + (x6).toNat * 2 + 1) Aa).q fun a F => ?_
   refine qs F Aa (Av (y := Value.int .i64 x8.2) (j := 1) (i := x6) F Aa Aa (Ap h_v2) h5 KV.to T3 Aa).q fun a F => ?_
   obtain ⟨x9, h6, H⟩ := Al H
   refine qs F Aa (B3 (v := Value.bool x9) F Ly Aa (fun w W => Fi any w (v1) (v2) p0 x7.1 x8.2 _ h6 (((Ap h_v1) : DT _ _ _ _ _ _) w W).nx (((Ap h_v2) : DT _ _ _ _ _ _) w W).nx)) fun a F => ?_
   refine qs F Aa (Fc F Aa).q fun a F => ?_
   refine BL fun w W => ?_
   refine Ab ?_
   refine AC F Aa (fun hb => ?_) fun hb => ?_
   ·
    have H := A5 hb H
    rw [hb] at F
    clear hb
    refine Ai (Ac ?_)
    refine ls F W Aa (Ag F Aa).q fun a w F W => ?_
    refine Ae (Ab (AN (BX ?_)))
    iterate 2 refine AY ?_
    refine BX (AY ?_)
    have H := L5 _ H
    have H := L4 _ H
    have H := Bg H
    subst H
    refine Bz (.inl Aa) F W Aa (Az F Aa) ?_
    exact ⟨rfl, W.done⟩
   have H := A6 (by rw [hb]; decide) H
   rw [hb] at F
   clear hb
   refine As (AZ (Ab (Ac ?_)))
   refine ls F W Aa (Ad F Aa).q fun a w F W => ?_
   refine ls F W Aa (BE F Aa Aa Aa).q fun a w F W => ?_
   refine ls F W Aa (Ag F Aa).q fun a w F W => ?_
   refine Ae (Ab ?_)
   exact ⟨_, H, F.re ⟨rfl, Aa, Aa, trivial⟩, W⟩
  have H := A6 (BK hb) H
  rw [hb] at F
  clear hb
  refine BF ?_
  iterate 2 refine Cf ?_
  refine BI (Ab ?_)
  have H := L5 _ H
  exact ⟨H, F.re ⟨rfl, trivial⟩, W⟩
 rintro a w ⟨hj, F, W⟩
 have H := K4 _ hj
 clear hj G4 K4 L4
 refine Ai (Ac ?_)
 refine ls F W Aa (Ag F Aa).q fun a w F W => ?_
 refine Ae (Ab (AN ?_))
 have H := Bg H
 subst H
 refine Bz (.inl Aa) F W Aa (Az F Aa) ?_
 exact ⟨rfl, W.done⟩
theorem LW : Has Try.prog 14 := ⟨fun args w => An Try.func14 rfl (by decide) args w⟩
theorem KF : type_of% Try.underlying26 := Try.underlying26
theorem JB : Et Try.prog 26 38 10 80 := Et.of KF (by kernel_rfl) (by kernel_rfl) (by kernel_rfl) (by decide)
def Ms (a : Int × Int × Int × Int × Int × Int × (Int × Int × Int × Int)) : List Value := [.int .i64 a.1, .int .i64 a.2.1, .int .i64 a.2.2.1, .int .i64 a.2.2.2.1, .int .i64 a.2.2.2.2.1, .int .i64 a.2.2.2.2.2.1, .int .i64 a.2.2.2.2.2.2.1, .int .i64 a.2.2.2.2.2.2.2.1, .int .i64 a.2.2.2.2.2.2.2.2.1, .int .i64 a.2.2.2.2.2.2.2.2.2]
theorem JC : Fl HY Ms := (Fl.pair Fl.int (Fl.pair Fl.int (Fl.pair Fl.int (Fl.pair Fl.int (Fl.pair Fl.int (Fl.pair Fl.int LH))))))
noncomputable def Eg (p0 : Int × (List (Int × Int × Int × Int × Int × Int)) × (List (Int × Int))) (p1 : Int) (p2 : Int) : Int → Option (Int ⊕ (Unit ⊕ (Int × Int × Int × Bool)))
  | x1 => (if x1 < (p0.2.1.length : Int) then (ix p0.2.1 x1).bind fun x2 => (if (decide (x2.1 = p1) && decide (x2.2.1 = p2)) = true then some (.inr (.inr (x2.2.2.1, x2.2.2.2.1, x1, true))) else (if (decide (x2.2.2.1 = p1) && decide (x2.2.2.2.1 = p2)) = true then some (.inr (.inr (x2.1, x2.2.1, x1, true))) else some (.inl (Ay (x1 + 1))))) else some (.inr (.inl ())))
noncomputable def Ey (p0 : Int × (List (Int × Int × Int × Int × Int × Int)) × (List (Int × Int))) (p1 : Int) (p2 : Int) : Option (Int × Int × Int × Bool) := F3 (AM (Eg p0 p1 p2) 0) fun _ => some (0, 0, 0, false)
theorem HZ (Y : Nat → Prop) (w0 : World) (v1 : Value) (v2 : Value) (p0 : Int × (List (Int × Int × Int × Int × Int × Int)) × (List (Int × Int))) (p1 : Int) (p2 : Int) (r : Int × Int × Int × Bool) (H : Ey p0 p1 p2 = some r) (h_v1 : Sl w0 (NX []) Bx v1 p0.2.1) (h_v2 : Sl w0 (NX []) Cb v2 p0.2.2) :
    Calls Try.prog 33 #[.agg #[.int .i64 p0.1, v1, v2], .int .i64 p1, .int .i64 p2] w0 fun e w' => e = .returned (.tuple #[.int .i64 r.1, .int .i64 r.2.1, .int .i64 r.2.2.1, .bool r.2.2.2]) ∧ Below w0.heap.size w0 w' := by
 refine enter Try.func33 Aa Try.ntmps33 Aa fun a F => ?_
 have W := Stw.start Y w0
 unfold Ey at H
 refine Ai (Ac ?_)
 refine DW (cs := [.int .i64 p0.1, v1, v2]) F W Aa Aa Aa fun b1 a w F W => ?_
 iterate 4 refine ls F W Aa (Ag F Aa).q fun a w F W => ?_
 refine Ae (Ab ?_)
 obtain ⟨o1, G1, K1, L1⟩ := Jh H
 refine AO (fun a w => some (Sum.inl ()) = some o1 ∧ Fr 54 [] [(6, .int .i64 0), (7, .int .i64 0), (8, .int .i64 0), (9, .bool false)] a ∧ Stw ⟨Y, [], w0⟩ [(b1, [.int .i64 p0.1, v1, v2])] [] w) ?_ ?_
 ·
  have H := G1
  clear G1 K1
  refine Ai (Ac ?_)
  refine ls F W Aa (Ag F Aa).q fun a w F W => ?_
  refine Ae (Ab (AA ?_))
  refine BG H (fun s a w => Fr 54 [] [(1, .int .i64 p1), (2, .int .i64 p2), (3, .pointer (some ⟨b1, 0, none⟩)), (6, .int .i64 0), (7, .int .i64 0), (8, .int .i64 0), (9, .bool false), (10, .int .i64 s)] a ∧ Stw ⟨Y, [], w0⟩ [(b1, [.int .i64 p0.1, v1, v2])] [] w) ⟨F.re ⟨rfl, Aa, Aa, Aa, Aa, Aa, Aa, Aa, trivial⟩, W⟩ fun s o a w H L2 hR => ?_
  obtain ⟨x1, rfl⟩ : ∃ x, x = s := ⟨s, rfl⟩
  obtain ⟨F, W⟩ := hR
  have F : Fr 54 [] [(1, .int .i64 p1), (2, .int .i64 p2), (3, .pointer (some ⟨b1, 0, none⟩)), (6, .int .i64 0), (7, .int .i64 0), (8, .int .i64 0), (9, .bool false), (10, .int .i64 x1)] a := F
  have W : Stw ⟨Y, [], w0⟩ [(b1, [.int .i64 p0.1, v1, v2])] [] w := W
  rw [Eg] at H
  refine Ai (Ai (Ac ?_))
  refine ls F W Aa (Ad F Aa).q fun a w F W => ?_
  refine ls F W Aa (Ah CZ Aa Aa Aa E5 F Aa 1 Aa).q fun a w F W => ?_
  refine ls F W Aa (Ao (v := v1) 0 F Aa Aa E5 Aa).q fun a w F W => ?_
  refine ls F W Aa (Cp (r := Bx) (l := p0.2.1) Gx Aa F Aa (Ap h_v1)).q fun a w F W => ?_
  refine ls F W Aa (Bm F Aa Aa).q fun a w F W => ?_
  refine Ae (Ab ?_)
  refine AC F Aa (fun hb => ?_) fun hb => ?_
  ·
   have H := A5 (BJ hb) H
   rw [hb] at F
   clear hb
   refine As (Ab (Ai (AA (Ai (Ac ?_)))))
   refine ls F W Aa (Ah CZ Aa Aa Aa E5 F Aa 1 Aa).q fun a w F W => ?_
   refine ls F W Aa (Ao (v := v1) 0 F Aa Aa E5 Aa).q fun a w F W => ?_
   refine ls F W Aa (Ad F Aa).q fun a w F W => ?_
   obtain ⟨x2, h1, H⟩ := Al H
   refine ls F W Aa (AW (r := Bx) I0 F Aa Aa (Ap h_v1) h1).q fun a w F W => ?_
   refine ls F W Aa (Av (y := Value.agg #[.int .i64 x2.1, .int .i64 x2.2.1, .int .i64 x2.2.2.1, .int .i64 x2.2.2.2.1, .int .i64 x2.2.2.2.2.1, .int .i64 x2.2.2.2.2.2]) (j := 0) (i := x1) F Aa Aa (Ap h_v1) h1 Jo.to IA Aa).q fun a w F W => ?_
   refine BZ (cs := (IU)) F W Aa Ka Aa fun b2 a w F W => ?_
   refine Bl (vs := (Gv x2)) (M' := (Gy b2 x2 b1 p0 v1 v2)) 0 F W Aa Aa Aa IA Aa Aa Aa Aa Aa fun w W => ?_
   refine Ae (Ab (Ai ?_))
   refine AO (fun a w => Fr 54 [] [(1, .int .i64 p1), (2, .int .i64 p2), (3, .pointer (some ⟨b1, 0, none⟩)), (6, .int .i64 0), (7, .int .i64 0), (8, .int .i64 0), (9, .bool false), (10, .int .i64 x1), (11, .pointer (some ⟨b2, 0, none⟩)), (33, .bool (decide (x2.1 = p1) && decide (x2.2.1 = p2)))] a ∧ Stw ⟨Y, [], w0⟩ (Gy b2 x2 b1 p0 v1 v2) [] w) ?_ ?_
   ·
    refine Ac ?_
    refine ls F W Aa (Ah Cs Aa Aa Aa T3 F Aa 0 Aa).q fun a w F W => ?_
    refine ls F W Aa (Ao (v := Value.int .i64 x2.1) 0 F Aa Aa T3 Aa).q fun a w F W => ?_
    refine ls F W Aa (Ad F Aa).q fun a w F W => ?_
    refine ls F W Aa (Cm F Aa Aa).q fun a w F W => ?_
    refine ls F W Aa (Ad F Aa).q fun a w F W => ?_
    rcases Bool.eq_false_or_eq_true (decide (x2.1 = p1)) with hb0 | hb0
    ·
     rw [hb0] at F
     refine Ax F W (Af F Aa Aa Aa Aa) Aa (Aj Aa) (Ah Cs Aa Aa Aa T3 F Aa 1 Aa).q fun a w F W => ?_
     refine Ax F W (Af F Aa Aa Aa Aa) Aa (Aj Aa) (Ao (v := Value.int .i64 x2.2.1) 0 F Aa Aa T3 Aa).q fun a w F W => ?_
     refine Ax F W (Af F Aa Aa Aa Aa) Aa (Aj Aa) (Ad F Aa).q fun a w F W => ?_
     refine Ax F W (Af F Aa Aa Aa Aa) Aa (Aj Aa) (Cm F Aa Aa).q fun a w F W => ?_
     refine ls F W Aa (Am F Aa Aa Aa).q fun a w F W => ?_
     refine Ae (Ab ?_)
     exact ⟨F.re ⟨rfl, Aa, Aa, Aa, Aa, Aa, Aa, Aa, Aa, (Ev (by try rw [hb0]; all_goals simp only [Ez])), trivial⟩, W⟩
    rw [hb0] at F
    iterate 4 refine B7 F Aa Aa Aa Aa Aa Aa Aa fun a F => ?_
    refine ls F W Aa (Ak F Aa Aa Aa).q fun a w F W => ?_
    refine Ae (Ab ?_)
    exact ⟨F.re ⟨rfl, Aa, Aa, Aa, Aa, Aa, Aa, Aa, Aa, (Ev (by try rw [hb0]; all_goals simp only [Ez])), trivial⟩, W⟩
   rintro a w ⟨F, W⟩
   refine AC F Aa (fun hb => ?_) fun hb => ?_
   ·
    have H := A5 hb H
    rw [hb] at F
    clear hb
    refine Ai ?_
    refine CB W MO (by kernel_rfl) ?_
    refine qs F Aa (Ah Cs Aa Aa Aa T3 F Aa 2 Aa).q fun a F => ?_
    refine qs F Aa (Ao (v := Value.int .i64 x2.2.2.1) 0 F Aa Aa T3 Aa).q fun a F => ?_
    refine qs F Aa (Ah Cs Aa Aa Aa T3 F Aa 3 Aa).q fun a F => ?_
    refine qs F Aa (Ao (v := Value.int .i64 x2.2.2.2.1) 0 F Aa Aa T3 Aa).q fun a F => ?_
    refine qs F Aa (Ad F Aa).q fun a F => ?_
    iterate 4 refine qs F Aa (Ag F Aa).q fun a F => ?_
    refine BL fun w W => ?_
    refine Ab (AN (AY (BX ?_)))
    iterate 2 refine AY ?_
    refine BX (AY ?_)
    have H := L2 _ H
    have H := L1 _ H
    have H := Bg H
    subst H
    refine GS (.inl Aa) F W Aa (Az F Aa) (Az F Aa) (Az F Aa) (Az F Aa) ?_
    exact ⟨rfl, W.done⟩
   have H := A6 (by rw [hb]; decide) H
   rw [hb] at F
   clear hb
   refine As (Ab ?_)
   refine AO (fun a w => Fr 54 [] [(1, .int .i64 p1), (2, .int .i64 p2), (3, .pointer (some ⟨b1, 0, none⟩)), (6, .int .i64 0), (7, .int .i64 0), (8, .int .i64 0), (9, .bool false), (10, .int .i64 x1), (11, .pointer (some ⟨b2, 0, none⟩)), (48, .bool (decide (x2.2.2.1 = p1) && decide (x2.2.2.2.1 = p2)))] a ∧ Stw ⟨Y, [], w0⟩ (Gy b2 x2 b1 p0 v1 v2) [] w) ?_ ?_
   ·
    refine Ac ?_
    refine ls F W Aa (Ah Cs Aa Aa Aa T3 F Aa 2 Aa).q fun a w F W => ?_
    refine ls F W Aa (Ao (v := Value.int .i64 x2.2.2.1) 0 F Aa Aa T3 Aa).q fun a w F W => ?_
    refine ls F W Aa (Ad F Aa).q fun a w F W => ?_
    refine ls F W Aa (Cm F Aa Aa).q fun a w F W => ?_
    refine ls F W Aa (Ad F Aa).q fun a w F W => ?_
    rcases Bool.eq_false_or_eq_true (decide (x2.2.2.1 = p1)) with hb0 | hb0
    ·
     rw [hb0] at F
     refine Ax F W (Af F Aa Aa Aa Aa) Aa (Aj Aa) (Ah Cs Aa Aa Aa T3 F Aa 3 Aa).q fun a w F W => ?_
     refine Ax F W (Af F Aa Aa Aa Aa) Aa (Aj Aa) (Ao (v := Value.int .i64 x2.2.2.2.1) 0 F Aa Aa T3 Aa).q fun a w F W => ?_
     refine Ax F W (Af F Aa Aa Aa Aa) Aa (Aj Aa) (Ad F Aa).q fun a w F W => ?_
     refine Ax F W (Af F Aa Aa Aa Aa) Aa (Aj Aa) (Cm F Aa Aa).q fun a w F W => ?_
     refine ls F W Aa (Am F Aa Aa Aa).q fun a w F W => ?_
     refine Ae (Ab ?_)
     exact ⟨F.re ⟨rfl, Aa, Aa, Aa, Aa, Aa, Aa, Aa, Aa, (Ev (by try rw [hb0]; all_goals simp only [Ez])), trivial⟩, W⟩
    rw [hb0] at F
    iterate 4 refine B7 F Aa Aa Aa Aa Aa Aa Aa fun a F => ?_
    refine ls F W Aa (Ak F Aa Aa Aa).q fun a w F W => ?_
    refine Ae (Ab ?_)
    exact ⟨F.re ⟨rfl, Aa, Aa, Aa, Aa, Aa, Aa, Aa, Aa, (Ev (by try rw [hb0]; all_goals simp only [Ez])), trivial⟩, W⟩
   rintro a w ⟨F, W⟩
   refine AC F Aa (fun hb => ?_) fun hb => ?_
   ·
    have H := A5 hb H
    rw [hb] at F
    clear hb
    refine Ai ?_
    refine CB W MO (by kernel_rfl) ?_
    refine qs F Aa (Ah Cs Aa Aa Aa T3 F Aa 0 Aa).q fun a F => ?_
    refine qs F Aa (Ao (v := Value.int .i64 x2.1) 0 F Aa Aa T3 Aa).q fun a F => ?_
    refine qs F Aa (Ah Cs Aa Aa Aa T3 F Aa 1 Aa).q fun a F => ?_
    refine qs F Aa (Ao (v := Value.int .i64 x2.2.1) 0 F Aa Aa T3 Aa).q fun a F => ?_
    refine qs F Aa (Ad F Aa).q fun a F => ?_
    iterate 4 refine qs F Aa (Ag F Aa).q fun a F => ?_
    refine BL fun w W => ?_
    refine Ab (AN (BX ?_))
    iterate 2 refine AY ?_
    refine BX (AY ?_)
    have H := L2 _ H
    have H := L1 _ H
    have H := Bg H
    subst H
    refine GS (.inl Aa) F W Aa (Az F Aa) (Az F Aa) (Az F Aa) (Az F Aa) ?_
    exact ⟨rfl, W.done⟩
   have H := A6 (by rw [hb]; decide) H
   rw [hb] at F
   clear hb
   refine As (AZ (Ab (Ac ?_)))
   refine ls F W Aa (Ad F Aa).q fun a w F W => ?_
   refine ls F W Aa (BE F Aa Aa Aa).q fun a w F W => ?_
   refine ls F W Aa (Ag F Aa).q fun a w F W => ?_
   refine Ae (Ab ?_)
   have W := W.frontM (i := 1) Aa Aa
   have W := W.sub (M' := [(b1, [.int .i64 p0.1, v1, v2])]) (Z' := []) (List.Sublist.cons_cons _ (List.nil_sublist _)) (List.Sublist.refl _)
   exact ⟨_, H, F.re ⟨rfl, Aa, Aa, Aa, Aa, Aa, Aa, Aa, trivial⟩, W⟩
  have H := A6 (BK hb) H
  rw [hb] at F
  clear hb
  refine BF ?_
  iterate 2 refine Cf ?_
  refine BI (Ab ?_)
  have H := L2 _ H
  exact ⟨H, F.re ⟨rfl, Aa, Aa, Aa, trivial⟩, W⟩
 rintro a w ⟨hj, F, W⟩
 have H := K1 _ hj
 clear hj G1 K1 L1
 refine Ai (Ac ?_)
 iterate 4 refine ls F W Aa (Ag F Aa).q fun a w F W => ?_
 refine Ae (Ab (AN ?_))
 have H := Bg H
 subst H
 refine GS (.inl Aa) F W Aa (Az F Aa) (Az F Aa) (Az F Aa) (Az F Aa) ?_
 exact ⟨rfl, W.done⟩
theorem Mg : Has Try.prog 33 := ⟨fun args w => An Try.func33 rfl (by decide) args w⟩
noncomputable def Fb (p0 : (Int × (List (Int × Int × Int × Int × Int × Int)) × (List (Int × Int))) × (List (Int × Int × Int × (Int × Int × Int × Int) × Int × Int))) (p1 : Int) (p2 : Int) (p3 : Int) (p4 : Int) (p5 : Int × Int × Int × Int) : Option (Int × ((Int × (List (Int × Int × Int × Int × Int × Int)) × (List (Int × Int))) × (List (Int × Int × Int × (Int × Int × Int × Int) × Int × Int)))) := (Ey p0.1 p2 p3).bind fun x1 => (if (!x1.2.2.2) = true then some (7, p0) else (if 255 < (p0.2.length : Int) then some (6, p0) else (ix p0.1.2.1 x1.2.2.1).bind fun x2 => (ix p0.1.2.1 x1.2.2.1).bind fun x3 => (app p0.2 ([(p4, x1.1, x1.2.1, p5, Ay (p1 + x2.2.2.2.2.1), Ay (p1 + x3.2.2.2.2.2))] : List (Int × Int × Int × (Int × Int × Int × Int) × Int × Int))).bind fun x4 => some (0, (p0.1, x4))))
noncomputable def E2 (p0 : (Int × (List (Int × Int × Int × Int × Int × Int)) × (List (Int × Int))) × (List (Int × Int × Int × (Int × Int × Int × Int) × Int × Int))) (p1 : Int) : Option ((Int × Int × Int × (Int × Int × Int × Int) × Int × Int) × Int) := (if (decide (p1 < 0) || decide ((p0.2.length : Int) ≤ p1)) = true then some ((0, 0, 0, (0, 0, 0, 0), 0, 0), 7) else (ix p0.2 p1).bind fun x1 => some (x1, 0))
noncomputable def CW (p0 : (Int × (List (Int × Int × Int × Int × Int × Int)) × (List (Int × Int))) × (List (Int × Int × Int × (Int × Int × Int × Int) × Int × Int))) (p1 : Int) : ((List (Int × Int × Int × (Int × Int × Int × Int) × Int × Int)) × Int) → Option (((List (Int × Int × Int × (Int × Int × Int × Int) × Int × Int)) × Int) ⊕ (List (Int × Int × Int × (Int × Int × Int × Int) × Int × Int)))
  | (x2, x3) => (if x3 < (p0.2.length : Int) then (if x3 ≠ p1 then (ix p0.2 x3).bind fun x5 => (app x2 ([x5] : List (Int × Int × Int × (Int × Int × Int × Int) × Int × Int))).bind fun x6 => some x6 else some x2).bind fun x4 => some (.inl (x4, Ay (x3 + 1))) else some (.inr x2))
noncomputable def Cv (p0 : (Int × (List (Int × Int × Int × Int × Int × Int)) × (List (Int × Int))) × (List (Int × Int × Int × (Int × Int × Int × Int) × Int × Int))) (p1 : Int) : Option ((Int × (List (Int × Int × Int × Int × Int × Int)) × (List (Int × Int))) × (List (Int × Int × Int × (Int × Int × Int × Int) × Int × Int))) := (AM (CW p0 p1) ([], 0)).bind fun x1 => some (p0.1, x1)
noncomputable def E0 (p0 : (Int × (List (Int × Int × Int × Int × Int × Int)) × (List (Int × Int))) × (List (Int × Int × Int × (Int × Int × Int × Int) × Int × Int))) (p1 : Int) (p2 : Int) : Option ((Int × Int × Int × (Int × Int × Int × Int) × Int × Int) × Int × ((Int × (List (Int × Int × Int × Int × Int × Int)) × (List (Int × Int))) × (List (Int × Int × Int × (Int × Int × Int × Int) × Int × Int)))) := (E2 p0 p2).bind fun x1 => (if x1.2 ≠ 0 then some (x1.1, x1.2, p0) else (if p1 < x1.1.2.2.2.2.1 then some ((0, 0, 0, (0, 0, 0, 0), 0, 0), 15, p0) else (Cv p0 p2).bind fun x2 => some (x1.1, 0, x2)))
end Go.Proofs.Ytemacefkdopgaaa
