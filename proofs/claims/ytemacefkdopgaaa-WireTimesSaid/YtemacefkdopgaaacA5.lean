/- The functions of layer 35, EJ. Conditions: none. -/
import Derived.Test.YtemacefkdopgaaacA4
namespace Go.Proofs.Ytemacefkdopgaaa
open Go Go.RowKit
set_option linter.unusedVariables false
set_option linter.unusedSimpArgs false
set_option maxRecDepth 20000
theorem Kh : type_of% Try.underlying46 := Try.underlying46
theorem Lh : type_of% Try.underlying47 := Try.underlying47
theorem K0 : Et Try.prog 47 4 1 1 := Et.of Lh (by kernel_rfl) (by kernel_rfl) (by kernel_rfl) (by decide)
theorem T4 : Ty Try.prog 4 false 1 := ⟨by kernel_rfl, by kernel_rfl⟩
theorem KA : Et Try.prog 46 3 1 8 := Et.of Kh (by kernel_rfl) (by kernel_rfl) (by kernel_rfl) (by decide)
noncomputable def ED (p0 : Int × (List (Int × Int × Int × Int × Int × Int)) × (List (Int × Int))) (p1 : Int × Int × Int × (Int × Int × Int × Int) × Int × Int) (p2 : Int) (p3 : Int) : Option Bool := (Ey p0 p1.2.1 p1.2.2.1).bind fun x1 => (if x1.2.2.2 = true then (if x1.1 = p2 then (ix p0.2.1 x1.2.2.1).bind fun x3 => (if x3.2.2.2.2.1 ≤ p3 then (ix p0.2.1 x1.2.2.1).bind fun x4 => some (decide (p3 ≤ x4.2.2.2.2.2)) else some false) else some false) else some false).bind fun x2 => some x2
theorem H4 (Y : Nat → Prop) (w0 : World) (v1 : Value) (v2 : Value) (p0 : Int × (List (Int × Int × Int × Int × Int × Int)) × (List (Int × Int))) (p1 : Int × Int × Int × (Int × Int × Int × Int) × Int × Int) (p2 : Int) (p3 : Int) (r : Bool) (H : ED p0 p1 p2 p3 = some r) (h_v1 : Sl w0 (NX []) Bx v1 p0.2.1) (h_v2 : Sl w0 (NX []) Cb v2 p0.2.2) :
    Calls Try.prog 17 #[.agg #[.int .i64 p0.1, v1, v2], .agg #[.int .i64 p1.1, .int .i64 p1.2.1, .int .i64 p1.2.2.1, .int .i64 p1.2.2.2.1.1, .int .i64 p1.2.2.2.1.2.1, .int .i64 p1.2.2.2.1.2.2.1, .int .i64 p1.2.2.2.1.2.2.2, .int .i64 p1.2.2.2.2.1, .int .i64 p1.2.2.2.2.2], .int .i64 p2, .int .i64 p3] w0 fun e w' => e = .returned (.bool r) ∧ Below w0.heap.size w0 w' := by
 refine enter Try.func17 Aa Try.ntmps17 Aa fun a F => ?_
 have W := Stw.start Y w0
 unfold ED at H
 refine Ai (Ac ?_)
 refine DW (cs := [.int .i64 p0.1, v1, v2]) F W Aa Aa Aa fun b1 a w F W => ?_
 refine DW (cs := (DQ p1)) F W Aa Aa Aa fun b2 a w F W => ?_
 refine ls F W Aa (Ag F Aa).q fun a w F W => ?_
 refine Ae (Ab (Ai (Ac ?_)))
 refine ls F W Aa (Ao (v := Value.agg #[.int .i64 p0.1, v1, v2]) 1 F Aa Aa IB Aa).q fun a w F W => ?_
 refine ls F W Aa (Ah Ge Aa Aa Aa T3 F Aa 1 Aa).q fun a w F W => ?_
 refine ls F W Aa (Ao (v := Value.int .i64 p1.2.1) 0 F Aa Aa T3 Aa).q fun a w F W => ?_
 refine ls F W Aa (Ah Ge Aa Aa Aa T3 F Aa 2 Aa).q fun a w F W => ?_
 refine ls F W Aa (Ao (v := Value.int .i64 p1.2.2.1) 0 F Aa Aa T3 Aa).q fun a w F W => ?_
 obtain ⟨x1, h1, H⟩ := Al H
 refine ls F W Aa (B3 (v := Value.tuple #[.int .i64 x1.1, .int .i64 x1.2.1, .int .i64 x1.2.2.1, .bool x1.2.2.2]) F Mg Aa (fun w W => HZ any w (v1) (v2) p0 p1.2.1 p1.2.2.1 _ h1 (((Ap h_v1) : DT _ _ _ _ _ _) w W).nx (((Ap h_v2) : DT _ _ _ _ _ _) w W).nx)) fun a w F W => ?_
 refine ls F W Aa (Ad F Aa).q fun a w F W => ?_
 refine ls F W Aa (AU (v := Value.int .i64 x1.1) F Aa Aa).q fun a w F W => ?_
 refine ls F W Aa (AU (v := Value.int .i64 x1.2.1) F Aa Aa).q fun a w F W => ?_
 refine ls F W Aa (AU (v := Value.int .i64 x1.2.2.1) F Aa Aa).q fun a w F W => ?_
 refine ls F W Aa (AU (v := Value.bool x1.2.2.2) F Aa Aa).q fun a w F W => ?_
 iterate 4 refine ls F W Aa (Ag F Aa).q fun a w F W => ?_
 refine Ae (Ab ?_)
 obtain ⟨o1, G1, K1⟩ := Al H
 refine AO (fun a w => ∃ x2 : Bool, some (x2) = some o1 ∧ Fr 50 [] [(8, .bool x2)] a ∧ Stw ⟨Y, [], w0⟩ [(b2, [.int .i64 p1.1, .int .i64 p1.2.1, .int .i64 p1.2.2.1, .int .i64 p1.2.2.2.1.1, .int .i64 p1.2.2.2.1.2.1, .int .i64 p1.2.2.2.1.2.2.1, .int .i64 p1.2.2.2.1.2.2.2, .int .i64 p1.2.2.2.2.1, .int .i64 p1.2.2.2.2.2]), (b1, [.int .i64 p0.1, v1, v2])] [] w) ?_ ?_
 ·
  have H := G1
  clear G1 K1
  refine Ac ?_
  iterate 2 refine ls F W Aa (Ad F Aa).q fun a w F W => ?_
  rcases Bool.eq_false_or_eq_true x1.2.2.2 with hb | hb
  ·
   have H := A5 hb H
   rw [hb] at F
   clear hb
   iterate 2 refine Ax F W (Af F Aa Aa Aa Aa) Aa (Aj Aa) (Ad F Aa).q fun a w F W => ?_
   refine Ax F W (Af F Aa Aa Aa Aa) Aa (Aj Aa) (Cm F Aa Aa).q fun a w F W => ?_
   refine ls F W Aa (Am F Aa Aa Aa).q fun a w F W => ?_
   refine ls F W Aa (Ad F Aa).q fun a w F W => ?_
   rcases Bool.eq_false_or_eq_true (decide (x1.1 = p2)) with hb | hb
   ·
    have H := A5 (BJ hb) H
    rw [hb] at F
    clear hb
    refine Ax F W (Af F Aa Aa Aa Aa) Aa (Aj Aa) (Ad F Aa).q fun a w F W => ?_
    refine Ax F W (Af F Aa Aa Aa Aa) Aa (Aj Aa) (Ah CZ Aa Aa Aa E5 F Aa 1 Aa).q fun a w F W => ?_
    refine Ax F W (Af F Aa Aa Aa Aa) Aa (Aj Aa) (Ao (v := v1) 1 F Aa Aa E5 Aa).q fun a w F W => ?_
    refine Ax F W (Af F Aa Aa Aa Aa) Aa (Aj Aa) (Ad F Aa).q fun a w F W => ?_
    obtain ⟨x3, h2, H⟩ := Al H
    refine Ax F W (Af F Aa Aa Aa Aa) Aa (Aj Aa) (AW (r := Bx) I0 F Aa Aa (Ap h_v1) h2).q fun a w F W => ?_
    refine Ax F W (Af F Aa Aa Aa Aa) Aa (Aj Aa) (Ah Cs Aa Aa Aa T3 F Aa (Dd v1 + (x1.2.2.1).toNat * 6 + 4) Aa).q fun a w F W => ?_
    refine Ax F W (Af F Aa Aa Aa Aa) Aa (Aj Aa) (Av (y := Value.int .i64 x3.2.2.2.2.1) (j := 4) (i := x1.2.2.1) F Aa Aa (Ap h_v1) h2 Jo.to T3 Aa).q fun a w F W => ?_
    refine Ax F W (Af F Aa Aa Aa Aa) Aa (Aj Aa) (Fe F Aa Aa).q fun a w F W => ?_
    refine ls F W Aa (Am F Aa Aa Aa).q fun a w F W => ?_
    refine ls F W Aa (Ad F Aa).q fun a w F W => ?_
    rcases Bool.eq_false_or_eq_true (decide (x3.2.2.2.2.1 ≤ p3)) with hb | hb
    ·
     have H := A5 (BJ hb) H
     rw [hb] at F
     clear hb
     refine Ax F W (Af F Aa Aa Aa Aa) Aa (Aj Aa) (Ad F Aa).q fun a w F W => ?_
     refine Ax F W (Af F Aa Aa Aa Aa) Aa (Aj Aa) (Ah CZ Aa Aa Aa E5 F Aa 1 Aa).q fun a w F W => ?_
     refine Ax F W (Af F Aa Aa Aa Aa) Aa (Aj Aa) (Ao (v := v1) 1 F Aa Aa E5 Aa).q fun a w F W => ?_
     refine Ax F W (Af F Aa Aa Aa Aa) Aa (Aj Aa) (Ad F Aa).q fun a w F W => ?_
     obtain ⟨x4, h3, H⟩ := Al H
     refine Ax F W (Af F Aa Aa Aa Aa) Aa (Aj Aa) (AW (r := Bx) I0 F Aa Aa (Ap h_v1) h3).q fun a w F W => ?_
     refine Ax F W (Af F Aa Aa Aa Aa) Aa (Aj Aa) (Ah Cs Aa Aa Aa T3 F Aa (Dd v1 + (x1.2.2.1).toNat * 6 + 5) Aa).q fun a w F W => ?_
     refine Ax F W (Af F Aa Aa Aa Aa) Aa (Aj Aa) (Av (y := Value.int .i64 x4.2.2.2.2.2) (j := 5) (i := x1.2.2.1) F Aa Aa (Ap h_v1) h3 Jo.to T3 Aa).q fun a w F W => ?_
     refine Ax F W (Af F Aa Aa Aa Aa) Aa (Aj Aa) (HD F Aa Aa).q fun a w F W => ?_
     refine ls F W Aa (Am F Aa Aa Aa).q fun a w F W => ?_
     refine ls F W Aa (Ag F Aa).q fun a w F W => ?_
     refine Ae (Ab ?_)
     have W := W.frontM (i := 1) Aa Aa
     have W := W.frontM (i := 1) Aa Aa
     exact ⟨_, H, F.re ⟨rfl, trivial⟩, W⟩
    have H := A6 (BK hb) H
    rw [hb] at F
    clear hb
    iterate 8 refine B7 F Aa Aa Aa Aa Aa Aa Aa fun a F => ?_
    refine ls F W Aa (Ak F Aa Aa Aa).q fun a w F W => ?_
    refine ls F W Aa (Ag F Aa).q fun a w F W => ?_
    refine Ae (Ab ?_)
    have W := W.frontM (i := 1) Aa Aa
    have W := W.frontM (i := 1) Aa Aa
    exact ⟨_, H, F.re ⟨rfl, trivial⟩, W⟩
   have H := A6 (BK hb) H
   rw [hb] at F
   clear hb
   iterate 8 refine B7 F Aa Aa Aa Aa Aa Aa Aa fun a F => ?_
   refine ls F W Aa (Ak F Aa Aa Aa).q fun a w F W => ?_
   refine ls F W Aa (Ad F Aa).q fun a w F W => ?_
   iterate 8 refine B7 F Aa Aa Aa Aa Aa Aa Aa fun a F => ?_
   refine ls F W Aa (Ak F Aa Aa Aa).q fun a w F W => ?_
   refine ls F W Aa (Ag F Aa).q fun a w F W => ?_
   refine Ae (Ab ?_)
   have W := W.frontM (i := 1) Aa Aa
   have W := W.frontM (i := 1) Aa Aa
   exact ⟨_, H, F.re ⟨rfl, trivial⟩, W⟩
  have H := A6 (by rw [hb]; decide) H
  rw [hb] at F
  clear hb
  iterate 3 refine B7 F Aa Aa Aa Aa Aa Aa Aa fun a F => ?_
  refine ls F W Aa (Ak F Aa Aa Aa).q fun a w F W => ?_
  refine ls F W Aa (Ad F Aa).q fun a w F W => ?_
  iterate 8 refine B7 F Aa Aa Aa Aa Aa Aa Aa fun a F => ?_
  refine ls F W Aa (Ak F Aa Aa Aa).q fun a w F W => ?_
  refine ls F W Aa (Ad F Aa).q fun a w F W => ?_
  iterate 8 refine B7 F Aa Aa Aa Aa Aa Aa Aa fun a F => ?_
  refine ls F W Aa (Ak F Aa Aa Aa).q fun a w F W => ?_
  refine ls F W Aa (Ag F Aa).q fun a w F W => ?_
  refine Ae (Ab ?_)
  have W := W.frontM (i := 1) Aa Aa
  have W := W.frontM (i := 1) Aa Aa
  exact ⟨_, H, F.re ⟨rfl, trivial⟩, W⟩
 rintro a w ⟨x2, hj, F, W⟩
 have hj := Bg hj
 subst hj
 have H := K1
 clear G1 K1
 refine AN ?_
 have H := Bg H
 subst H
 refine Bz (.inl Aa) F W Aa (Az F Aa) ?_
 exact ⟨rfl, W.done⟩
end Go.Proofs.Ytemacefkdopgaaa
