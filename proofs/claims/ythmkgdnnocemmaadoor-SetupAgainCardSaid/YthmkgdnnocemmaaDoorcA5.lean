/- The functions of layer 40, FH. Conditions: none. -/
import Derived.Test.YthmkgdnnocemmaaDoorcA4
namespace Go.Proofs.YthmkgdnnocemmaaDoor
open Go Go.RowKit
set_option linter.unusedVariables false
set_option linter.unusedSimpArgs false
set_option maxRecDepth 20000
abbrev KN (a0 : Nat) (a1 : ((Int × (List (Int × Int × Int × Int × Int × Int)) × (List (Int × Int))) × List (List Int) × List Int × Int × Int × Int × Int × Int × Int) × Int × Int) (a2 : Value) (a3 : Value) (a4 : Value) (a5 : Value) : List (Nat × List Value) := [(a0, [.int .i64 a1.1.1.1, a2, a3, a4, a5, .int .i64 a1.1.2.2.2.1, .int .i64 a1.1.2.2.2.2.1, .int .i64 a1.1.2.2.2.2.2.1, .int .i64 a1.1.2.2.2.2.2.2.1, .int .i64 a1.1.2.2.2.2.2.2.2.1, .int .i64 a1.1.2.2.2.2.2.2.2.2])]
noncomputable def DA (p0 : List UInt8) : Option Bool := (if 2000 < (p0.length : Int) then (Dt).bind fun x1 => some x1 else (CS p0).bind fun x2 => (if x2.2.2 ≠ 0 then (if 0 < x2.2.1 then (Da x2.1 ((0, ([] : List (Int × Int × Int × Int × Int × Int)), ([] : List (Int × Int))), ([] : List (List Int)), ([] : List Int), 0, 0, 0, 0, 0, 0)).bind fun x4 => (if x4 = true then (Dt).bind fun x5 => some x5 else some false) else some false).bind fun x3 => some x3 else (if x2.2.1 = 0 then (Dk x2.1).bind fun x7 => (if x7 = p0 then (Dt).bind fun x8 => some x8 else some false) else some false).bind fun x6 => some x6))
theorem GA (Y : Nat → Prop) (w0 : World)  (p0 : List UInt8) (r : Bool) (H : DA p0 = some r) (hG : Gk [] w0) :
    Calls Tryd.prog 4 #[.string (bs p0)] w0 fun e w' => e = .returned (.bool r) ∧ Below w0.heap.size w0 w' := by
 refine enter Tryd.func4 Aa Tryd.ntmps4 Aa fun a F => ?_
 have W := Stw.start Y w0
 unfold DA at H
 refine Aj (Ac ?_)
 refine ls F W Aa (Ag F Aa).q fun a w F W => ?_
 refine Af (Ad (Aj (Aj (Ac ?_))))
 refine ls F W Aa (Ae F Aa).q fun a w F W => ?_
 refine ls F W Aa (Fp (l := p0) Fk Aa F Aa).q fun a w F W => ?_
 refine ls F W Aa (HV F Aa Aa).q fun a w F W => ?_
 refine Af (Ad ?_)
 refine AA F Aa (fun hb => ?_) fun hb => ?_
 ·
  have H := AZ (BQ hb) H
  rw [hb] at F
  clear hb
  refine Aj (Ac ?_)
  obtain ⟨x1, h1, H⟩ := An H
  refine ls F W Aa (Ba (v := Value.bool x1) F H7 Aa (fun w W => FB any w _ h1 (hG.go0 W))) fun a w F W => ?_
  refine ls F W Aa (Ag F Aa).q fun a w F W => ?_
  refine Af (Ad (A1 (Bx ?_)))
  have H := A2 H
  subst H
  refine Ck (.inl Aa) F W Aa (AL F Aa) ?_
  exact ⟨rfl, W.done⟩
 have H := AY (BR hb) H
 rw [hb] at F
 clear hb
 refine Ax (Ad (Aj (Ac ?_)))
 refine ls F W Aa (Ae F Aa).q fun a w F W => ?_
 obtain ⟨x2, h2, H⟩ := An H
 refine AE (Ml := []) (Zl := []) (M := []) (Z := []) (β := Value × Value × Value × Value) (rv := fun x => .tuple #[.agg #[.int .i64 x2.1.1.1, x.1, x.2.1, x.2.2.1, x.2.2.2, .int .i64 x2.1.2.2.2.1, .int .i64 x2.1.2.2.2.2.1, .int .i64 x2.1.2.2.2.2.2.1, .int .i64 x2.1.2.2.2.2.2.2.1, .int .i64 x2.1.2.2.2.2.2.2.2.1, .int .i64 x2.1.2.2.2.2.2.2.2.2], .int .i64 x2.2.1, .int .i64 x2.2.2]) (MM := fun x => []) (ZZ := fun x => [row x.1 41 Bu x2.1.1.2.1, row x.2.1 43 BC x2.1.1.2.2, row x.2.2.1 39 (Rp.slice (Rp.int .u64)) x2.1.2.1, row x.2.2.2 3 (Rp.int .i64) x2.1.2.2.1]) F W H9 Aa Aa (fun hL => FX _ w p0 _ h2 (hG.go0 W)) fun x a w F W => ?_
 obtain ⟨v1, v2, v3, v4⟩ := x
 have W : Stw ⟨Y, [], w0⟩ [] [row v1 41 Bu x2.1.1.2.1, row v2 43 BC x2.1.1.2.2, row v3 39 (Rp.slice (Rp.int .u64)) x2.1.2.1, row v4 3 (Rp.int .i64) x2.1.2.2.1] w := W
 refine ls F W Aa (Ae F Aa).q fun a w F W => ?_
 refine ls F W Aa (AP (v := Value.agg #[.int .i64 x2.1.1.1, v1, v2, v3, v4, .int .i64 x2.1.2.2.2.1, .int .i64 x2.1.2.2.2.2.1, .int .i64 x2.1.2.2.2.2.2.1, .int .i64 x2.1.2.2.2.2.2.2.1, .int .i64 x2.1.2.2.2.2.2.2.2.1, .int .i64 x2.1.2.2.2.2.2.2.2.2]) F Aa Aa).q fun a w F W => ?_
 refine ls F W Aa (AP (v := Value.int .i64 x2.2.1) F Aa Aa).q fun a w F W => ?_
 refine ls F W Aa (AP (v := Value.int .i64 x2.2.2) F Aa Aa).q fun a w F W => ?_
 refine Ep (cs := (FD)) F W Aa Nn Aa fun b1 a w F W => ?_
 refine Ch (vs := (Ma x2 v1 v2 v3 v4)) (M' := (KN b1 x2 v1 v2 v3 v4)) 0 F W Aa Aa Aa Gv Aa Aa Aa (AC Aa (AC (W.one (k := 0) Aa) (AC (W.one (k := 1) Aa) (AC (W.one (k := 2) Aa) (AC (W.one (k := 3) Aa) (AC Aa (AC Aa (AC Aa (AC Aa (AC Aa (AC Aa GY))))))))))) Aa fun w W => ?_
 iterate 2 refine ls F W Aa (Ag F Aa).q fun a w F W => ?_
 refine Af (Ad (Aj (Aj (Ac ?_))))
 refine ls F W Aa (Ae F Aa).q fun a w F W => ?_
 refine ls F W Aa (Fe F Aa Aa).q fun a w F W => ?_
 refine Af (Ad ?_)
 refine AA F Aa (fun hb => ?_) fun hb => ?_
 ·
  have H := AZ (BQ hb) H
  rw [hb] at F
  clear hb
  obtain ⟨o1, G1, K1⟩ := An H
  refine AX (fun a w => ∃ x3 : Bool, some (x3) = some o1 ∧ Fr 39 [] [(0, .string (bs p0)), (2, .bool x3), (3, .pointer (some ⟨b1, 0, none⟩)), (4, .int .i64 x2.2.1)] a ∧ Stw ⟨Y, [], w0⟩ (KN b1 x2 v1 v2 v3 v4) [row v1 41 Bu x2.1.1.2.1, row v2 43 BC x2.1.1.2.2, row v3 39 (Rp.slice (Rp.int .u64)) x2.1.2.1, row v4 3 (Rp.int .i64) x2.1.2.2.1] w) ?_ ?_
  ·
   have H := G1
   clear G1 K1
   refine Ac ?_
   refine ls F W Aa (Ae F Aa).q fun a w F W => ?_
   refine ls F W Aa (HV F Aa Aa).q fun a w F W => ?_
   refine ls F W Aa (Ae F Aa).q fun a w F W => ?_
   rcases Bool.eq_false_or_eq_true (decide (0 < x2.2.1)) with hb | hb
   ·
    have H := AZ (BQ hb) H
    rw [hb] at F
    clear hb
    refine Av F W (Ai F Aa Aa Aa Aa) Aa (Ao Aa) (AW (v := Value.agg #[.int .i64 x2.1.1.1, v1, v2, v3, v4, .int .i64 x2.1.2.2.2.1, .int .i64 x2.1.2.2.2.2.1, .int .i64 x2.1.2.2.2.2.2.1, .int .i64 x2.1.2.2.2.2.2.2.1, .int .i64 x2.1.2.2.2.2.2.2.2.1, .int .i64 x2.1.2.2.2.2.2.2.2.2]) 0 F Aa Aa Gv Aa).q fun a w F W => ?_
    refine Av F W (Ai F Aa Aa Aa Aa) Aa (Ao Aa) (EU (v := Value.agg #[.int .i64 0, .slice none 0 0, .slice none 0 0, .slice none 0 0, .slice none 0 0, .int .i64 0, .int .i64 0, .int .i64 0, .int .i64 0, .int .i64 0, .int .i64 0]) NE F Aa Aa Aa).q fun a w F W => ?_
    refine Ew (Ai F Aa Aa Aa Aa) ?_
    obtain ⟨x4, h3, H⟩ := An H
    refine ls F W Aa (Ba (v := Value.bool x4) F NV Aa (fun w W => Gm any w (v1) (v2) (v3) (v4) (Value.slice none 0 0) (Value.slice none 0 0) (Value.slice none 0 0) (Value.slice none 0 0) x2.1 ((0, ([] : List (Int × Int × Int × Int × Int × Int)), ([] : List (Int × Int))), ([] : List (List Int)), ([] : List Int), 0, 0, 0, 0, 0, 0) _ h3 (((AO 0 Aa) : D9 _ _ _ _ _ _) w W).nx (((AO 1 Aa) : D9 _ _ _ _ _ _) w W).nx (((AO 2 Aa) : D9 _ _ _ _ _ _) w W).nx (((AO 3 Aa) : D9 _ _ _ _ _ _) w W).nx Sl.nil Sl.nil Sl.nil Sl.nil)) fun a w F W => ?_
    refine ls F W Aa (Au F Aa Aa Aa).q fun a w F W => ?_
    refine ls F W Aa (Ae F Aa).q fun a w F W => ?_
    rcases Bool.eq_false_or_eq_true x4 with hb | hb
    ·
     have H := AZ hb H
     rw [hb] at F
     clear hb
     refine Ew (Ai F Aa Aa Aa Aa) ?_
     obtain ⟨x5, h4, H⟩ := An H
     refine ls F W Aa (Ba (v := Value.bool x5) F H7 Aa (fun w W => FB any w _ h4 (hG.go0 W))) fun a w F W => ?_
     refine ls F W Aa (Au F Aa Aa Aa).q fun a w F W => ?_
     refine ls F W Aa (Ag F Aa).q fun a w F W => ?_
     refine Af (Ad ?_)
     have W := W.frontZ (i := 3) Aa Aa
     have W := W.frontZ (i := 3) Aa Aa
     have W := W.frontZ (i := 3) Aa Aa
     have W := W.frontZ (i := 3) Aa Aa
     exact ⟨_, H, F.re ⟨rfl, Aa, Aa, Aa, trivial⟩, W⟩
    have H := AY (by rw [hb]; decide) H
    rw [hb] at F
    clear hb
    refine Cm F Aa Aa Aa Aa Aa Aa Aa fun a F => ?_
    refine ls F W Aa (Al F Aa Aa Aa).q fun a w F W => ?_
    refine ls F W Aa (Ag F Aa).q fun a w F W => ?_
    refine Af (Ad ?_)
    have W := W.frontZ (i := 3) Aa Aa
    have W := W.frontZ (i := 3) Aa Aa
    have W := W.frontZ (i := 3) Aa Aa
    have W := W.frontZ (i := 3) Aa Aa
    exact ⟨_, H, F.re ⟨rfl, Aa, Aa, Aa, trivial⟩, W⟩
   have H := AY (BR hb) H
   rw [hb] at F
   clear hb
   iterate 3 refine Cm F Aa Aa Aa Aa Aa Aa Aa fun a F => ?_
   refine ls F W Aa (Al F Aa Aa Aa).q fun a w F W => ?_
   refine ls F W Aa (Ae F Aa).q fun a w F W => ?_
   refine Cm F Aa Aa Aa Aa Aa Aa Aa fun a F => ?_
   refine ls F W Aa (Al F Aa Aa Aa).q fun a w F W => ?_
   refine ls F W Aa (Ag F Aa).q fun a w F W => ?_
   refine Af (Ad ?_)
   have W := W.frontZ (i := 3) Aa Aa
   have W := W.frontZ (i := 3) Aa Aa
   have W := W.frontZ (i := 3) Aa Aa
   have W := W.frontZ (i := 3) Aa Aa
   exact ⟨_, H, F.re ⟨rfl, Aa, Aa, Aa, trivial⟩, W⟩
  rintro a w ⟨x3, hj, F, W⟩
  have hj := A2 hj
  subst hj
  have H := K1
  clear G1 K1
  refine A1 (Bx ?_)
  have H := A2 H
  subst H
  refine Ck (.inl Aa) F W Aa (AL F Aa) ?_
  exact ⟨rfl, W.done⟩
 have H := AY (BR hb) H
 rw [hb] at F
 clear hb
 refine Ax (Ad ?_)
 obtain ⟨o2, G2, K2⟩ := An H
 refine AX (fun a w => ∃ x6 : Bool, some (x6) = some o2 ∧ Fr 39 [] [(2, .bool x6)] a ∧ Stw ⟨Y, [], w0⟩ (KN b1 x2 v1 v2 v3 v4) [row v1 41 Bu x2.1.1.2.1, row v2 43 BC x2.1.1.2.2, row v3 39 (Rp.slice (Rp.int .u64)) x2.1.2.1, row v4 3 (Rp.int .i64) x2.1.2.2.1] w) ?_ ?_
 ·
  have H := G2
  clear G2 K2
  refine Ac ?_
  refine ls F W Aa (Ae F Aa).q fun a w F W => ?_
  refine ls F W Aa (CC F Aa Aa).q fun a w F W => ?_
  refine ls F W Aa (Ae F Aa).q fun a w F W => ?_
  rcases Bool.eq_false_or_eq_true (decide (x2.2.1 = 0)) with hb | hb
  ·
   have H := AZ (BQ hb) H
   rw [hb] at F
   clear hb
   refine Av F W (Ai F Aa Aa Aa Aa) Aa (Ao Aa) (AW (v := Value.agg #[.int .i64 x2.1.1.1, v1, v2, v3, v4, .int .i64 x2.1.2.2.2.1, .int .i64 x2.1.2.2.2.2.1, .int .i64 x2.1.2.2.2.2.2.1, .int .i64 x2.1.2.2.2.2.2.2.1, .int .i64 x2.1.2.2.2.2.2.2.2.1, .int .i64 x2.1.2.2.2.2.2.2.2.2]) 0 F Aa Aa Gv Aa).q fun a w F W => ?_
   refine Ew (Ai F Aa Aa Aa Aa) ?_
   obtain ⟨x7, h5, H⟩ := An H
   refine ls F W Aa (Ba (v := Value.string (bs x7)) F H8 Aa (fun w W => F6 any w (v1) (v2) (v3) (v4) x2.1 _ h5 (((AO 0 Aa) : D9 _ _ _ _ _ _) w W).nx (((AO 1 Aa) : D9 _ _ _ _ _ _) w W).nx (((AO 2 Aa) : D9 _ _ _ _ _ _) w W).nx (((AO 3 Aa) : D9 _ _ _ _ _ _) w W).nx (hG.go0 W))) fun a w F W => ?_
   refine Av F W (Ai F Aa Aa Aa Aa) Aa (Ao Aa) (Ae F Aa).q fun a w F W => ?_
   refine Av F W (Ai F Aa Aa Aa Aa) Aa (Ao Aa) (JP (l := x7) (m := p0) F Aa Aa).q fun a w F W => ?_
   refine ls F W Aa (Au F Aa Aa Aa).q fun a w F W => ?_
   refine ls F W Aa (Ae F Aa).q fun a w F W => ?_
   rcases Bool.eq_false_or_eq_true (decide (x7 = p0)) with hb | hb
   ·
    have H := AZ (BQ hb) H
    rw [hb] at F
    clear hb
    refine Ew (Ai F Aa Aa Aa Aa) ?_
    obtain ⟨x8, h6, H⟩ := An H
    refine ls F W Aa (Ba (v := Value.bool x8) F H7 Aa (fun w W => FB any w _ h6 (hG.go0 W))) fun a w F W => ?_
    refine ls F W Aa (Au F Aa Aa Aa).q fun a w F W => ?_
    refine ls F W Aa (Ag F Aa).q fun a w F W => ?_
    refine Af (Ad ?_)
    have W := W.frontZ (i := 3) Aa Aa
    have W := W.frontZ (i := 3) Aa Aa
    have W := W.frontZ (i := 3) Aa Aa
    have W := W.frontZ (i := 3) Aa Aa
    exact ⟨_, H, F.re ⟨rfl, trivial⟩, W⟩
   have H := AY (BR hb) H
   rw [hb] at F
   clear hb
   refine Cm F Aa Aa Aa Aa Aa Aa Aa fun a F => ?_
   refine ls F W Aa (Al F Aa Aa Aa).q fun a w F W => ?_
   refine ls F W Aa (Ag F Aa).q fun a w F W => ?_
   refine Af (Ad ?_)
   have W := W.frontZ (i := 3) Aa Aa
   have W := W.frontZ (i := 3) Aa Aa
   have W := W.frontZ (i := 3) Aa Aa
   have W := W.frontZ (i := 3) Aa Aa
   exact ⟨_, H, F.re ⟨rfl, trivial⟩, W⟩
  have H := AY (BR hb) H
  rw [hb] at F
  clear hb
  iterate 4 refine Cm F Aa Aa Aa Aa Aa Aa Aa fun a F => ?_
  refine ls F W Aa (Al F Aa Aa Aa).q fun a w F W => ?_
  refine ls F W Aa (Ae F Aa).q fun a w F W => ?_
  refine Cm F Aa Aa Aa Aa Aa Aa Aa fun a F => ?_
  refine ls F W Aa (Al F Aa Aa Aa).q fun a w F W => ?_
  refine ls F W Aa (Ag F Aa).q fun a w F W => ?_
  refine Af (Ad ?_)
  have W := W.frontZ (i := 3) Aa Aa
  have W := W.frontZ (i := 3) Aa Aa
  have W := W.frontZ (i := 3) Aa Aa
  have W := W.frontZ (i := 3) Aa Aa
  exact ⟨_, H, F.re ⟨rfl, trivial⟩, W⟩
 rintro a w ⟨x6, hj, F, W⟩
 have hj := A2 hj
 subst hj
 have H := K2
 clear G2 K2
 refine A1 ?_
 have H := A2 H
 subst H
 refine Ck (.inl Aa) F W Aa (AL F Aa) ?_
 exact ⟨rfl, W.done⟩
end Go.Proofs.YthmkgdnnocemmaaDoor
