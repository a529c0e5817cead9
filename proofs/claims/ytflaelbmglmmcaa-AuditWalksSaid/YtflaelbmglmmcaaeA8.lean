/- The functions of layer 42, ET. Conditions: none. -/
import Derived.Test.YtflaelbmglmmcaaeA7
namespace Go.Proofs.Ytflaelbmglmmcaa
open Go Go.RowKit
set_option linter.unusedVariables false
set_option linter.unusedSimpArgs false
set_option maxRecDepth 20000
theorem PK : Has Try.prog 21 := ⟨fun args w => Am Try.func21 rfl (by decide) args w⟩
noncomputable def Cm (x5 : List Int × Int) : ((List (Int × Int × Int × Int × Int × Int)) × Int) → Option (((List (Int × Int × Int × Int × Int × Int)) × Int) ⊕ (List (Int × Int × Int × Int × Int × Int)))
  | (x7, x8) => (if x8 < (x5.1.length : Int) then (ix x5.1 x8).bind fun x9 => (FR x7 ([(2, x8, 0, x9, 0, 0)] : List (Int × Int × Int × Int × Int × Int))).bind fun x10 => some (.inl (x10, DH (x8 + 1))) else some (.inr x7))
noncomputable def D4 (p0 : Int × (List (Int × Int × Int × Int × Int × Int)) × (List (Int × Int))) (p1 : List (List Int)) (p2 : Int) (p3 : Int) (p4 : Int) (p5 : Int) : Option Bool := ((EO p0 p1).bind fun x2 => (if (!x2) = true then some true else (Fv p0 p1).bind fun x3 => (if (!x3) = true then some true else (if p2 < 0 then some true else (if (p0.2.2.length : Int) ≤ p2 then some true else (if p3 < 0 then some true else some (decide (p0.1 ≤ p3)))))))).bind fun x1 => (if x1 = true then (DP).bind fun x4 => some x4 else (Dn p0 p1 p3 p2).bind fun x5 => (AQ (Cm x5) (([(1, 0, 0, 0, p2, p2)] : List (Int × Int × Int × Int × Int × Int)), 0)).bind fun x6 => (FR x6 ([(3, (x5.1.length : Int), 0, 0, p2, 0)] : List (Int × Int × Int × Int × Int × Int))).bind fun x11 => ((BN p0 ([p1] : List (List (List Int))) x11).bind fun x13 => (if (x13.length : Int) ≠ 0 then some true else (Hc x11 0 (DH ((x11.length : Int) - 1))).bind fun x14 => (BN p0 ([p1] : List (List (List Int))) x14).bind fun x15 => some (decide ((x15.length : Int) ≠ 0)))).bind fun x12 => (if x12 = true then some false else (if p4 < 2 then some true else (if (x5.1.length : Int) < p4 then some true else (ix x11 p4).bind fun x17 => some (decide (x17.2.2.2.1 = p5)))).bind fun x16 => (if x16 = true then (DP).bind fun x18 => some x18 else (ix x11 p4).bind fun x19 => (BN p0 ([p1] : List (List (List Int))) (Ax x11 p4 (x19.1, x19.2.1, x19.2.2.1, p5, x19.2.2.2.2.1, x19.2.2.2.2.2))).bind fun x20 => (if 0 < (x20.length : Int) then (ix x20 (DH ((x20.length : Int) - 1))).bind fun x22 => (if x22.1 = 4 ∧ x22.2 = 0 then (DP).bind fun x23 => some x23 else some false) else some false).bind fun x21 => some x21)))
theorem Hg (Y : Nat → Prop) (w0 : World) (v1 : Value) (v2 : Value) (v3 : Value) (p0 : Int × (List (Int × Int × Int × Int × Int × Int)) × (List (Int × Int))) (p1 : List (List Int)) (p2 : Int) (p3 : Int) (p4 : Int) (p5 : Int) (r : Bool) (H : D4 p0 p1 p2 p3 p4 p5 = some r) (h_v1 : Sl w0 (NX []) CS v1 p0.2.1) (h_v2 : Sl w0 (NX []) Ec v2 p0.2.2) (s_v3 : Sl w0 Y (Rp.slice (Rp.int .i64)) v3 p1) :
    Calls Try.prog 4 #[.agg #[.int .i64 p0.1, v1, v2], v3, .int .i64 p2, .int .i64 p3, .int .i64 p4, .int .i64 p5] w0 fun e w' => e = .returned (.bool r) ∧ Below w0.heap.size w0 w' := by
 refine enter Try.func4 Aa Try.ntmps4 Aa fun a F => ?_
 have W := Stw.start Y w0
 obtain ⟨v4, h1, s_v3⟩ := s_v3.ex Dc
 have h_v3 := W.nx s_v3
 unfold D4 at H
 refine Ai (Ac ?_)
 refine B9 (cs := [.int .i64 p0.1, v1, v2]) F W Aa Aa Aa fun b1 a w F W => ?_
 refine ls F W Aa (Ah F Aa).q fun a w F W => ?_
 refine Ad (Ab (Ai ?_))
 obtain ⟨o1, G1, K1⟩ := Ao H
 refine AH (fun a w => ∃ x1 : Bool, some (x1) = some o1 ∧ Fr 148 [] [(1, v3), (2, .int .i64 p2), (3, .int .i64 p3), (4, .int .i64 p4), (5, .int .i64 p5), (6, .pointer (some ⟨b1, 0, none⟩)), (12, .bool false), (48, .bool x1)] a ∧ Stw ⟨Y, [], w0⟩ [(b1, [.int .i64 p0.1, v1, v2])] [] w) ?_ ?_
 ·
  have H := G1
  clear G1 K1
  refine Ac ?_
  refine ls F W Aa (Al (v := Value.agg #[.int .i64 p0.1, v1, v2]) 0 F Aa Aa G0 Aa).q fun a w F W => ?_
  refine ls F W Aa (Ae F Aa).q fun a w F W => ?_
  obtain ⟨x2, h2, H⟩ := Ao H
  refine ls F W Aa (BI (v := Value.bool x2) F PU Aa (fun w W => JT any w (v1) (v2) (v3) p0 p1 _ h2 (((Aj h_v1) : CZ _ _ _ _ _ _) w W).nx (((Aj h_v2) : CZ _ _ _ _ _ _) w W).nx (((Bx Dc h1 (Aj h_v3)) : CZ _ _ _ _ _ _) w W).nx)) fun a w F W => ?_
  refine ls F W Aa (EJ F Aa).q fun a w F W => ?_
  refine ls F W Aa (Ae F Aa).q fun a w F W => ?_
  rcases Bool.eq_false_or_eq_true (!x2) with hb | hb
  ·
   have H := AN hb H
   rw [hb] at F
   clear hb
   iterate 4 refine BW F Aa Aa Aa Aa Aa Aa Aa fun a F => ?_
   refine ls F W Aa (An F Aa Aa Aa).q fun a w F W => ?_
   refine ls F W Aa (Ae F Aa).q fun a w F W => ?_
   iterate 2 refine BW F Aa Aa Aa Aa Aa Aa Aa fun a F => ?_
   refine ls F W Aa (An F Aa Aa Aa).q fun a w F W => ?_
   refine ls F W Aa (Ae F Aa).q fun a w F W => ?_
   iterate 5 refine BW F Aa Aa Aa Aa Aa Aa Aa fun a F => ?_
   refine ls F W Aa (An F Aa Aa Aa).q fun a w F W => ?_
   refine ls F W Aa (Ae F Aa).q fun a w F W => ?_
   iterate 2 refine BW F Aa Aa Aa Aa Aa Aa Aa fun a F => ?_
   refine ls F W Aa (An F Aa Aa Aa).q fun a w F W => ?_
   refine ls F W Aa (Ae F Aa).q fun a w F W => ?_
   iterate 4 refine BW F Aa Aa Aa Aa Aa Aa Aa fun a F => ?_
   refine ls F W Aa (An F Aa Aa Aa).q fun a w F W => ?_
   refine Ad (Ab ?_)
   exact ⟨_, H, F.re ⟨rfl, Aa, Aa, Aa, Aa, Aa, Aa, Aa, trivial⟩, W⟩
  have H := AM (by rw [hb]; decide) H
  rw [hb] at F
  clear hb
  refine Au F W (Af F Aa Aa Aa Aa) Aa (Ak Aa) (Al (v := Value.agg #[.int .i64 p0.1, v1, v2]) 0 F Aa Aa G0 Aa).q fun a w F W => ?_
  refine Au F W (Af F Aa Aa Aa Aa) Aa (Ak Aa) (Ae F Aa).q fun a w F W => ?_
  refine J2 (Af F Aa Aa Aa Aa) ?_
  obtain ⟨x3, h3, H⟩ := Ao H
  refine ls F W Aa (BI (v := Value.bool x3) F PK Aa (fun w W => KL any w (v1) (v2) (v3) p0 p1 _ h3 (((Aj h_v1) : CZ _ _ _ _ _ _) w W).nx (((Aj h_v2) : CZ _ _ _ _ _ _) w W).nx (((Bx Dc h1 (Aj h_v3)) : CZ _ _ _ _ _ _) w W).nx)) fun a w F W => ?_
  refine Au F W (Af F Aa Aa Aa Aa) Aa (Ak Aa) (EJ F Aa).q fun a w F W => ?_
  refine ls F W Aa (As F Aa Aa Aa).q fun a w F W => ?_
  refine ls F W Aa (Ae F Aa).q fun a w F W => ?_
  rcases Bool.eq_false_or_eq_true (!x3) with hb | hb
  ·
   have H := AN hb H
   rw [hb] at F
   clear hb
   iterate 2 refine BW F Aa Aa Aa Aa Aa Aa Aa fun a F => ?_
   refine ls F W Aa (An F Aa Aa Aa).q fun a w F W => ?_
   refine ls F W Aa (Ae F Aa).q fun a w F W => ?_
   iterate 5 refine BW F Aa Aa Aa Aa Aa Aa Aa fun a F => ?_
   refine ls F W Aa (An F Aa Aa Aa).q fun a w F W => ?_
   refine ls F W Aa (Ae F Aa).q fun a w F W => ?_
   iterate 2 refine BW F Aa Aa Aa Aa Aa Aa Aa fun a F => ?_
   refine ls F W Aa (An F Aa Aa Aa).q fun a w F W => ?_
   refine ls F W Aa (Ae F Aa).q fun a w F W => ?_
   iterate 4 refine BW F Aa Aa Aa Aa Aa Aa Aa fun a F => ?_
   refine ls F W Aa (An F Aa Aa Aa).q fun a w F W => ?_
   refine Ad (Ab ?_)
   exact ⟨_, H, F.re ⟨rfl, Aa, Aa, Aa, Aa, Aa, Aa, Aa, trivial⟩, W⟩
  have H := AM (by rw [hb]; decide) H
  rw [hb] at F
  clear hb
  refine Au F W (Af F Aa Aa Aa Aa) Aa (Ak Aa) (Ae F Aa).q fun a w F W => ?_
  refine Au F W (Af F Aa Aa Aa Aa) Aa (Ak Aa) (Bq F Aa Aa).q fun a w F W => ?_
  refine ls F W Aa (As F Aa Aa Aa).q fun a w F W => ?_
  refine ls F W Aa (Ae F Aa).q fun a w F W => ?_
  rcases Bool.eq_false_or_eq_true (decide (p2 < 0)) with hb | hb
  ·
   have H := AN (Bf hb) H
   rw [hb] at F
   clear hb
   iterate 5 refine BW F Aa Aa Aa Aa Aa Aa Aa fun a F => ?_
   refine ls F W Aa (An F Aa Aa Aa).q fun a w F W => ?_
   refine ls F W Aa (Ae F Aa).q fun a w F W => ?_
   iterate 2 refine BW F Aa Aa Aa Aa Aa Aa Aa fun a F => ?_
   refine ls F W Aa (An F Aa Aa Aa).q fun a w F W => ?_
   refine ls F W Aa (Ae F Aa).q fun a w F W => ?_
   iterate 4 refine BW F Aa Aa Aa Aa Aa Aa Aa fun a F => ?_
   refine ls F W Aa (An F Aa Aa Aa).q fun a w F W => ?_
   refine Ad (Ab ?_)
   exact ⟨_, H, F.re ⟨rfl, Aa, Aa, Aa, Aa, Aa, Aa, Aa, trivial⟩, W⟩
  have H := AM (Bg hb) H
  rw [hb] at F
  clear hb
  refine Au F W (Af F Aa Aa Aa Aa) Aa (Ak Aa) (Ae F Aa).q fun a w F W => ?_
  refine Au F W (Af F Aa Aa Aa Aa) Aa (Ak Aa) (Ag CJ Aa Aa Aa FW F Aa 2 Aa).q fun a w F W => ?_
  refine Au F W (Af F Aa Aa Aa Aa) Aa (Ak Aa) (Al (v := v2) 0 F Aa Aa FW Aa).q fun a w F W => ?_
  refine Au F W (Af F Aa Aa Aa Aa) Aa (Ak Aa) (A7 (r := Ec) (l := p0.2.2) GW Aa F Aa (Aj h_v2)).q fun a w F W => ?_
  refine Au F W (Af F Aa Aa Aa Aa) Aa (Ak Aa) (DC F Aa Aa).q fun a w F W => ?_
  refine ls F W Aa (As F Aa Aa Aa).q fun a w F W => ?_
  refine ls F W Aa (Ae F Aa).q fun a w F W => ?_
  rcases Bool.eq_false_or_eq_true (decide ((p0.2.2.length : Int) ≤ p2)) with hb | hb
  ·
   have H := AN (Bf hb) H
   rw [hb] at F
   clear hb
   iterate 2 refine BW F Aa Aa Aa Aa Aa Aa Aa fun a F => ?_
   refine ls F W Aa (An F Aa Aa Aa).q fun a w F W => ?_
   refine ls F W Aa (Ae F Aa).q fun a w F W => ?_
   iterate 4 refine BW F Aa Aa Aa Aa Aa Aa Aa fun a F => ?_
   refine ls F W Aa (An F Aa Aa Aa).q fun a w F W => ?_
   refine Ad (Ab ?_)
   exact ⟨_, H, F.re ⟨rfl, Aa, Aa, Aa, Aa, Aa, Aa, Aa, trivial⟩, W⟩
  have H := AM (Bg hb) H
  rw [hb] at F
  clear hb
  refine Au F W (Af F Aa Aa Aa Aa) Aa (Ak Aa) (Ae F Aa).q fun a w F W => ?_
  refine Au F W (Af F Aa Aa Aa Aa) Aa (Ak Aa) (Bq F Aa Aa).q fun a w F W => ?_
  refine ls F W Aa (As F Aa Aa Aa).q fun a w F W => ?_
  refine ls F W Aa (Ae F Aa).q fun a w F W => ?_
  rcases Bool.eq_false_or_eq_true (decide (p3 < 0)) with hb | hb
  ·
   have H := AN (Bf hb) H
   rw [hb] at F
   clear hb
   iterate 4 refine BW F Aa Aa Aa Aa Aa Aa Aa fun a F => ?_
   refine ls F W Aa (An F Aa Aa Aa).q fun a w F W => ?_
   refine Ad (Ab ?_)
   exact ⟨_, H, F.re ⟨rfl, Aa, Aa, Aa, Aa, Aa, Aa, Aa, trivial⟩, W⟩
  have H := AM (Bg hb) H
  rw [hb] at F
  clear hb
  refine Au F W (Af F Aa Aa Aa Aa) Aa (Ak Aa) (Ae F Aa).q fun a w F W => ?_
  refine Au F W (Af F Aa Aa Aa Aa) Aa (Ak Aa) (Ag CJ Aa Aa Aa T3 F Aa 0 Aa).q fun a w F W => ?_
  refine Au F W (Af F Aa Aa Aa Aa) Aa (Ak Aa) (Al (v := Value.int .i64 p0.1) 0 F Aa Aa T3 Aa).q fun a w F W => ?_
  refine Au F W (Af F Aa Aa Aa Aa) Aa (Ak Aa) (DC F Aa Aa).q fun a w F W => ?_
  refine ls F W Aa (As F Aa Aa Aa).q fun a w F W => ?_
  refine Ad (Ab ?_)
  exact ⟨_, H, F.re ⟨rfl, Aa, Aa, Aa, Aa, Aa, Aa, Aa, trivial⟩, W⟩
 rintro a w ⟨x1, hj, F, W⟩
 have hj := AW hj
 subst hj
 have H := K1
 clear G1 K1
 refine Ay F Aa (fun hb => ?_) fun hb => ?_
 ·
  have H := AN hb H
  rw [hb] at F
  clear hb
  refine Ai (Ac ?_)
  obtain ⟨x4, h4, H⟩ := Ao H
  refine ls F W Aa (BI (v := Value.bool x4) F H8 Aa (fun w W => F4 any w _ h4)) fun a w F W => ?_
  refine ls F W Aa (Ah F Aa).q fun a w F W => ?_
  refine Ad (Ab (AA (AD ?_)))
  have H := AW H
  subst H
  refine A8 (.inl Aa) F W Aa (Ap F Aa) ?_
  exact ⟨rfl, W.done⟩
 have H := AM (by rw [hb]; decide) H
 rw [hb] at F
 clear hb
 refine Aq (Ab (Ai (Ac ?_)))
 refine ls F W Aa (Al (v := Value.agg #[.int .i64 p0.1, v1, v2]) 0 F Aa Aa G0 Aa).q fun a w F W => ?_
 iterate 3 refine ls F W Aa (Ae F Aa).q fun a w F W => ?_
 obtain ⟨x5, h5, H⟩ := Ao H
 refine Cf (Ml := []) (Zl := []) (M := [(b1, [.int .i64 p0.1, v1, v2])]) (Z := []) (β := Value) (rv := fun x => .tuple #[x, .int .i64 x5.2]) (MM := fun x => []) (ZZ := fun x => [row x 3 (Rp.int .i64) x5.1]) F W Pf Aa Aa (fun hL => Ip _ w (v1) (v2) (v3) p0 p1 p3 p2 _ h5 ((Aj h_v1) w W).nx ((Aj h_v2) w W).nx ((Bx Dc h1 (Aj h_v3)) w W).nx) fun x a w F W => ?_
 obtain ⟨v5, rfl⟩ : ∃ y, y = x := ⟨x, rfl⟩
 have W : Stw ⟨Y, [], w0⟩ [(b1, [.int .i64 p0.1, v1, v2])] [row v5 3 (Rp.int .i64) x5.1] w := W
 refine ls F W Aa (Ae F Aa).q fun a w F W => ?_
 refine ls F W Aa (AZ (v := v5) F Aa Aa).q fun a w F W => ?_
 refine ls F W Aa (AZ (v := Value.int .i64 x5.2) F Aa Aa).q fun a w F W => ?_
 iterate 2 refine ls F W Aa (Ah F Aa).q fun a w F W => ?_
 refine Ad (Ab (Ai (Ac ?_)))
 iterate 2 refine ls F W Aa (Ae F Aa).q fun a w F W => ?_
 refine ls F W Aa (BA (v := Value.agg #[.int .i64 1, .int .i64 0, .int .i64 0, .int .i64 0, .int .i64 p2, .int .i64 p2]) NH F Aa Aa Aa).q fun a w F W => ?_
 refine C1 (z := Value.agg #[.int .i64 0, .int .i64 0, .int .i64 0, .int .i64 0, .int .i64 0, .int .i64 0]) (cs := [.int .i64 1, .int .i64 0, .int .i64 0, .int .i64 0, .int .i64 p2, .int .i64 p2]) DB ([(1, 0, 0, 0, p2, p2)] : List (Int × Int × Int × Int × Int × Int)) F W Aa KY NC Aa Aa Aa Aa Aa Aa (MG.repL _ _ ([(1, 0, 0, 0, p2, p2)] : List (Int × Int × Int × Int × Int × Int))) fun v6 a w F W => ?_
 refine ls F W Aa (Ah F Aa).q fun a w F W => ?_
 refine Ad (Ab ?_)
 obtain ⟨o2, G2, K2⟩ := Ao H
 refine AH (fun a w => ∃ x6 : List (Int × Int × Int × Int × Int × Int), ∃ v7 : Value, some (x6) = some o2 ∧ Fr 148 [] [(1, v3), (2, .int .i64 p2), (4, .int .i64 p4), (5, .int .i64 p5), (6, .pointer (some ⟨b1, 0, none⟩)), (12, .bool false), (13, v5), (15, v7)] a ∧ Stw ⟨Y, [], w0⟩ [(b1, [.int .i64 p0.1, v1, v2])] [row v5 3 (Rp.int .i64) x5.1, row v7 48 DB x6] w) ?_ ?_
 ·
  have H := G2
  clear G2 K2
  refine Ai (Ac ?_)
  refine ls F W Aa (Ah F Aa).q fun a w F W => ?_
  refine Ad (Ab (Aw ?_))
  have W := W.frontZ (i := 1) Aa Aa
  refine Bv H (fun s a w => ∃ v8 : Value, Fr 148 [] [(1, v3), (2, .int .i64 p2), (4, .int .i64 p4), (5, .int .i64 p5), (6, .pointer (some ⟨b1, 0, none⟩)), (12, .bool false), (13, v5), (15, v8), (16, .int .i64 s.2)] a ∧ Stw ⟨Y, [], w0⟩ [(b1, [.int .i64 p0.1, v1, v2])] [row v5 3 (Rp.int .i64) x5.1, row v8 48 DB s.1] w) ⟨(v6), F.re ⟨rfl, Aa, Aa, Aa, Aa, Aa, Aa, Aa, Aa, trivial⟩, W⟩ fun s o a w H L3 hR => ?_
  obtain ⟨x7, x8⟩ := s
  obtain ⟨v8, F, W⟩ := hR
  have F : Fr 148 [] [(1, v3), (2, .int .i64 p2), (4, .int .i64 p4), (5, .int .i64 p5), (6, .pointer (some ⟨b1, 0, none⟩)), (12, .bool false), (13, v5), (15, v8), (16, .int .i64 x8)] a := F
  have W : Stw ⟨Y, [], w0⟩ [(b1, [.int .i64 p0.1, v1, v2])] [row v5 3 (Rp.int .i64) x5.1, row v8 48 DB x7] w := W
  rw [Cm] at H
  refine Ai (Ai (Ac ?_))
  iterate 2 refine ls F W Aa (Ae F Aa).q fun a w F W => ?_
  refine ls F W Aa (A7 (r := (Rp.int .i64)) (l := x5.1) Fq Aa F Aa (AP 0 Aa)).q fun a w F W => ?_
  refine ls F W Aa (Bq F Aa Aa).q fun a w F W => ?_
  refine Ad (Ab ?_)
  refine Ay F Aa (fun hb => ?_) fun hb => ?_
  ·
   have H := AN (Bf hb) H
   rw [hb] at F
   clear hb
   refine Aq (Ab (Ai (Aw (Ac ?_))))
   iterate 4 refine ls F W Aa (Ae F Aa).q fun a w F W => ?_
   obtain ⟨x9, h6, H⟩ := Ao H
   refine ls F W Aa (AJ (r := (Rp.int .i64)) HV F Aa Aa (AP 0 Aa) h6).q fun a w F W => ?_
   refine ls F W Aa (Az (y := Value.int .i64 x9) (j := 0) (i := x8) F Aa Aa (AP 0 Aa) h6 Fl.int.to T3 Aa).q fun a w F W => ?_
   refine ls F W Aa (BA (v := Value.agg #[.int .i64 2, .int .i64 x8, .int .i64 0, .int .i64 x9, .int .i64 0, .int .i64 0]) NH F Aa Aa Aa).q fun a w F W => ?_
   refine C1 (z := Value.agg #[.int .i64 0, .int .i64 0, .int .i64 0, .int .i64 0, .int .i64 0, .int .i64 0]) (cs := [.int .i64 2, .int .i64 x8, .int .i64 0, .int .i64 x9, .int .i64 0, .int .i64 0]) DB ([(2, x8, 0, x9, 0, 0)] : List (Int × Int × Int × Int × Int × Int)) F W Aa KY NC Aa Aa Aa Aa Aa Aa (MG.repL _ _ ([(2, x8, 0, x9, 0, 0)] : List (Int × Int × Int × Int × Int × Int))) fun v9 a w F W => ?_
   obtain ⟨x10, h7, H⟩ := Ao H
   refine Cz (r := DB) (i := 2) F W Aa KY Aa Aa Aa Aa (C7 W 0 Aa) h7 Aa fun v10 a w F W => ?_
   have W : Stw ⟨Y, [], w0⟩ [(b1, [.int .i64 p0.1, v1, v2])] [row v10 48 DB x10, row v9 48 DB ([(2, x8, 0, x9, 0, 0)] : List (Int × Int × Int × Int × Int × Int)), row v5 3 (Rp.int .i64) x5.1] w := W
   refine ls F W Aa (Ah F Aa).q fun a w F W => ?_
   refine Ad (AK (Ab (Ac ?_)))
   refine ls F W Aa (Ae F Aa).q fun a w F W => ?_
   refine ls F W Aa (Cq F Aa Aa Aa).q fun a w F W => ?_
   refine ls F W Aa (Ah F Aa).q fun a w F W => ?_
   refine Ad (Ab ?_)
   have W := W.frontZ (i := 2) Aa Aa
   have W := W.sub (M' := [(b1, [.int .i64 p0.1, v1, v2])]) (Z' := [row v5 3 (Rp.int .i64) x5.1, row v10 48 DB x10]) (List.Sublist.refl _) (List.Sublist.cons_cons _ (List.Sublist.cons_cons _ (List.nil_sublist _)))
   exact ⟨_, H, (v10), F.re ⟨rfl, Aa, Aa, Aa, Aa, Aa, Aa, Aa, Aa, trivial⟩, W⟩
  have H := AM (Bg hb) H
  rw [hb] at F
  clear hb
  refine Bk ?_
  iterate 2 refine BJ ?_
  refine Bl (Ab ?_)
  have W := W.frontZ (i := 1) Aa Aa
  have W := W.frontZ (i := 1) Aa Aa
  have H := L3 _ H
  exact ⟨_, (v8), H, F.re ⟨rfl, Aa, Aa, Aa, Aa, Aa, Aa, Aa, trivial⟩, W⟩
 rintro a w ⟨x6, v7, hj, F, W⟩
 have hj := AW hj
 subst hj
 have H := K2
 clear G2 K2
 refine Ai (Ac ?_)
 iterate 2 refine ls F W Aa (Ae F Aa).q fun a w F W => ?_
 refine ls F W Aa (A7 (r := (Rp.int .i64)) (l := x5.1) Fq Aa F Aa (AP 0 Aa)).q fun a w F W => ?_
 refine ls F W Aa (Ae F Aa).q fun a w F W => ?_
 refine ls F W Aa (BA (v := Value.agg #[.int .i64 3, .int .i64 (x5.1.length : Int), .int .i64 0, .int .i64 0, .int .i64 p2, .int .i64 0]) NH F Aa Aa Aa).q fun a w F W => ?_
 refine C1 (z := Value.agg #[.int .i64 0, .int .i64 0, .int .i64 0, .int .i64 0, .int .i64 0, .int .i64 0]) (cs := [.int .i64 3, .int .i64 (x5.1.length : Int), .int .i64 0, .int .i64 0, .int .i64 p2, .int .i64 0]) DB ([(3, (x5.1.length : Int), 0, 0, p2, 0)] : List (Int × Int × Int × Int × Int × Int)) F W Aa KY NC Aa Aa Aa Aa Aa Aa (MG.repL _ _ ([(3, (x5.1.length : Int), 0, 0, p2, 0)] : List (Int × Int × Int × Int × Int × Int))) fun v11 a w F W => ?_
 obtain ⟨x11, h8, H⟩ := Ao H
 refine Cz (r := DB) (i := 2) F W Aa KY Aa Aa Aa Aa (C7 W 0 Aa) h8 Aa fun v12 a w F W => ?_
 have W : Stw ⟨Y, [], w0⟩ [(b1, [.int .i64 p0.1, v1, v2])] [row v12 48 DB x11, row v11 48 DB ([(3, (x5.1.length : Int), 0, 0, p2, 0)] : List (Int × Int × Int × Int × Int × Int)), row v5 3 (Rp.int .i64) x5.1] w := W
 refine ls F W Aa (Ah F Aa).q fun a w F W => ?_
 refine Ad (Ab (Ai ?_))
 obtain ⟨o4, G4, K4⟩ := Ao H
 refine AH (fun a w => ∃ x12 : Bool, some (x12) = some o4 ∧ Fr 148 [] [(1, v3), (4, .int .i64 p4), (5, .int .i64 p5), (6, .pointer (some ⟨b1, 0, none⟩)), (12, .bool false), (13, v5), (15, v12), (103, .bool x12)] a ∧ Stw ⟨Y, [], w0⟩ [(b1, [.int .i64 p0.1, v1, v2])] [row v5 3 (Rp.int .i64) x5.1, row v12 48 DB x11] w) ?_ ?_
 ·
  have H := G4
  clear G4 K4
  refine Gc [(true, 0), (true, 1), (true, 3), (false, 2), (false, 4), (true, 5), (true, 6), (true, 7), (true, 8), (true, 9), (true, 11), (true, 12), (true, 13), (true, 14), (true, 15), (false, 10), (false, 16), (true, 17), (true, 18), (true, 19)] (CN ⟨Y, [], w0⟩ [(some 4, b1, [.int .i64 p0.1, v1, v2])] []) (fun ch a d v w h => by cases d <;> exact h) MO (by kernel_rfl) W (fun w W => ⟨_, _, W, (all_cons (fun _ => (.head _)) AX), AX⟩) fun w W => ?_
  refine Cd (R := [4]) F Aa Aa (yC fun M Z hN hZ => CK (cs := [.int .i64 p0.1, v1, v2]) (v := Value.agg #[.int .i64 p0.1, v1, v2]) F Aa (hN ((some 4), b1, [.int .i64 p0.1, v1, v2]) (.head _) Aa) G0 Aa) (by kernel_rfl) Aa fun a F => ?_
  iterate 2 refine Cd (R := []) F Aa Aa (yC fun M Z hN hZ => Ae F Aa) Aa Aa fun a F => ?_
  refine FN Aa ?_
  refine C1 (z := Value.slice none 0 0) (cs := [v3]) (Rp.slice (Rp.slice (Rp.int .i64))) ([p1] : List (List (List Int))) F W Aa Ol OM Aa Aa Aa (Ds Aa (CG h_v3.one) Aa Es) Aa Aa ⟨[v3], _, Aa, ⟨_, Aa, (Sl.hide Dc h1 (W.old s_v3))⟩, Aa⟩ fun v13 a w F W => ?_
  refine Ct (N2 := []) (NZ2 := []) (N3 := [(some 4, b1, [.int .i64 p0.1, v1, v2])]) (NZ3 := []) W Aa Aa (all_cons (fun _ => (.head _)) AX) AX ?_
  refine FN Aa ?_
  obtain ⟨x13, h9, H⟩ := Ao H
  refine Cf (Ml := []) (Zl := []) (M := [(b1, [.int .i64 p0.1, v1, v2])]) (Z := [row v13 52 (Rp.slice (Rp.slice (Rp.int .i64))) ([p1] : List (List (List Int))), row v12 48 DB x11, row v11 48 DB ([(3, (x5.1.length : Int), 0, 0, p2, 0)] : List (Int × Int × Int × Int × Int × Int)), row v5 3 (Rp.int .i64) x5.1]) (β := Value) (rv := fun x => x) (MM := fun x => []) (ZZ := fun x => [row x 45 Dv x13]) F W OK Aa Aa (fun hL => DD _ w (v1) (v2) (v13) (v12) p0 ([p1] : List (List (List Int))) x11 _ h9 ((Aj h_v1) w W).nx ((Aj h_v2) w W).nx ((AP 0 Aa) w W).nx ((AP 1 Aa) w W).nx) fun x a w F W => ?_
  obtain ⟨v14, rfl⟩ : ∃ y, y = x := ⟨x, rfl⟩
  have W : Stw ⟨Y, [], w0⟩ [(b1, [.int .i64 p0.1, v1, v2])] [row v14 45 Dv x13, row v13 52 (Rp.slice (Rp.slice (Rp.int .i64))) ([p1] : List (List (List Int))), row v12 48 DB x11, row v11 48 DB ([(3, (x5.1.length : Int), 0, 0, p2, 0)] : List (Int × Int × Int × Int × Int × Int)), row v5 3 (Rp.int .i64) x5.1] w := W
  refine Ct (N2 := [(some 16, b1, [.int .i64 p0.1, v1, v2])]) (NZ2 := [(some 10, row v14 45 Dv x13), (some 16, row v12 48 DB x11)]) (N3 := [(some 4, b1, [.int .i64 p0.1, v1, v2]), (some 16, b1, [.int .i64 p0.1, v1, v2])]) (NZ3 := [(some 10, row v14 45 Dv x13), (some 16, row v12 48 DB x11)]) W Aa Aa (all_cons (fun h => A6 (by kernel_rfl) h) (all_cons (fun _ => (.head _)) AX)) (all_cons (fun _ => (.head _)) (all_cons (fun _ => (.tail _ (.tail _ (.head _)))) AX)) ?_
  refine Cd (R := [10, 7, 6]) F Aa Aa (yC fun M Z hN hZ => A7 (r := Dv) (l := x13) Kw Aa F Aa (G9 (hZ ((some 10), row v14 45 Dv x13) (.head _) Aa))) (by kernel_rfl) Aa fun a F => ?_
  refine Cd (R := []) F Aa Aa (yC fun M Z hN hZ => Fd F Aa Aa) Aa Aa fun a F => ?_
  refine Cd (R := []) F Aa Aa (yC fun M Z hN hZ => Ae F Aa) Aa Aa fun a F => ?_
  rcases Bool.eq_false_or_eq_true (decide ((x13.length : Int) ≠ 0)) with hb | hb
  ·
   have H := AN (Bf hb) H
   rw [hb] at F
   clear hb
   iterate 7 refine Lc F Aa (EW F Aa Aa Aa Aa Aa) Aa Aa Aa fun a F => ?_
   refine FN Aa ?_
   refine BW F Aa Aa Aa Aa Aa Aa Aa fun a F => ?_
   refine Ct (N2 := []) (NZ2 := []) (N3 := [(some 4, b1, [.int .i64 p0.1, v1, v2]), (some 16, b1, [.int .i64 p0.1, v1, v2])]) (NZ3 := [(some 10, row v14 45 Dv x13), (some 16, row v12 48 DB x11)]) W Aa Aa (all_cons (fun h => A6 (by kernel_rfl) h) (all_cons (fun _ => (.head _)) AX)) (all_cons (fun h => A6 (by kernel_rfl) h) (all_cons (fun _ => (.tail _ (.tail _ (.head _)))) AX)) ?_
   refine FN Aa ?_
   refine BW F Aa Aa Aa Aa Aa Aa Aa fun a F => ?_
   refine Ct (N2 := []) (NZ2 := []) (N3 := [(some 4, b1, [.int .i64 p0.1, v1, v2]), (some 16, b1, [.int .i64 p0.1, v1, v2])]) (NZ3 := [(some 10, row v14 45 Dv x13), (some 16, row v12 48 DB x11)]) W Aa Aa (all_cons (fun h => A6 (by kernel_rfl) h) (all_cons (fun h => A6 (by kernel_rfl) h) AX)) (all_cons (fun h => A6 (by kernel_rfl) h) (all_cons (fun h => A6 (by kernel_rfl) h) AX)) ?_
   iterate 2 refine Lc F Aa (EW F Aa Aa Aa Aa Aa) Aa Aa Aa fun a F => ?_
   refine Cd (R := []) F Aa Aa (yC fun M Z hN hZ => An F Aa Aa Aa) Aa Aa fun a F => ?_
   refine Hh (Ab ?_)
   have W := W.frontZ (i := 2) Aa Aa
   have W := W.frontZ (i := 4) Aa Aa
   have W := W.sub (M' := [(b1, [.int .i64 p0.1, v1, v2])]) (Z' := [row v5 3 (Rp.int .i64) x5.1, row v12 48 DB x11]) (List.Sublist.refl _) (List.Sublist.cons_cons _ (List.Sublist.cons_cons _ (List.nil_sublist _)))
   exact ⟨_, H, F.re ⟨rfl, Aa, Aa, Aa, Aa, Aa, Aa, Aa, trivial⟩, W⟩
  have H := AM (Bg hb) H
  rw [hb] at F
  clear hb
  refine Kr (R := [16]) F Aa (Af F Aa Aa Aa Aa) Aa Aa (yC fun M Z hN hZ => CK (cs := [.int .i64 p0.1, v1, v2]) (v := Value.agg #[.int .i64 p0.1, v1, v2]) F Aa (hN ((some 16), b1, [.int .i64 p0.1, v1, v2]) (.tail _ (.head _)) Aa) G0 Aa) (by kernel_rfl) Aa fun a F => ?_
  iterate 3 refine Kr (R := []) F Aa (Af F Aa Aa Aa Aa) Aa Aa (yC fun M Z hN hZ => Ae F Aa) Aa Aa fun a F => ?_
  refine Kr (R := [16, 15, 14]) F Aa (Af F Aa Aa Aa Aa) Aa Aa (yC fun M Z hN hZ => A7 (r := DB) (l := x11) ME Aa F Aa (G9 (hZ ((some 16), row v12 48 DB x11) (.tail _ (.head _)) Aa))) (by kernel_rfl) Aa fun a F => ?_
  refine Kr (R := []) F Aa (Af F Aa Aa Aa Aa) Aa Aa (yC fun M Z hN hZ => HE F Aa Aa Aa) Aa Aa fun a F => ?_
  obtain ⟨x14, h10, H⟩ := Ao H
  refine Kr (R := [16]) F Aa (Af F Aa Aa Aa Aa) Aa Aa (yC fun M Z hN hZ => Lb (r := DB) KY F Aa Aa Aa (G9 (hZ ((some 16), row v12 48 DB x11) (.tail _ (.head _)) Aa)) h10) (by kernel_rfl) Aa fun a F => ?_
  refine FN Aa ?_
  refine J2 (Af F Aa Aa Aa Aa) ?_
  refine C1 (z := Value.slice none 0 0) (cs := [v3]) (Rp.slice (Rp.slice (Rp.int .i64))) ([p1] : List (List (List Int))) F W Aa Ol OM Aa Aa Aa (Ds Aa (CG h_v3.one) Aa Es) Aa Aa ⟨[v3], _, Aa, ⟨_, Aa, (Sl.hide Dc h1 (W.old s_v3))⟩, Aa⟩ fun v15 a w F W => ?_
  refine Ct (N2 := []) (NZ2 := []) (N3 := [(some 4, b1, [.int .i64 p0.1, v1, v2]), (some 16, b1, [.int .i64 p0.1, v1, v2])]) (NZ3 := [(some 10, row v14 45 Dv x13), (some 16, row v12 48 DB x11)]) W Aa Aa (all_cons (fun h => A6 (by kernel_rfl) h) (all_cons (fun _ => (.head _)) AX)) (all_cons (fun h => A6 (by kernel_rfl) h) (all_cons (fun _ => (.tail _ (.tail _ (.tail _ (.head _))))) AX)) ?_
  refine FN Aa ?_
  refine J2 (Af F Aa Aa Aa Aa) ?_
  obtain ⟨x15, h11, H⟩ := Ao H
  refine Cf (Ml := []) (Zl := []) (M := [(b1, [.int .i64 p0.1, v1, v2])]) (Z := [row v15 52 (Rp.slice (Rp.slice (Rp.int .i64))) ([p1] : List (List (List Int))), row v14 45 Dv x13, row v13 52 (Rp.slice (Rp.slice (Rp.int .i64))) ([p1] : List (List (List Int))), row v12 48 DB x11, row v11 48 DB ([(3, (x5.1.length : Int), 0, 0, p2, 0)] : List (Int × Int × Int × Int × Int × Int)), row v5 3 (Rp.int .i64) x5.1]) (β := Value) (rv := fun x => x) (MM := fun x => []) (ZZ := fun x => [row x 45 Dv x15]) F W OK Aa Aa (fun hL => DD _ w (v1) (v2) (v15) ((Do v12 (0 : Int) (DH ((x11.length : Int) - 1)) 6)) p0 ([p1] : List (List (List Int))) x14 _ h11 ((Aj h_v1) w W).nx ((Aj h_v2) w W).nx ((AP 0 Aa) w W).nx ((Nu (AP 3 Aa) h10) w W).nx) fun x a w F W => ?_
  obtain ⟨v16, rfl⟩ : ∃ y, y = x := ⟨x, rfl⟩
  have W : Stw ⟨Y, [], w0⟩ [(b1, [.int .i64 p0.1, v1, v2])] [row v16 45 Dv x15, row v15 52 (Rp.slice (Rp.slice (Rp.int .i64))) ([p1] : List (List (List Int))), row v14 45 Dv x13, row v13 52 (Rp.slice (Rp.slice (Rp.int .i64))) ([p1] : List (List (List Int))), row v12 48 DB x11, row v11 48 DB ([(3, (x5.1.length : Int), 0, 0, p2, 0)] : List (Int × Int × Int × Int × Int × Int)), row v5 3 (Rp.int .i64) x5.1] w := W
  refine Ct (N2 := []) (NZ2 := [(none, row v16 45 Dv x15)]) (N3 := [(some 4, b1, [.int .i64 p0.1, v1, v2]), (some 16, b1, [.int .i64 p0.1, v1, v2])]) (NZ3 := [(some 10, row v14 45 Dv x13), (some 16, row v12 48 DB x11), (none, row v16 45 Dv x15)]) W Aa Aa (all_cons (fun h => A6 (by kernel_rfl) h) (all_cons (fun h => A6 (by kernel_rfl) h) AX)) (all_cons (fun h => A6 (by kernel_rfl) h) (all_cons (fun h => A6 (by kernel_rfl) h) (all_cons (fun _ => (.head _)) AX))) ?_
  refine Kr (R := []) F Aa (Af F Aa Aa Aa Aa) Aa Aa (yC fun M Z hN hZ => A7 (r := Dv) (l := x15) Kw Aa F Aa (G9 (hZ (none, row v16 45 Dv x15) (.tail _ (.tail _ (.head _))) Aa))) Aa Aa fun a F => ?_
  refine Kr (R := []) F Aa (Af F Aa Aa Aa Aa) Aa Aa (yC fun M Z hN hZ => Fd F Aa Aa) Aa Aa fun a F => ?_
  refine Cd (R := []) F Aa Aa (yC fun M Z hN hZ => As F Aa Aa Aa) Aa Aa fun a F => ?_
  refine Hh (Ab ?_)
  have W := W.frontZ (i := 4) Aa Aa
  have W := W.frontZ (i := 6) Aa Aa
  have W := W.sub (M' := [(b1, [.int .i64 p0.1, v1, v2])]) (Z' := [row v5 3 (Rp.int .i64) x5.1, row v12 48 DB x11]) (List.Sublist.refl _) (List.Sublist.cons_cons _ (List.Sublist.cons_cons _ (List.nil_sublist _)))
  exact ⟨_, H, F.re ⟨rfl, Aa, Aa, Aa, Aa, Aa, Aa, Aa, trivial⟩, W⟩
 rintro a w ⟨x12, hj, F, W⟩
 have hj := AW hj
 subst hj
 have H := K4
 clear G4 K4
 refine Ay F Aa (fun hb => ?_) fun hb => ?_
 ·
  have H := AN hb H
  rw [hb] at F
  clear hb
  refine Ai (Ac ?_)
  refine ls F W Aa (Ah F Aa).q fun a w F W => ?_
  refine Ad (Ab (AA (AD ?_)))
  have H := AW H
  subst H
  refine A8 (.inl Aa) F W Aa (Ap F Aa) ?_
  exact ⟨rfl, W.done⟩
 have H := AM (by rw [hb]; decide) H
 rw [hb] at F
 clear hb
 refine Aq (Ab (Ai ?_))
 obtain ⟨o5, G5, K5⟩ := Ao H
 refine AH (fun a w => ∃ x16 : Bool, some (x16) = some o5 ∧ Fr 148 [] [(1, v3), (4, .int .i64 p4), (5, .int .i64 p5), (6, .pointer (some ⟨b1, 0, none⟩)), (12, .bool false), (15, v12), (120, .bool x16)] a ∧ Stw ⟨Y, [], w0⟩ [(b1, [.int .i64 p0.1, v1, v2])] [row v12 48 DB x11] w) ?_ ?_
 ·
  have H := G5
  clear G5 K5
  refine Ac ?_
  refine ls F W Aa (Ae F Aa).q fun a w F W => ?_
  refine ls F W Aa (Bq F Aa Aa).q fun a w F W => ?_
  refine ls F W Aa (Ae F Aa).q fun a w F W => ?_
  rcases Bool.eq_false_or_eq_true (decide (p4 < 2)) with hb | hb
  ·
   have H := AN (Bf hb) H
   rw [hb] at F
   clear hb
   iterate 4 refine BW F Aa Aa Aa Aa Aa Aa Aa fun a F => ?_
   refine ls F W Aa (An F Aa Aa Aa).q fun a w F W => ?_
   refine ls F W Aa (Ae F Aa).q fun a w F W => ?_
   iterate 7 refine BW F Aa Aa Aa Aa Aa Aa Aa fun a F => ?_
   refine ls F W Aa (An F Aa Aa Aa).q fun a w F W => ?_
   refine Ad (Ab ?_)
   have W := W.frontZ (i := 1) Aa Aa
   have W := W.sub (M' := [(b1, [.int .i64 p0.1, v1, v2])]) (Z' := [row v12 48 DB x11]) (List.Sublist.refl _) (List.Sublist.cons_cons _ (List.nil_sublist _))
   exact ⟨_, H, F.re ⟨rfl, Aa, Aa, Aa, Aa, Aa, Aa, trivial⟩, W⟩
  have H := AM (Bg hb) H
  rw [hb] at F
  clear hb
  iterate 2 refine Au F W (Af F Aa Aa Aa Aa) Aa (Ak Aa) (Ae F Aa).q fun a w F W => ?_
  refine Au F W (Af F Aa Aa Aa Aa) Aa (Ak Aa) (A7 (r := (Rp.int .i64)) (l := x5.1) Fq Aa F Aa (AP 0 Aa)).q fun a w F W => ?_
  refine Au F W (Af F Aa Aa Aa Aa) Aa (Ak Aa) (Fa F Aa Aa).q fun a w F W => ?_
  refine ls F W Aa (As F Aa Aa Aa).q fun a w F W => ?_
  refine ls F W Aa (Ae F Aa).q fun a w F W => ?_
  rcases Bool.eq_false_or_eq_true (decide ((x5.1.length : Int) < p4)) with hb | hb
  ·
   have H := AN (Bf hb) H
   rw [hb] at F
   clear hb
   iterate 7 refine BW F Aa Aa Aa Aa Aa Aa Aa fun a F => ?_
   refine ls F W Aa (An F Aa Aa Aa).q fun a w F W => ?_
   refine Ad (Ab ?_)
   have W := W.frontZ (i := 1) Aa Aa
   have W := W.sub (M' := [(b1, [.int .i64 p0.1, v1, v2])]) (Z' := [row v12 48 DB x11]) (List.Sublist.refl _) (List.Sublist.cons_cons _ (List.nil_sublist _))
   exact ⟨_, H, F.re ⟨rfl, Aa, Aa, Aa, Aa, Aa, Aa, trivial⟩, W⟩
  have H := AM (Bg hb) H
  rw [hb] at F
  clear hb
  iterate 2 refine Au F W (Af F Aa Aa Aa Aa) Aa (Ak Aa) (Ae F Aa).q fun a w F W => ?_
  obtain ⟨x17, h12, H⟩ := Ao H
  refine Au F W (Af F Aa Aa Aa Aa) Aa (Ak Aa) (AJ (r := DB) KY F Aa Aa (AP 1 Aa) h12).q fun a w F W => ?_
  refine Au F W (Af F Aa Aa Aa Aa) Aa (Ak Aa) (Ag DQ Aa Aa Aa T3 F Aa (EE v12 + (p4).toNat * 6 + 3) Aa).q fun a w F W => ?_
  refine Au F W (Af F Aa Aa Aa Aa) Aa (Ak Aa) (Az (y := Value.int .i64 x17.2.2.2.1) (j := 3) (i := p4) F Aa Aa (AP 1 Aa) h12 MG.to T3 Aa).q fun a w F W => ?_
  refine Au F W (Af F Aa Aa Aa Aa) Aa (Ak Aa) (Ae F Aa).q fun a w F W => ?_
  refine Au F W (Af F Aa Aa Aa Aa) Aa (Ak Aa) (BZ F Aa Aa).q fun a w F W => ?_
  refine ls F W Aa (As F Aa Aa Aa).q fun a w F W => ?_
  refine Ad (Ab ?_)
  have W := W.frontZ (i := 1) Aa Aa
  have W := W.sub (M' := [(b1, [.int .i64 p0.1, v1, v2])]) (Z' := [row v12 48 DB x11]) (List.Sublist.refl _) (List.Sublist.cons_cons _ (List.nil_sublist _))
  exact ⟨_, H, F.re ⟨rfl, Aa, Aa, Aa, Aa, Aa, Aa, trivial⟩, W⟩
 rintro a w ⟨x16, hj, F, W⟩
 have hj := AW hj
 subst hj
 have H := K5
 clear G5 K5
 refine Ay F Aa (fun hb => ?_) fun hb => ?_
 ·
  have H := AN hb H
  rw [hb] at F
  clear hb
  refine Ai (Ac ?_)
  obtain ⟨x18, h13, H⟩ := Ao H
  refine ls F W Aa (BI (v := Value.bool x18) F H8 Aa (fun w W => F4 any w _ h13)) fun a w F W => ?_
  refine ls F W Aa (Ah F Aa).q fun a w F W => ?_
  refine Ad (Ab (AA (AD ?_)))
  have H := AW H
  subst H
  refine A8 (.inl Aa) F W Aa (Ap F Aa) ?_
  exact ⟨rfl, W.done⟩
 have H := AM (by rw [hb]; decide) H
 rw [hb] at F
 clear hb
 refine Aq (Ab (Ai (Ac ?_)))
 iterate 3 refine ls F W Aa (Ae F Aa).q fun a w F W => ?_
 obtain ⟨x19, h14, H⟩ := Ao H
 refine ls F W Aa (AJ (r := DB) KY F Aa Aa (AP 0 Aa) h14).q fun a w F W => ?_
 refine ls F W Aa (Ag DQ Aa Aa Aa T3 F Aa (EE v12 + (p4).toNat * 6 + 3) Aa).q fun a w F W => ?_
 refine FS (i := p4) (j := 3) (vs := [.int .i64 p5]) (x' := (x19.1, x19.2.1, x19.2.2.1, p5, x19.2.2.2.2.1, x19.2.2.2.2.2)) F W Aa Aa Aa (k := 0) Aa Aa h14 T3 Aa Aa Aa Aa (fun A cs _ => MG.sto (by rfl) _ _ _) fun w W => ?_
 refine Ad (Ab (Ai (Ac ?_)))
 refine ls F W Aa (Al (v := Value.agg #[.int .i64 p0.1, v1, v2]) 0 F Aa Aa G0 Aa).q fun a w F W => ?_
 refine ls F W Aa (Ae F Aa).q fun a w F W => ?_
 refine C1 (z := Value.slice none 0 0) (cs := [v3]) (Rp.slice (Rp.slice (Rp.int .i64))) ([p1] : List (List (List Int))) F W Aa Ol OM Aa Aa Aa (Ds Aa (CG h_v3.one) Aa Es) Aa Aa ⟨[v3], _, Aa, ⟨_, Aa, (Sl.hide Dc h1 (W.old s_v3))⟩, Aa⟩ fun v17 a w F W => ?_
 refine ls F W Aa (Ae F Aa).q fun a w F W => ?_
 obtain ⟨x20, h15, H⟩ := Ao H
 refine Cf (Ml := []) (Zl := []) (M := [(b1, [.int .i64 p0.1, v1, v2])]) (Z := [row v17 52 (Rp.slice (Rp.slice (Rp.int .i64))) ([p1] : List (List (List Int))), row v12 48 DB (Ax x11 p4 (x19.1, x19.2.1, x19.2.2.1, p5, x19.2.2.2.2.1, x19.2.2.2.2.2))]) (β := Value) (rv := fun x => x) (MM := fun x => []) (ZZ := fun x => [row x 45 Dv x20]) F W OK Aa Aa (fun hL => DD _ w (v1) (v2) (v17) (v12) p0 ([p1] : List (List (List Int))) (Ax x11 p4 (x19.1, x19.2.1, x19.2.2.1, p5, x19.2.2.2.2.1, x19.2.2.2.2.2)) _ h15 ((Aj h_v1) w W).nx ((Aj h_v2) w W).nx ((AP 0 Aa) w W).nx ((AP 1 Aa) w W).nx) fun x a w F W => ?_
 obtain ⟨v18, rfl⟩ : ∃ y, y = x := ⟨x, rfl⟩
 have W : Stw ⟨Y, [], w0⟩ [(b1, [.int .i64 p0.1, v1, v2])] [row v18 45 Dv x20, row v17 52 (Rp.slice (Rp.slice (Rp.int .i64))) ([p1] : List (List (List Int))), row v12 48 DB (Ax x11 p4 (x19.1, x19.2.1, x19.2.2.1, p5, x19.2.2.2.2.1, x19.2.2.2.2.2))] w := W
 refine ls F W Aa (Ah F Aa).q fun a w F W => ?_
 refine Ad (Ab ?_)
 obtain ⟨o6, G6, K6⟩ := Ao H
 refine AH (fun a w => ∃ x21 : Bool, some (x21) = some o6 ∧ Fr 148 [] [(12, .bool x21)] a ∧ Stw ⟨Y, [], w0⟩ [(b1, [.int .i64 p0.1, v1, v2])] [] w) ?_ ?_
 ·
  have H := G6
  clear G6 K6
  refine Ac ?_
  refine ls F W Aa (Ae F Aa).q fun a w F W => ?_
  refine ls F W Aa (A7 (r := Dv) (l := x20) Kw Aa F Aa (AP 0 Aa)).q fun a w F W => ?_
  refine ls F W Aa (Fa F Aa Aa).q fun a w F W => ?_
  refine ls F W Aa (Ae F Aa).q fun a w F W => ?_
  rcases Bool.eq_false_or_eq_true (decide (0 < (x20.length : Int))) with hb | hb
  ·
   have H := AN (Bf hb) H
   rw [hb] at F
   clear hb
   iterate 2 refine Au F W (Af F Aa Aa Aa Aa) Aa (Ak Aa) (Ae F Aa).q fun a w F W => ?_
   refine Au F W (Af F Aa Aa Aa Aa) Aa (Ak Aa) (A7 (r := Dv) (l := x20) Kw Aa F Aa (AP 0 Aa)).q fun a w F W => ?_
   refine Au F W (Af F Aa Aa Aa Aa) Aa (Ak Aa) (HE F Aa Aa Aa).q fun a w F W => ?_
   obtain ⟨x22, h16, H⟩ := Ao H
   refine Au F W (Af F Aa Aa Aa Aa) Aa (Ak Aa) (AJ (r := Dv) MV F Aa Aa (AP 0 Aa) h16).q fun a w F W => ?_
   refine Au F W (Af F Aa Aa Aa Aa) Aa (Ak Aa) (Az (y := Value.agg #[.int .i64 x22.1, .int .i64 x22.2]) (j := 0) (i := DH ((x20.length : Int) - 1)) F Aa Aa (AP 0 Aa) h16 Oj.to Pp Aa).q fun a w F W => ?_
   refine Au F W (Af F Aa Aa Aa Aa) Aa (Ak Aa) (BA (v := Value.agg #[.int .i64 4, .int .i64 0]) Oe F Aa Aa Aa).q fun a w F W => ?_
   refine Au F W (Af F Aa Aa Aa Aa) Aa (Ak Aa) (JW (t := decide (x22.1 = 4 ∧ x22.2 = 0)) Pl (Pq _ _ _ _) F Aa Aa).q fun a w F W => ?_
   refine ls F W Aa (An F Aa Aa Aa).q fun a w F W => ?_
   refine ls F W Aa (Ae F Aa).q fun a w F W => ?_
   rcases Bool.eq_false_or_eq_true (decide (x22.1 = 4 ∧ x22.2 = 0)) with hb | hb
   ·
    have H := AN (Bf hb) H
    rw [hb] at F
    clear hb
    refine J2 (Af F Aa Aa Aa Aa) ?_
    obtain ⟨x23, h17, H⟩ := Ao H
    refine ls F W Aa (BI (v := Value.bool x23) F H8 Aa (fun w W => F4 any w _ h17)) fun a w F W => ?_
    refine ls F W Aa (An F Aa Aa Aa).q fun a w F W => ?_
    refine ls F W Aa (Ah F Aa).q fun a w F W => ?_
    refine Ad (Ab ?_)
    have W := W.sub (M' := [(b1, [.int .i64 p0.1, v1, v2])]) (Z' := []) (List.Sublist.refl _) (List.nil_sublist _)
    exact ⟨_, H, F.re ⟨rfl, trivial⟩, W⟩
   have H := AM (Bg hb) H
   rw [hb] at F
   clear hb
   refine BW F Aa Aa Aa Aa Aa Aa Aa fun a F => ?_
   refine ls F W Aa (As F Aa Aa Aa).q fun a w F W => ?_
   refine ls F W Aa (Ah F Aa).q fun a w F W => ?_
   refine Ad (Ab ?_)
   have W := W.sub (M' := [(b1, [.int .i64 p0.1, v1, v2])]) (Z' := []) (List.Sublist.refl _) (List.nil_sublist _)
   exact ⟨_, H, F.re ⟨rfl, trivial⟩, W⟩
  have H := AM (Bg hb) H
  rw [hb] at F
  clear hb
  iterate 8 refine BW F Aa Aa Aa Aa Aa Aa Aa fun a F => ?_
  refine ls F W Aa (As F Aa Aa Aa).q fun a w F W => ?_
  refine ls F W Aa (Ae F Aa).q fun a w F W => ?_
  refine BW F Aa Aa Aa Aa Aa Aa Aa fun a F => ?_
  refine ls F W Aa (As F Aa Aa Aa).q fun a w F W => ?_
  refine ls F W Aa (Ah F Aa).q fun a w F W => ?_
  refine Ad (Ab ?_)
  have W := W.sub (M' := [(b1, [.int .i64 p0.1, v1, v2])]) (Z' := []) (List.Sublist.refl _) (List.nil_sublist _)
  exact ⟨_, H, F.re ⟨rfl, trivial⟩, W⟩
 rintro a w ⟨x21, hj, F, W⟩
 have hj := AW hj
 subst hj
 have H := K6
 clear G6 K6
 refine AA ?_
 have H := AW H
 subst H
 refine A8 (.inl Aa) F W Aa (Ap F Aa) ?_
 exact ⟨rfl, W.done⟩
end Go.Proofs.Ytflaelbmglmmcaa
