/- The functions of layer 26, Gx. Conditions: none. -/
import Derived.Test.YtepfcpffbabgmaaDoorcA7
namespace Go.Proofs.YtepfcpffbabgmaaDoor
open Go Go.RowKit
set_option linter.unusedVariables false
set_option linter.unusedSimpArgs false
set_option maxRecDepth 20000
noncomputable def FO (p0 : Tr24) (p1 : Tr24) (p2 : Int) (p3 : Int) (p4 : Int × Int × Int × Int) (p5 : Int) : Option Bool := ((Ge p0).bind fun x2 => (if (!x2) = true then some true else (Ge p1).bind fun x3 => some (!x3))).bind fun x1 => (if x1 = true then (Fj).bind fun x4 => some x4 else (I0 p0).bind fun x5 => ((EV x5).bind fun x7 => (Gf p0).bind fun x8 => (if x7 ≠ x8 then some true else (Jg x5).bind fun x9 => (HA p0).bind fun x10 => (if x9 ≠ x10 then some true else (Js x5).bind fun x11 => (IQ p0).bind fun x12 => (if x11 ≠ x12 then some true else (I0 p1).bind fun x13 => (H4 x5 x13).bind fun x14 => (HZ p0 p1).bind fun x15 => (if x14 ≠ x15 then some true else (EY x5 p2 p3 p4).bind fun x16 => (Ln p0 p2 p3 p4).bind fun x17 => (if x16 ≠ x17 then some true else (F0 p5).bind fun x18 => (if x18 ≠ (CC p5) then some true else (FS p5 p2 p3 p4).bind fun x19 => (Ib p5 p2 p3 p4).bind fun x20 => some (decide (x19 ≠ x20))))))))).bind fun x6 => (if x6 = true then some false else (Gf p0).bind fun x21 => (if (!x21) = true then (Fj).bind fun x22 => some x22 else ((GY x5).bind fun x24 => (IA x24).bind fun x25 => (Li p0).bind fun x26 => (HZ x25 x26).bind fun x27 => (if x27 = true then (Ff x5 p5).bind fun x28 => (FH p0 p5).bind fun x29 => (HF x28 x29).bind fun x30 => (if x30 = true then (Gg x5).bind fun x31 => (Lu p0).bind fun x32 => (if x31 = x32 then (Fj).bind fun x33 => some x33 else some false) else some false) else some false)).bind fun x23 => some x23)))
theorem JT (Y : Nat → Prop) (w0 : World) (v1 : Value) (v2 : Value) (p0 : Tr24) (p1 : Tr24) (p2 : Int) (p3 : Int) (p4 : Int × Int × Int × Int) (p5 : Int) (r : Bool) (H : FO p0 p1 p2 p3 p4 p5 = some r) (s_v1 : Sl w0 Y CJ v1 p0.un.2.2.2) (h_v2 : Sl w0 (NX []) CJ v2 p1.un.2.2.2) (hG : Gk [] w0) :
    Calls Tryd.prog 3 #[.agg #[.int .i64 p0.un.1, .int .i64 p0.un.2.1, .int .i64 p0.un.2.2.1, v1], .agg #[.int .i64 p1.un.1, .int .i64 p1.un.2.1, .int .i64 p1.un.2.2.1, v2], .int .i64 p2, .int .i64 p3, .agg #[.int .i64 p4.1, .int .i64 p4.2.1, .int .i64 p4.2.2.1, .int .i64 p4.2.2.2], .int .i64 p5] w0 fun e w' => e = .returned (.bool r) ∧ Below w0.heap.size w0 w' := by
 refine enter Tryd.func3 Aa Tryd.ntmps3 Aa fun a F => ?_
 have W := Stw.start Y w0
 obtain ⟨v3, h1, s_v1⟩ := s_v1.ex C7
 obtain ⟨v4, h2, h_v2⟩ := h_v2.ex C7
 have h_v1 := W.nx s_v1
 unfold FO at H
 refine Aj (Ae ?_)
 refine C5 (cs := [.int .i64 p0.un.1, .int .i64 p0.un.2.1, .int .i64 p0.un.2.2.1, v1]) F W Aa Aa Aa fun b1 a w F W => ?_
 refine C5 (cs := [.int .i64 p1.un.1, .int .i64 p1.un.2.1, .int .i64 p1.un.2.2.1, v2]) F W Aa Aa Aa fun b2 a w F W => ?_
 refine C5 (cs := [.int .i64 p4.1, .int .i64 p4.2.1, .int .i64 p4.2.2.1, .int .i64 p4.2.2.2]) F W Aa Aa Aa fun b3 a w F W => ?_
 refine ls F W Aa (Ah F Aa).q fun a w F W => ?_
 refine Ag (Ad (Aj ?_))
 obtain ⟨o1, G1, K1⟩ := Am H
 refine AO (fun a w => ∃ x1 : Bool, some (x1) = some o1 ∧ Fr 116 [] [(2, .int .i64 p2), (3, .int .i64 p3), (5, .int .i64 p5), (6, .pointer (some ⟨b1, 0, none⟩)), (7, .pointer (some ⟨b2, 0, none⟩)), (10, .pointer (some ⟨b3, 0, none⟩)), (12, .bool false), (21, .bool x1)] a ∧ Stw ⟨Y, [], w0⟩ [(b3, [.int .i64 p4.1, .int .i64 p4.2.1, .int .i64 p4.2.2.1, .int .i64 p4.2.2.2]), (b2, [.int .i64 p1.un.1, .int .i64 p1.un.2.1, .int .i64 p1.un.2.2.1, v2]), (b1, [.int .i64 p0.un.1, .int .i64 p0.un.2.1, .int .i64 p0.un.2.2.1, v1])] [] w) ?_ ?_
 ·
  have H := G1
  clear G1 K1
  refine Ae ?_
  refine ls F W Aa (Aq (v := Value.agg #[.int .i64 p0.un.1, .int .i64 p0.un.2.1, .int .i64 p0.un.2.2.1, v1]) 2 F Aa Aa FC Aa).q fun a w F W => ?_
  obtain ⟨x2, h3, H⟩ := Am H
  refine ls F W Aa (AU (v := Value.bool x2) F H5 Aa (fun w W => JG any w (v1) p0 _ h3 (((AP C7 h1 (Av h_v1)) : EC _ _ _ _ _ _) w W).nx)) fun a w F W => ?_
  refine ls F W Aa (ET F Aa).q fun a w F W => ?_
  refine ls F W Aa (Ai F Aa).q fun a w F W => ?_
  rcases Bool.eq_false_or_eq_true (!x2) with hb | hb
  ·
   have H := AW hb H
   rw [hb] at F
   clear hb
   iterate 3 refine CD F Aa Aa Aa Aa Aa Aa Aa fun a F => ?_
   refine ls F W Aa (Au F Aa Aa Aa).q fun a w F W => ?_
   refine Ag (Ad ?_)
   have W := W.frontM (i := 2) Aa Aa
   have W := W.frontM (i := 2) Aa Aa
   have W := W.frontM (i := 2) Aa Aa
   exact ⟨_, H, F.re ⟨rfl, Aa, Aa, Aa, Aa, Aa, Aa, Aa, trivial⟩, W⟩
  have H := AX (by rw [hb]; decide) H
  rw [hb] at F
  clear hb
  refine AL F W (Af F Aa Aa Aa Aa) Aa (An Aa) (Aq (v := Value.agg #[.int .i64 p1.un.1, .int .i64 p1.un.2.1, .int .i64 p1.un.2.2.1, v2]) 1 F Aa Aa FC Aa).q fun a w F W => ?_
  refine Fv (Af F Aa Aa Aa Aa) ?_
  obtain ⟨x3, h4, H⟩ := Am H
  refine ls F W Aa (AU (v := Value.bool x3) F H5 Aa (fun w W => JG any w (v2) p1 _ h4 (((AP C7 h2 (Av h_v2)) : EC _ _ _ _ _ _) w W).nx)) fun a w F W => ?_
  refine AL F W (Af F Aa Aa Aa Aa) Aa (An Aa) (ET F Aa).q fun a w F W => ?_
  refine ls F W Aa (As F Aa Aa Aa).q fun a w F W => ?_
  refine Ag (Ad ?_)
  have W := W.frontM (i := 2) Aa Aa
  have W := W.frontM (i := 2) Aa Aa
  have W := W.frontM (i := 2) Aa Aa
  exact ⟨_, H, F.re ⟨rfl, Aa, Aa, Aa, Aa, Aa, Aa, Aa, trivial⟩, W⟩
 rintro a w ⟨x1, hj, F, W⟩
 have hj := AM hj
 subst hj
 have H := K1
 clear G1 K1
 refine Ay F Aa (fun hb => ?_) fun hb => ?_
 ·
  have H := AW hb H
  rw [hb] at F
  clear hb
  refine Aj (Ae ?_)
  obtain ⟨x4, h5, H⟩ := Am H
  refine ls F W Aa (AU (v := Value.bool x4) F H6 Aa (fun w W => HG any w _ h5 (hG.go0 W))) fun a w F W => ?_
  refine ls F W Aa (Ah F Aa).q fun a w F W => ?_
  refine Ag (Ad (Az (AR ?_)))
  have H := AM H
  subst H
  refine AQ (.inl Aa) F W Aa (AD F Aa) ?_
  exact ⟨rfl, W.done⟩
 have H := AX (by rw [hb]; decide) H
 rw [hb] at F
 clear hb
 refine Aw (Ad (Aj (Ae ?_)))
 refine ls F W Aa (Aq (v := Value.agg #[.int .i64 p0.un.1, .int .i64 p0.un.2.1, .int .i64 p0.un.2.2.1, v1]) 2 F Aa Aa FC Aa).q fun a w F W => ?_
 obtain ⟨x5, h6, H⟩ := Am H
 refine BD (Ml := []) (Zl := []) (M := [(b3, [.int .i64 p4.1, .int .i64 p4.2.1, .int .i64 p4.2.2.1, .int .i64 p4.2.2.2]), (b2, [.int .i64 p1.un.1, .int .i64 p1.un.2.1, .int .i64 p1.un.2.2.1, v2]), (b1, [.int .i64 p0.un.1, .int .i64 p0.un.2.1, .int .i64 p0.un.2.2.1, v1])]) (Z := []) (β := Value) (rv := fun x => .agg #[.int .i64 x5.un.1, .int .i64 x5.un.2.1, .int .i64 x5.un.2.2.1, x]) (MM := fun x => []) (ZZ := fun x => [row x 31 BJ x5.un.2.2.2]) F W H7 Aa Aa (fun hL => Lj _ w (v1) p0 _ h6 ((AP C7 h1 (Av h_v1)) w W).nx) fun x a w F W => ?_
 obtain ⟨v5, rfl⟩ : ∃ y, y = x := ⟨x, rfl⟩
 have W : Stw ⟨Y, [], w0⟩ [(b3, [.int .i64 p4.1, .int .i64 p4.2.1, .int .i64 p4.2.2.1, .int .i64 p4.2.2.2]), (b2, [.int .i64 p1.un.1, .int .i64 p1.un.2.1, .int .i64 p1.un.2.2.1, v2]), (b1, [.int .i64 p0.un.1, .int .i64 p0.un.2.1, .int .i64 p0.un.2.2.1, v1])] [row v5 31 BJ x5.un.2.2.2] w := W
 refine CK (cs := [.int .i64 0, .int .i64 0, .int .i64 0, .slice none 0 0]) F W Aa KD Aa fun b4 a w F W => ?_
 refine BN (vs := [.int .i64 x5.un.1, .int .i64 x5.un.2.1, .int .i64 x5.un.2.2.1, v5]) (M' := [(b4, [.int .i64 x5.un.1, .int .i64 x5.un.2.1, .int .i64 x5.un.2.2.1, v5]), (b3, [.int .i64 p4.1, .int .i64 p4.2.1, .int .i64 p4.2.2.1, .int .i64 p4.2.2.2]), (b2, [.int .i64 p1.un.1, .int .i64 p1.un.2.1, .int .i64 p1.un.2.2.1, v2]), (b1, [.int .i64 p0.un.1, .int .i64 p0.un.2.1, .int .i64 p0.un.2.2.1, v1])]) 0 F W Aa Aa Aa EA Aa Aa Aa (AB Aa (AB Aa (AB Aa (AB (W.one (k := 0) Aa) CZ)))) Aa fun w W => ?_
 refine Ag (Ad (Aj ?_))
 obtain ⟨o2, G2, K2⟩ := Am H
 refine AO (fun a w => ∃ x6 : Bool, some (x6) = some o2 ∧ Fr 116 [] [(5, .int .i64 p5), (6, .pointer (some ⟨b1, 0, none⟩)), (12, .bool false), (13, .pointer (some ⟨b4, 0, none⟩)), (86, .bool x6)] a ∧ Stw ⟨Y, [], w0⟩ [(b4, [.int .i64 x5.un.1, .int .i64 x5.un.2.1, .int .i64 x5.un.2.2.1, v5]), (b3, [.int .i64 p4.1, .int .i64 p4.2.1, .int .i64 p4.2.2.1, .int .i64 p4.2.2.2]), (b2, [.int .i64 p1.un.1, .int .i64 p1.un.2.1, .int .i64 p1.un.2.2.1, v2]), (b1, [.int .i64 p0.un.1, .int .i64 p0.un.2.1, .int .i64 p0.un.2.2.1, v1])] [row v5 31 BJ x5.un.2.2.2] w) ?_ ?_
 ·
  have H := G2
  clear G2 K2
  refine Eb [(true, 0), (true, 2), (false, 1), (false, 3), (true, 4), (true, 5), (true, 6), (true, 8), (false, 7), (false, 9), (true, 10), (true, 11), (true, 12), (true, 13), (true, 15), (false, 14), (false, 16), (true, 17), (true, 18), (true, 19), (true, 20), (true, 21), (true, 24), (true, 25), (false, 22), (false, 23), (false, 26), (true, 27), (true, 28), (true, 29), (true, 30), (true, 31), (true, 32), (true, 33), (true, 35), (true, 36), (true, 37), (true, 38), (false, 34), (false, 39), (true, 40), (true, 41), (true, 42), (true, 43), (true, 45), (false, 44), (false, 46), (true, 47), (true, 48), (true, 49), (true, 50), (true, 51), (true, 52), (true, 53), (true, 55), (true, 56), (true, 57), (true, 58), (false, 54), (false, 59), (true, 60), (true, 61)] (CN ⟨Y, [], w0⟩ [(some 1, b4, [.int .i64 x5.un.1, .int .i64 x5.un.2.1, .int .i64 x5.un.2.2.1, v5]), (some 3, b1, [.int .i64 p0.un.1, .int .i64 p0.un.2.1, .int .i64 p0.un.2.2.1, v1])] []) (fun ch a d v w h => by cases d <;> exact h) MO (by kernel_rfl) W (fun w W => ⟨_, _, W, (Ab (fun _ => (.head _)) (Ab (fun _ => (.tail _ (.tail _ (.tail _ (.head _))))) Al)), Al⟩) fun w W => ?_
  refine A6 (R := [1]) F Aa Aa (yC fun M Z hN hZ => B6 (cs := [.int .i64 x5.un.1, .int .i64 x5.un.2.1, .int .i64 x5.un.2.2.1, v5]) (v := Value.agg #[.int .i64 x5.un.1, .int .i64 x5.un.2.1, .int .i64 x5.un.2.2.1, v5]) F Aa (hN ((some 1), b4, [.int .i64 x5.un.1, .int .i64 x5.un.2.1, .int .i64 x5.un.2.2.1, v5]) (.head _) Aa) EA Aa) (by kernel_rfl) Aa fun a F => ?_
  refine A6 (R := [3]) F Aa Aa (yC fun M Z hN hZ => B6 (cs := [.int .i64 p0.un.1, .int .i64 p0.un.2.1, .int .i64 p0.un.2.2.1, v1]) (v := Value.agg #[.int .i64 p0.un.1, .int .i64 p0.un.2.1, .int .i64 p0.un.2.2.1, v1]) F Aa (hN ((some 3), b1, [.int .i64 p0.un.1, .int .i64 p0.un.2.1, .int .i64 p0.un.2.2.1, v1]) (.tail _ (.head _)) Aa) FC Aa) (by kernel_rfl) Aa fun a F => ?_
  refine BG Aa ?_
  obtain ⟨x7, h7, H⟩ := Am H
  refine ls F W Aa (AU (v := Value.bool x7) F H8 Aa (fun w W => IZ any w (v5) x5 _ h7 (((Ap 0 Aa) : EC _ _ _ _ _ _) w W).nx)) fun a w F W => ?_
  refine AC (N2 := []) (NZ2 := []) (N3 := [(some 1, b4, [.int .i64 x5.un.1, .int .i64 x5.un.2.1, .int .i64 x5.un.2.2.1, v5]), (some 3, b1, [.int .i64 p0.un.1, .int .i64 p0.un.2.1, .int .i64 p0.un.2.2.1, v1])]) (NZ3 := []) W Aa Aa (Ab (fun h => Ac (by kernel_rfl) h) (Ab (fun _ => (.tail _ (.tail _ (.tail _ (.head _))))) Al)) Al ?_
  refine BG Aa ?_
  obtain ⟨x8, h8, H⟩ := Am H
  refine ls F W Aa (AU (v := Value.bool x8) F H9 Aa (fun w W => JL any w (v1) p0 _ h8 (((AP C7 h1 (Av h_v1)) : EC _ _ _ _ _ _) w W).nx)) fun a w F W => ?_
  refine AC (N2 := [(some 7, b4, [.int .i64 x5.un.1, .int .i64 x5.un.2.1, .int .i64 x5.un.2.2.1, v5]), (some 9, b1, [.int .i64 p0.un.1, .int .i64 p0.un.2.1, .int .i64 p0.un.2.2.1, v1])]) (NZ2 := []) (N3 := [(some 1, b4, [.int .i64 x5.un.1, .int .i64 x5.un.2.1, .int .i64 x5.un.2.2.1, v5]), (some 3, b1, [.int .i64 p0.un.1, .int .i64 p0.un.2.1, .int .i64 p0.un.2.2.1, v1]), (some 7, b4, [.int .i64 x5.un.1, .int .i64 x5.un.2.1, .int .i64 x5.un.2.2.1, v5]), (some 9, b1, [.int .i64 p0.un.1, .int .i64 p0.un.2.1, .int .i64 p0.un.2.2.1, v1])]) (NZ3 := []) W Aa Aa (Ab (fun h => Ac (by kernel_rfl) h) (Ab (fun h => Ac (by kernel_rfl) h) (Ab (fun _ => (.head _)) (Ab (fun _ => (.tail _ (.tail _ (.tail _ (.head _))))) Al)))) Al ?_
  refine A6 (R := []) F Aa Aa (yC fun M Z hN hZ => PY Se F Aa Aa) Aa Aa fun a F => ?_
  refine A6 (R := []) F Aa Aa (yC fun M Z hN hZ => Ai F Aa) Aa Aa fun a F => ?_
  rcases Bool.eq_false_or_eq_true (decide (x7 ≠ x8)) with hb | hb
  ·
   have H := AW (Bm hb) H
   rw [hb] at F
   clear hb
   iterate 2 refine BA F Aa (AH F Aa Aa Aa Aa Aa) Aa Aa Aa fun a F => ?_
   refine BG Aa ?_
   refine CD F Aa Aa Aa Aa Aa Aa Aa fun a F => ?_
   refine AC (N2 := []) (NZ2 := []) (N3 := [(some 1, b4, [.int .i64 x5.un.1, .int .i64 x5.un.2.1, .int .i64 x5.un.2.2.1, v5]), (some 3, b1, [.int .i64 p0.un.1, .int .i64 p0.un.2.1, .int .i64 p0.un.2.2.1, v1]), (some 7, b4, [.int .i64 x5.un.1, .int .i64 x5.un.2.1, .int .i64 x5.un.2.2.1, v5]), (some 9, b1, [.int .i64 p0.un.1, .int .i64 p0.un.2.1, .int .i64 p0.un.2.2.1, v1])]) (NZ3 := []) W Aa Aa (Ab (fun h => Ac (by kernel_rfl) h) (Ab (fun h => Ac (by kernel_rfl) h) (Ab (fun h => Ac (by kernel_rfl) h) (Ab (fun _ => (.tail _ (.tail _ (.tail _ (.head _))))) Al)))) Al ?_
   refine BG Aa ?_
   refine CD F Aa Aa Aa Aa Aa Aa Aa fun a F => ?_
   refine AC (N2 := []) (NZ2 := []) (N3 := [(some 1, b4, [.int .i64 x5.un.1, .int .i64 x5.un.2.1, .int .i64 x5.un.2.2.1, v5]), (some 3, b1, [.int .i64 p0.un.1, .int .i64 p0.un.2.1, .int .i64 p0.un.2.2.1, v1]), (some 7, b4, [.int .i64 x5.un.1, .int .i64 x5.un.2.1, .int .i64 x5.un.2.2.1, v5]), (some 9, b1, [.int .i64 p0.un.1, .int .i64 p0.un.2.1, .int .i64 p0.un.2.2.1, v1])]) (NZ3 := []) W Aa Aa (Ab (fun h => Ac (by kernel_rfl) h) (Ab (fun h => Ac (by kernel_rfl) h) (Ab (fun h => Ac (by kernel_rfl) h) (Ab (fun h => Ac (by kernel_rfl) h) Al)))) Al ?_
   refine BA F Aa (AH F Aa Aa Aa Aa Aa) Aa Aa Aa fun a F => ?_
   refine A6 (R := []) F Aa Aa (yC fun M Z hN hZ => Au F Aa Aa Aa) Aa Aa fun a F => ?_
   refine A6 (R := []) F Aa Aa (yC fun M Z hN hZ => Ai F Aa) Aa Aa fun a F => ?_
   iterate 2 refine BA F Aa (AH F Aa Aa Aa Aa Aa) Aa Aa Aa fun a F => ?_
   refine BG Aa ?_
   refine CD F Aa Aa Aa Aa Aa Aa Aa fun a F => ?_
   refine AC (N2 := []) (NZ2 := []) (N3 := [(some 1, b4, [.int .i64 x5.un.1, .int .i64 x5.un.2.1, .int .i64 x5.un.2.2.1, v5]), (some 3, b1, [.int .i64 p0.un.1, .int .i64 p0.un.2.1, .int .i64 p0.un.2.2.1, v1]), (some 7, b4, [.int .i64 x5.un.1, .int .i64 x5.un.2.1, .int .i64 x5.un.2.2.1, v5]), (some 9, b1, [.int .i64 p0.un.1, .int .i64 p0.un.2.1, .int .i64 p0.un.2.2.1, v1])]) (NZ3 := []) W Aa Aa (Ab (fun h => Ac (by kernel_rfl) h) (Ab (fun h => Ac (by kernel_rfl) h) (Ab (fun h => Ac (by kernel_rfl) h) (Ab (fun h => Ac (by kernel_rfl) h) Al)))) Al ?_
   refine BG Aa ?_
   refine CD F Aa Aa Aa Aa Aa Aa Aa fun a F => ?_
   refine AC (N2 := []) (NZ2 := []) (N3 := [(some 1, b4, [.int .i64 x5.un.1, .int .i64 x5.un.2.1, .int .i64 x5.un.2.2.1, v5]), (some 3, b1, [.int .i64 p0.un.1, .int .i64 p0.un.2.1, .int .i64 p0.un.2.2.1, v1]), (some 7, b4, [.int .i64 x5.un.1, .int .i64 x5.un.2.1, .int .i64 x5.un.2.2.1, v5]), (some 9, b1, [.int .i64 p0.un.1, .int .i64 p0.un.2.1, .int .i64 p0.un.2.2.1, v1])]) (NZ3 := []) W Aa Aa (Ab (fun h => Ac (by kernel_rfl) h) (Ab (fun h => Ac (by kernel_rfl) h) (Ab (fun h => Ac (by kernel_rfl) h) (Ab (fun h => Ac (by kernel_rfl) h) Al)))) Al ?_
   refine BA F Aa (AH F Aa Aa Aa Aa Aa) Aa Aa Aa fun a F => ?_
   refine A6 (R := []) F Aa Aa (yC fun M Z hN hZ => Au F Aa Aa Aa) Aa Aa fun a F => ?_
   refine A6 (R := []) F Aa Aa (yC fun M Z hN hZ => Ai F Aa) Aa Aa fun a F => ?_
   iterate 4 refine BA F Aa (AH F Aa Aa Aa Aa Aa) Aa Aa Aa fun a F => ?_
   refine BG Aa ?_
   refine CD F Aa Aa Aa Aa Aa Aa Aa fun a F => ?_
   refine AC (N2 := []) (NZ2 := []) (N3 := [(some 1, b4, [.int .i64 x5.un.1, .int .i64 x5.un.2.1, .int .i64 x5.un.2.2.1, v5]), (some 3, b1, [.int .i64 p0.un.1, .int .i64 p0.un.2.1, .int .i64 p0.un.2.2.1, v1]), (some 7, b4, [.int .i64 x5.un.1, .int .i64 x5.un.2.1, .int .i64 x5.un.2.2.1, v5]), (some 9, b1, [.int .i64 p0.un.1, .int .i64 p0.un.2.1, .int .i64 p0.un.2.2.1, v1])]) (NZ3 := []) W Aa Aa (Ab (fun h => Ac (by kernel_rfl) h) (Ab (fun h => Ac (by kernel_rfl) h) (Ab (fun h => Ac (by kernel_rfl) h) (Ab (fun h => Ac (by kernel_rfl) h) Al)))) Al ?_
   refine BG Aa ?_
   refine CD F Aa Aa Aa Aa Aa Aa Aa fun a F => ?_
   refine AC (N2 := []) (NZ2 := []) (N3 := [(some 1, b4, [.int .i64 x5.un.1, .int .i64 x5.un.2.1, .int .i64 x5.un.2.2.1, v5]), (some 3, b1, [.int .i64 p0.un.1, .int .i64 p0.un.2.1, .int .i64 p0.un.2.2.1, v1]), (some 7, b4, [.int .i64 x5.un.1, .int .i64 x5.un.2.1, .int .i64 x5.un.2.2.1, v5]), (some 9, b1, [.int .i64 p0.un.1, .int .i64 p0.un.2.1, .int .i64 p0.un.2.2.1, v1])]) (NZ3 := []) W Aa Aa (Ab (fun h => Ac (by kernel_rfl) h) (Ab (fun h => Ac (by kernel_rfl) h) (Ab (fun h => Ac (by kernel_rfl) h) (Ab (fun h => Ac (by kernel_rfl) h) Al)))) Al ?_
   refine BG Aa ?_
   refine CD F Aa Aa Aa Aa Aa Aa Aa fun a F => ?_
   refine AC (N2 := []) (NZ2 := []) (N3 := [(some 1, b4, [.int .i64 x5.un.1, .int .i64 x5.un.2.1, .int .i64 x5.un.2.2.1, v5]), (some 3, b1, [.int .i64 p0.un.1, .int .i64 p0.un.2.1, .int .i64 p0.un.2.2.1, v1]), (some 7, b4, [.int .i64 x5.un.1, .int .i64 x5.un.2.1, .int .i64 x5.un.2.2.1, v5]), (some 9, b1, [.int .i64 p0.un.1, .int .i64 p0.un.2.1, .int .i64 p0.un.2.2.1, v1])]) (NZ3 := []) W Aa Aa (Ab (fun h => Ac (by kernel_rfl) h) (Ab (fun h => Ac (by kernel_rfl) h) (Ab (fun h => Ac (by kernel_rfl) h) (Ab (fun h => Ac (by kernel_rfl) h) Al)))) Al ?_
   refine BA F Aa (AH F Aa Aa Aa Aa Aa) Aa Aa Aa fun a F => ?_
   refine A6 (R := []) F Aa Aa (yC fun M Z hN hZ => Au F Aa Aa Aa) Aa Aa fun a F => ?_
   refine A6 (R := []) F Aa Aa (yC fun M Z hN hZ => Ai F Aa) Aa Aa fun a F => ?_
   iterate 8 refine BA F Aa (AH F Aa Aa Aa Aa Aa) Aa Aa Aa fun a F => ?_
   refine BG Aa ?_
   refine CD F Aa Aa Aa Aa Aa Aa Aa fun a F => ?_
   refine AC (N2 := []) (NZ2 := []) (N3 := [(some 1, b4, [.int .i64 x5.un.1, .int .i64 x5.un.2.1, .int .i64 x5.un.2.2.1, v5]), (some 3, b1, [.int .i64 p0.un.1, .int .i64 p0.un.2.1, .int .i64 p0.un.2.2.1, v1]), (some 7, b4, [.int .i64 x5.un.1, .int .i64 x5.un.2.1, .int .i64 x5.un.2.2.1, v5]), (some 9, b1, [.int .i64 p0.un.1, .int .i64 p0.un.2.1, .int .i64 p0.un.2.2.1, v1])]) (NZ3 := []) W Aa Aa (Ab (fun h => Ac (by kernel_rfl) h) (Ab (fun h => Ac (by kernel_rfl) h) (Ab (fun h => Ac (by kernel_rfl) h) (Ab (fun h => Ac (by kernel_rfl) h) Al)))) Al ?_
   refine BG Aa ?_
   refine CD F Aa Aa Aa Aa Aa Aa Aa fun a F => ?_
   refine AC (N2 := []) (NZ2 := []) (N3 := [(some 1, b4, [.int .i64 x5.un.1, .int .i64 x5.un.2.1, .int .i64 x5.un.2.2.1, v5]), (some 3, b1, [.int .i64 p0.un.1, .int .i64 p0.un.2.1, .int .i64 p0.un.2.2.1, v1]), (some 7, b4, [.int .i64 x5.un.1, .int .i64 x5.un.2.1, .int .i64 x5.un.2.2.1, v5]), (some 9, b1, [.int .i64 p0.un.1, .int .i64 p0.un.2.1, .int .i64 p0.un.2.2.1, v1])]) (NZ3 := []) W Aa Aa (Ab (fun h => Ac (by kernel_rfl) h) (Ab (fun h => Ac (by kernel_rfl) h) (Ab (fun h => Ac (by kernel_rfl) h) (Ab (fun h => Ac (by kernel_rfl) h) Al)))) Al ?_
   refine BA F Aa (AH F Aa Aa Aa Aa Aa) Aa Aa Aa fun a F => ?_
   refine A6 (R := []) F Aa Aa (yC fun M Z hN hZ => Au F Aa Aa Aa) Aa Aa fun a F => ?_
   refine A6 (R := []) F Aa Aa (yC fun M Z hN hZ => Ai F Aa) Aa Aa fun a F => ?_
   iterate 2 refine BA F Aa (AH F Aa Aa Aa Aa Aa) Aa Aa Aa fun a F => ?_
   refine BG Aa ?_
   refine CD F Aa Aa Aa Aa Aa Aa Aa fun a F => ?_
   refine AC (N2 := []) (NZ2 := []) (N3 := [(some 1, b4, [.int .i64 x5.un.1, .int .i64 x5.un.2.1, .int .i64 x5.un.2.2.1, v5]), (some 3, b1, [.int .i64 p0.un.1, .int .i64 p0.un.2.1, .int .i64 p0.un.2.2.1, v1]), (some 7, b4, [.int .i64 x5.un.1, .int .i64 x5.un.2.1, .int .i64 x5.un.2.2.1, v5]), (some 9, b1, [.int .i64 p0.un.1, .int .i64 p0.un.2.1, .int .i64 p0.un.2.2.1, v1])]) (NZ3 := []) W Aa Aa (Ab (fun h => Ac (by kernel_rfl) h) (Ab (fun h => Ac (by kernel_rfl) h) (Ab (fun h => Ac (by kernel_rfl) h) (Ab (fun h => Ac (by kernel_rfl) h) Al)))) Al ?_
   refine BG Aa ?_
   refine CD F Aa Aa Aa Aa Aa Aa Aa fun a F => ?_
   refine AC (N2 := []) (NZ2 := []) (N3 := [(some 1, b4, [.int .i64 x5.un.1, .int .i64 x5.un.2.1, .int .i64 x5.un.2.2.1, v5]), (some 3, b1, [.int .i64 p0.un.1, .int .i64 p0.un.2.1, .int .i64 p0.un.2.2.1, v1]), (some 7, b4, [.int .i64 x5.un.1, .int .i64 x5.un.2.1, .int .i64 x5.un.2.2.1, v5]), (some 9, b1, [.int .i64 p0.un.1, .int .i64 p0.un.2.1, .int .i64 p0.un.2.2.1, v1])]) (NZ3 := []) W Aa Aa (Ab (fun h => Ac (by kernel_rfl) h) (Ab (fun h => Ac (by kernel_rfl) h) (Ab (fun h => Ac (by kernel_rfl) h) (Ab (fun h => Ac (by kernel_rfl) h) Al)))) Al ?_
   refine BA F Aa (AH F Aa Aa Aa Aa Aa) Aa Aa Aa fun a F => ?_
   refine A6 (R := []) F Aa Aa (yC fun M Z hN hZ => Au F Aa Aa Aa) Aa Aa fun a F => ?_
   refine A6 (R := []) F Aa Aa (yC fun M Z hN hZ => Ai F Aa) Aa Aa fun a F => ?_
   iterate 8 refine BA F Aa (AH F Aa Aa Aa Aa Aa) Aa Aa Aa fun a F => ?_
   refine BG Aa ?_
   refine CD F Aa Aa Aa Aa Aa Aa Aa fun a F => ?_
   refine AC (N2 := []) (NZ2 := []) (N3 := [(some 1, b4, [.int .i64 x5.un.1, .int .i64 x5.un.2.1, .int .i64 x5.un.2.2.1, v5]), (some 3, b1, [.int .i64 p0.un.1, .int .i64 p0.un.2.1, .int .i64 p0.un.2.2.1, v1]), (some 7, b4, [.int .i64 x5.un.1, .int .i64 x5.un.2.1, .int .i64 x5.un.2.2.1, v5]), (some 9, b1, [.int .i64 p0.un.1, .int .i64 p0.un.2.1, .int .i64 p0.un.2.2.1, v1])]) (NZ3 := []) W Aa Aa (Ab (fun h => Ac (by kernel_rfl) h) (Ab (fun h => Ac (by kernel_rfl) h) (Ab (fun h => Ac (by kernel_rfl) h) (Ab (fun h => Ac (by kernel_rfl) h) Al)))) Al ?_
   refine BG Aa ?_
   refine CD F Aa Aa Aa Aa Aa Aa Aa fun a F => ?_
   refine AC (N2 := []) (NZ2 := []) (N3 := [(some 1, b4, [.int .i64 x5.un.1, .int .i64 x5.un.2.1, .int .i64 x5.un.2.2.1, v5]), (some 3, b1, [.int .i64 p0.un.1, .int .i64 p0.un.2.1, .int .i64 p0.un.2.2.1, v1]), (some 7, b4, [.int .i64 x5.un.1, .int .i64 x5.un.2.1, .int .i64 x5.un.2.2.1, v5]), (some 9, b1, [.int .i64 p0.un.1, .int .i64 p0.un.2.1, .int .i64 p0.un.2.2.1, v1])]) (NZ3 := []) W Aa Aa (Ab (fun h => Ac (by kernel_rfl) h) (Ab (fun h => Ac (by kernel_rfl) h) (Ab (fun h => Ac (by kernel_rfl) h) (Ab (fun h => Ac (by kernel_rfl) h) Al)))) Al ?_
   refine BA F Aa (AH F Aa Aa Aa Aa Aa) Aa Aa Aa fun a F => ?_
   refine A6 (R := []) F Aa Aa (yC fun M Z hN hZ => Au F Aa Aa Aa) Aa Aa fun a F => ?_
   refine DS (Ad ?_)
   have W := W.frontM (i := 3) Aa Aa
   have W := W.frontM (i := 3) Aa Aa
   have W := W.frontM (i := 3) Aa Aa
   have W := W.frontM (i := 3) Aa Aa
   exact ⟨_, H, F.re ⟨rfl, Aa, Aa, Aa, Aa, trivial⟩, W⟩
  have H := AX (Bl hb) H
  rw [hb] at F
  clear hb
  refine E9 (R := [7]) F Aa (Af F Aa Aa Aa Aa) Aa Aa (yC fun M Z hN hZ => B6 (cs := [.int .i64 x5.un.1, .int .i64 x5.un.2.1, .int .i64 x5.un.2.2.1, v5]) (v := Value.agg #[.int .i64 x5.un.1, .int .i64 x5.un.2.1, .int .i64 x5.un.2.2.1, v5]) F Aa (hN ((some 7), b4, [.int .i64 x5.un.1, .int .i64 x5.un.2.1, .int .i64 x5.un.2.2.1, v5]) (.tail _ (.tail _ (.head _))) Aa) EA Aa) (by kernel_rfl) Aa fun a F => ?_
  refine E9 (R := [9]) F Aa (Af F Aa Aa Aa Aa) Aa Aa (yC fun M Z hN hZ => B6 (cs := [.int .i64 p0.un.1, .int .i64 p0.un.2.1, .int .i64 p0.un.2.2.1, v1]) (v := Value.agg #[.int .i64 p0.un.1, .int .i64 p0.un.2.1, .int .i64 p0.un.2.2.1, v1]) F Aa (hN ((some 9), b1, [.int .i64 p0.un.1, .int .i64 p0.un.2.1, .int .i64 p0.un.2.2.1, v1]) (.tail _ (.tail _ (.tail _ (.head _)))) Aa) FC Aa) (by kernel_rfl) Aa fun a F => ?_
  refine BG Aa ?_
  refine Fv (Af F Aa Aa Aa Aa) ?_
  obtain ⟨x9, h9, H⟩ := Am H
  refine ls F W Aa (AU (v := Value.int .i64 x9) F SP Aa (fun w W => Nq any w (v5) x5 _ h9 (((Ap 0 Aa) : EC _ _ _ _ _ _) w W).nx)) fun a w F W => ?_
  refine AC (N2 := []) (NZ2 := []) (N3 := [(some 1, b4, [.int .i64 x5.un.1, .int .i64 x5.un.2.1, .int .i64 x5.un.2.2.1, v5]), (some 3, b1, [.int .i64 p0.un.1, .int .i64 p0.un.2.1, .int .i64 p0.un.2.2.1, v1]), (some 7, b4, [.int .i64 x5.un.1, .int .i64 x5.un.2.1, .int .i64 x5.un.2.2.1, v5]), (some 9, b1, [.int .i64 p0.un.1, .int .i64 p0.un.2.1, .int .i64 p0.un.2.2.1, v1])]) (NZ3 := []) W Aa Aa (Ab (fun h => Ac (by kernel_rfl) h) (Ab (fun h => Ac (by kernel_rfl) h) (Ab (fun h => Ac (by kernel_rfl) h) (Ab (fun _ => (.tail _ (.tail _ (.tail _ (.head _))))) Al)))) Al ?_
  refine BG Aa ?_
  refine Fv (Af F Aa Aa Aa Aa) ?_
  obtain ⟨x10, h10, H⟩ := Am H
  refine ls F W Aa (AU (v := Value.int .i64 x10) F R3 Aa (fun w W => IK any w (v1) p0 _ h10 (((AP C7 h1 (Av h_v1)) : EC _ _ _ _ _ _) w W).nx)) fun a w F W => ?_
  refine AC (N2 := [(some 14, b4, [.int .i64 x5.un.1, .int .i64 x5.un.2.1, .int .i64 x5.un.2.2.1, v5]), (some 16, b1, [.int .i64 p0.un.1, .int .i64 p0.un.2.1, .int .i64 p0.un.2.2.1, v1])]) (NZ2 := []) (N3 := [(some 1, b4, [.int .i64 x5.un.1, .int .i64 x5.un.2.1, .int .i64 x5.un.2.2.1, v5]), (some 3, b1, [.int .i64 p0.un.1, .int .i64 p0.un.2.1, .int .i64 p0.un.2.2.1, v1]), (some 7, b4, [.int .i64 x5.un.1, .int .i64 x5.un.2.1, .int .i64 x5.un.2.2.1, v5]), (some 9, b1, [.int .i64 p0.un.1, .int .i64 p0.un.2.1, .int .i64 p0.un.2.2.1, v1]), (some 14, b4, [.int .i64 x5.un.1, .int .i64 x5.un.2.1, .int .i64 x5.un.2.2.1, v5]), (some 16, b1, [.int .i64 p0.un.1, .int .i64 p0.un.2.1, .int .i64 p0.un.2.2.1, v1])]) (NZ3 := []) W Aa Aa (Ab (fun h => Ac (by kernel_rfl) h) (Ab (fun h => Ac (by kernel_rfl) h) (Ab (fun h => Ac (by kernel_rfl) h) (Ab (fun h => Ac (by kernel_rfl) h) (Ab (fun _ => (.head _)) (Ab (fun _ => (.tail _ (.tail _ (.tail _ (.head _))))) Al)))))) Al ?_
  refine E9 (R := []) F Aa (Af F Aa Aa Aa Aa) Aa Aa (yC fun M Z hN hZ => E7 F Aa Aa) Aa Aa fun a F => ?_
  refine A6 (R := []) F Aa Aa (yC fun M Z hN hZ => As F Aa Aa Aa) Aa Aa fun a F => ?_
  refine A6 (R := []) F Aa Aa (yC fun M Z hN hZ => Ai F Aa) Aa Aa fun a F => ?_
  rcases Bool.eq_false_or_eq_true (decide (x9 ≠ x10)) with hb | hb
  ·
   have H := AW (Bm hb) H
   rw [hb] at F
   clear hb
   iterate 2 refine BA F Aa (AH F Aa Aa Aa Aa Aa) Aa Aa Aa fun a F => ?_
   refine BG Aa ?_
   refine CD F Aa Aa Aa Aa Aa Aa Aa fun a F => ?_
   refine AC (N2 := []) (NZ2 := []) (N3 := [(some 1, b4, [.int .i64 x5.un.1, .int .i64 x5.un.2.1, .int .i64 x5.un.2.2.1, v5]), (some 3, b1, [.int .i64 p0.un.1, .int .i64 p0.un.2.1, .int .i64 p0.un.2.2.1, v1]), (some 7, b4, [.int .i64 x5.un.1, .int .i64 x5.un.2.1, .int .i64 x5.un.2.2.1, v5]), (some 9, b1, [.int .i64 p0.un.1, .int .i64 p0.un.2.1, .int .i64 p0.un.2.2.1, v1]), (some 14, b4, [.int .i64 x5.un.1, .int .i64 x5.un.2.1, .int .i64 x5.un.2.2.1, v5]), (some 16, b1, [.int .i64 p0.un.1, .int .i64 p0.un.2.1, .int .i64 p0.un.2.2.1, v1])]) (NZ3 := []) W Aa Aa (Ab (fun h => Ac (by kernel_rfl) h) (Ab (fun h => Ac (by kernel_rfl) h) (Ab (fun h => Ac (by kernel_rfl) h) (Ab (fun h => Ac (by kernel_rfl) h) (Ab (fun h => Ac (by kernel_rfl) h) (Ab (fun _ => (.tail _ (.tail _ (.tail _ (.head _))))) Al)))))) Al ?_
   refine BG Aa ?_
   refine CD F Aa Aa Aa Aa Aa Aa Aa fun a F => ?_
   refine AC (N2 := []) (NZ2 := []) (N3 := [(some 1, b4, [.int .i64 x5.un.1, .int .i64 x5.un.2.1, .int .i64 x5.un.2.2.1, v5]), (some 3, b1, [.int .i64 p0.un.1, .int .i64 p0.un.2.1, .int .i64 p0.un.2.2.1, v1]), (some 7, b4, [.int .i64 x5.un.1, .int .i64 x5.un.2.1, .int .i64 x5.un.2.2.1, v5]), (some 9, b1, [.int .i64 p0.un.1, .int .i64 p0.un.2.1, .int .i64 p0.un.2.2.1, v1]), (some 14, b4, [.int .i64 x5.un.1, .int .i64 x5.un.2.1, .int .i64 x5.un.2.2.1, v5]), (some 16, b1, [.int .i64 p0.un.1, .int .i64 p0.un.2.1, .int .i64 p0.un.2.2.1, v1])]) (NZ3 := []) W Aa Aa (Ab (fun h => Ac (by kernel_rfl) h) (Ab (fun h => Ac (by kernel_rfl) h) (Ab (fun h => Ac (by kernel_rfl) h) (Ab (fun h => Ac (by kernel_rfl) h) (Ab (fun h => Ac (by kernel_rfl) h) (Ab (fun h => Ac (by kernel_rfl) h) Al)))))) Al ?_
   refine BA F Aa (AH F Aa Aa Aa Aa Aa) Aa Aa Aa fun a F => ?_
   refine A6 (R := []) F Aa Aa (yC fun M Z hN hZ => Au F Aa Aa Aa) Aa Aa fun a F => ?_
   refine A6 (R := []) F Aa Aa (yC fun M Z hN hZ => Ai F Aa) Aa Aa fun a F => ?_
   iterate 4 refine BA F Aa (AH F Aa Aa Aa Aa Aa) Aa Aa Aa fun a F => ?_
   refine BG Aa ?_
   refine CD F Aa Aa Aa Aa Aa Aa Aa fun a F => ?_
   refine AC (N2 := []) (NZ2 := []) (N3 := [(some 1, b4, [.int .i64 x5.un.1, .int .i64 x5.un.2.1, .int .i64 x5.un.2.2.1, v5]), (some 3, b1, [.int .i64 p0.un.1, .int .i64 p0.un.2.1, .int .i64 p0.un.2.2.1, v1]), (some 7, b4, [.int .i64 x5.un.1, .int .i64 x5.un.2.1, .int .i64 x5.un.2.2.1, v5]), (some 9, b1, [.int .i64 p0.un.1, .int .i64 p0.un.2.1, .int .i64 p0.un.2.2.1, v1]), (some 14, b4, [.int .i64 x5.un.1, .int .i64 x5.un.2.1, .int .i64 x5.un.2.2.1, v5]), (some 16, b1, [.int .i64 p0.un.1, .int .i64 p0.un.2.1, .int .i64 p0.un.2.2.1, v1])]) (NZ3 := []) W Aa Aa (Ab (fun h => Ac (by kernel_rfl) h) (Ab (fun h => Ac (by kernel_rfl) h) (Ab (fun h => Ac (by kernel_rfl) h) (Ab (fun h => Ac (by kernel_rfl) h) (Ab (fun h => Ac (by kernel_rfl) h) (Ab (fun h => Ac (by kernel_rfl) h) Al)))))) Al ?_
   refine BG Aa ?_
   refine CD F Aa Aa Aa Aa Aa Aa Aa fun a F => ?_
   refine AC (N2 := []) (NZ2 := []) (N3 := [(some 1, b4, [.int .i64 x5.un.1, .int .i64 x5.un.2.1, .int .i64 x5.un.2.2.1, v5]), (some 3, b1, [.int .i64 p0.un.1, .int .i64 p0.un.2.1, .int .i64 p0.un.2.2.1, v1]), (some 7, b4, [.int .i64 x5.un.1, .int .i64 x5.un.2.1, .int .i64 x5.un.2.2.1, v5]), (some 9, b1, [.int .i64 p0.un.1, .int .i64 p0.un.2.1, .int .i64 p0.un.2.2.1, v1]), (some 14, b4, [.int .i64 x5.un.1, .int .i64 x5.un.2.1, .int .i64 x5.un.2.2.1, v5]), (some 16, b1, [.int .i64 p0.un.1, .int .i64 p0.un.2.1, .int .i64 p0.un.2.2.1, v1])]) (NZ3 := []) W Aa Aa (Ab (fun h => Ac (by kernel_rfl) h) (Ab (fun h => Ac (by kernel_rfl) h) (Ab (fun h => Ac (by kernel_rfl) h) (Ab (fun h => Ac (by kernel_rfl) h) (Ab (fun h => Ac (by kernel_rfl) h) (Ab (fun h => Ac (by kernel_rfl) h) Al)))))) Al ?_
   refine BG Aa ?_
   refine CD F Aa Aa Aa Aa Aa Aa Aa fun a F => ?_
   refine AC (N2 := []) (NZ2 := []) (N3 := [(some 1, b4, [.int .i64 x5.un.1, .int .i64 x5.un.2.1, .int .i64 x5.un.2.2.1, v5]), (some 3, b1, [.int .i64 p0.un.1, .int .i64 p0.un.2.1, .int .i64 p0.un.2.2.1, v1]), (some 7, b4, [.int .i64 x5.un.1, .int .i64 x5.un.2.1, .int .i64 x5.un.2.2.1, v5]), (some 9, b1, [.int .i64 p0.un.1, .int .i64 p0.un.2.1, .int .i64 p0.un.2.2.1, v1]), (some 14, b4, [.int .i64 x5.un.1, .int .i64 x5.un.2.1, .int .i64 x5.un.2.2.1, v5]), (some 16, b1, [.int .i64 p0.un.1, .int .i64 p0.un.2.1, .int .i64 p0.un.2.2.1, v1])]) (NZ3 := []) W Aa Aa (Ab (fun h => Ac (by kernel_rfl) h) (Ab (fun h => Ac (by kernel_rfl) h) (Ab (fun h => Ac (by kernel_rfl) h) (Ab (fun h => Ac (by kernel_rfl) h) (Ab (fun h => Ac (by kernel_rfl) h) (Ab (fun h => Ac (by kernel_rfl) h) Al)))))) Al ?_
   refine BA F Aa (AH F Aa Aa Aa Aa Aa) Aa Aa Aa fun a F => ?_
   refine A6 (R := []) F Aa Aa (yC fun M Z hN hZ => Au F Aa Aa Aa) Aa Aa fun a F => ?_
   refine A6 (R := []) F Aa Aa (yC fun M Z hN hZ => Ai F Aa) Aa Aa fun a F => ?_
   iterate 8 refine BA F Aa (AH F Aa Aa Aa Aa Aa) Aa Aa Aa fun a F => ?_
   refine BG Aa ?_
   refine CD F Aa Aa Aa Aa Aa Aa Aa fun a F => ?_
   refine AC (N2 := []) (NZ2 := []) (N3 := [(some 1, b4, [.int .i64 x5.un.1, .int .i64 x5.un.2.1, .int .i64 x5.un.2.2.1, v5]), (some 3, b1, [.int .i64 p0.un.1, .int .i64 p0.un.2.1, .int .i64 p0.un.2.2.1, v1]), (some 7, b4, [.int .i64 x5.un.1, .int .i64 x5.un.2.1, .int .i64 x5.un.2.2.1, v5]), (some 9, b1, [.int .i64 p0.un.1, .int .i64 p0.un.2.1, .int .i64 p0.un.2.2.1, v1]), (some 14, b4, [.int .i64 x5.un.1, .int .i64 x5.un.2.1, .int .i64 x5.un.2.2.1, v5]), (some 16, b1, [.int .i64 p0.un.1, .int .i64 p0.un.2.1, .int .i64 p0.un.2.2.1, v1])]) (NZ3 := []) W Aa Aa (Ab (fun h => Ac (by kernel_rfl) h) (Ab (fun h => Ac (by kernel_rfl) h) (Ab (fun h => Ac (by kernel_rfl) h) (Ab (fun h => Ac (by kernel_rfl) h) (Ab (fun h => Ac (by kernel_rfl) h) (Ab (fun h => Ac (by kernel_rfl) h) Al)))))) Al ?_
   refine BG Aa ?_
   refine CD F Aa Aa Aa Aa Aa Aa Aa fun a F => ?_
   refine AC (N2 := []) (NZ2 := []) (N3 := [(some 1, b4, [.int .i64 x5.un.1, .int .i64 x5.un.2.1, .int .i64 x5.un.2.2.1, v5]), (some 3, b1, [.int .i64 p0.un.1, .int .i64 p0.un.2.1, .int .i64 p0.un.2.2.1, v1]), (some 7, b4, [.int .i64 x5.un.1, .int .i64 x5.un.2.1, .int .i64 x5.un.2.2.1, v5]), (some 9, b1, [.int .i64 p0.un.1, .int .i64 p0.un.2.1, .int .i64 p0.un.2.2.1, v1]), (some 14, b4, [.int .i64 x5.un.1, .int .i64 x5.un.2.1, .int .i64 x5.un.2.2.1, v5]), (some 16, b1, [.int .i64 p0.un.1, .int .i64 p0.un.2.1, .int .i64 p0.un.2.2.1, v1])]) (NZ3 := []) W Aa Aa (Ab (fun h => Ac (by kernel_rfl) h) (Ab (fun h => Ac (by kernel_rfl) h) (Ab (fun h => Ac (by kernel_rfl) h) (Ab (fun h => Ac (by kernel_rfl) h) (Ab (fun h => Ac (by kernel_rfl) h) (Ab (fun h => Ac (by kernel_rfl) h) Al)))))) Al ?_
   refine BA F Aa (AH F Aa Aa Aa Aa Aa) Aa Aa Aa fun a F => ?_
   refine A6 (R := []) F Aa Aa (yC fun M Z hN hZ => Au F Aa Aa Aa) Aa Aa fun a F => ?_
   refine A6 (R := []) F Aa Aa (yC fun M Z hN hZ => Ai F Aa) Aa Aa fun a F => ?_
   iterate 2 refine BA F Aa (AH F Aa Aa Aa Aa Aa) Aa Aa Aa fun a F => ?_
   refine BG Aa ?_
   refine CD F Aa Aa Aa Aa Aa Aa Aa fun a F => ?_
   refine AC (N2 := []) (NZ2 := []) (N3 := [(some 1, b4, [.int .i64 x5.un.1, .int .i64 x5.un.2.1, .int .i64 x5.un.2.2.1, v5]), (some 3, b1, [.int .i64 p0.un.1, .int .i64 p0.un.2.1, .int .i64 p0.un.2.2.1, v1]), (some 7, b4, [.int .i64 x5.un.1, .int .i64 x5.un.2.1, .int .i64 x5.un.2.2.1, v5]), (some 9, b1, [.int .i64 p0.un.1, .int .i64 p0.un.2.1, .int .i64 p0.un.2.2.1, v1]), (some 14, b4, [.int .i64 x5.un.1, .int .i64 x5.un.2.1, .int .i64 x5.un.2.2.1, v5]), (some 16, b1, [.int .i64 p0.un.1, .int .i64 p0.un.2.1, .int .i64 p0.un.2.2.1, v1])]) (NZ3 := []) W Aa Aa (Ab (fun h => Ac (by kernel_rfl) h) (Ab (fun h => Ac (by kernel_rfl) h) (Ab (fun h => Ac (by kernel_rfl) h) (Ab (fun h => Ac (by kernel_rfl) h) (Ab (fun h => Ac (by kernel_rfl) h) (Ab (fun h => Ac (by kernel_rfl) h) Al)))))) Al ?_
   refine BG Aa ?_
   refine CD F Aa Aa Aa Aa Aa Aa Aa fun a F => ?_
   refine AC (N2 := []) (NZ2 := []) (N3 := [(some 1, b4, [.int .i64 x5.un.1, .int .i64 x5.un.2.1, .int .i64 x5.un.2.2.1, v5]), (some 3, b1, [.int .i64 p0.un.1, .int .i64 p0.un.2.1, .int .i64 p0.un.2.2.1, v1]), (some 7, b4, [.int .i64 x5.un.1, .int .i64 x5.un.2.1, .int .i64 x5.un.2.2.1, v5]), (some 9, b1, [.int .i64 p0.un.1, .int .i64 p0.un.2.1, .int .i64 p0.un.2.2.1, v1]), (some 14, b4, [.int .i64 x5.un.1, .int .i64 x5.un.2.1, .int .i64 x5.un.2.2.1, v5]), (some 16, b1, [.int .i64 p0.un.1, .int .i64 p0.un.2.1, .int .i64 p0.un.2.2.1, v1])]) (NZ3 := []) W Aa Aa (Ab (fun h => Ac (by kernel_rfl) h) (Ab (fun h => Ac (by kernel_rfl) h) (Ab (fun h => Ac (by kernel_rfl) h) (Ab (fun h => Ac (by kernel_rfl) h) (Ab (fun h => Ac (by kernel_rfl) h) (Ab (fun h => Ac (by kernel_rfl) h) Al)))))) Al ?_
   refine BA F Aa (AH F Aa Aa Aa Aa Aa) Aa Aa Aa fun a F => ?_
   refine A6 (R := []) F Aa Aa (yC fun M Z hN hZ => Au F Aa Aa Aa) Aa Aa fun a F => ?_
   refine A6 (R := []) F Aa Aa (yC fun M Z hN hZ => Ai F Aa) Aa Aa fun a F => ?_
   iterate 8 refine BA F Aa (AH F Aa Aa Aa Aa Aa) Aa Aa Aa fun a F => ?_
   refine BG Aa ?_
   refine CD F Aa Aa Aa Aa Aa Aa Aa fun a F => ?_
   refine AC (N2 := []) (NZ2 := []) (N3 := [(some 1, b4, [.int .i64 x5.un.1, .int .i64 x5.un.2.1, .int .i64 x5.un.2.2.1, v5]), (some 3, b1, [.int .i64 p0.un.1, .int .i64 p0.un.2.1, .int .i64 p0.un.2.2.1, v1]), (some 7, b4, [.int .i64 x5.un.1, .int .i64 x5.un.2.1, .int .i64 x5.un.2.2.1, v5]), (some 9, b1, [.int .i64 p0.un.1, .int .i64 p0.un.2.1, .int .i64 p0.un.2.2.1, v1]), (some 14, b4, [.int .i64 x5.un.1, .int .i64 x5.un.2.1, .int .i64 x5.un.2.2.1, v5]), (some 16, b1, [.int .i64 p0.un.1, .int .i64 p0.un.2.1, .int .i64 p0.un.2.2.1, v1])]) (NZ3 := []) W Aa Aa (Ab (fun h => Ac (by kernel_rfl) h) (Ab (fun h => Ac (by kernel_rfl) h) (Ab (fun h => Ac (by kernel_rfl) h) (Ab (fun h => Ac (by kernel_rfl) h) (Ab (fun h => Ac (by kernel_rfl) h) (Ab (fun h => Ac (by kernel_rfl) h) Al)))))) Al ?_
   refine BG Aa ?_
   refine CD F Aa Aa Aa Aa Aa Aa Aa fun a F => ?_
   refine AC (N2 := []) (NZ2 := []) (N3 := [(some 1, b4, [.int .i64 x5.un.1, .int .i64 x5.un.2.1, .int .i64 x5.un.2.2.1, v5]), (some 3, b1, [.int .i64 p0.un.1, .int .i64 p0.un.2.1, .int .i64 p0.un.2.2.1, v1]), (some 7, b4, [.int .i64 x5.un.1, .int .i64 x5.un.2.1, .int .i64 x5.un.2.2.1, v5]), (some 9, b1, [.int .i64 p0.un.1, .int .i64 p0.un.2.1, .int .i64 p0.un.2.2.1, v1]), (some 14, b4, [.int .i64 x5.un.1, .int .i64 x5.un.2.1, .int .i64 x5.un.2.2.1, v5]), (some 16, b1, [.int .i64 p0.un.1, .int .i64 p0.un.2.1, .int .i64 p0.un.2.2.1, v1])]) (NZ3 := []) W Aa Aa (Ab (fun h => Ac (by kernel_rfl) h) (Ab (fun h => Ac (by kernel_rfl) h) (Ab (fun h => Ac (by kernel_rfl) h) (Ab (fun h => Ac (by kernel_rfl) h) (Ab (fun h => Ac (by kernel_rfl) h) (Ab (fun h => Ac (by kernel_rfl) h) Al)))))) Al ?_
   refine BA F Aa (AH F Aa Aa Aa Aa Aa) Aa Aa Aa fun a F => ?_
   refine A6 (R := []) F Aa Aa (yC fun M Z hN hZ => Au F Aa Aa Aa) Aa Aa fun a F => ?_
   refine DS (Ad ?_)
   have W := W.frontM (i := 3) Aa Aa
   have W := W.frontM (i := 3) Aa Aa
   have W := W.frontM (i := 3) Aa Aa
   have W := W.frontM (i := 3) Aa Aa
   exact ⟨_, H, F.re ⟨rfl, Aa, Aa, Aa, Aa, trivial⟩, W⟩
  have H := AX (Bl hb) H
  rw [hb] at F
  clear hb
  refine E9 (R := [14]) F Aa (Af F Aa Aa Aa Aa) Aa Aa (yC fun M Z hN hZ => B6 (cs := [.int .i64 x5.un.1, .int .i64 x5.un.2.1, .int .i64 x5.un.2.2.1, v5]) (v := Value.agg #[.int .i64 x5.un.1, .int .i64 x5.un.2.1, .int .i64 x5.un.2.2.1, v5]) F Aa (hN ((some 14), b4, [.int .i64 x5.un.1, .int .i64 x5.un.2.1, .int .i64 x5.un.2.2.1, v5]) (.tail _ (.tail _ (.tail _ (.tail _ (.head _))))) Aa) EA Aa) (by kernel_rfl) Aa fun a F => ?_
  refine E9 (R := [16]) F Aa (Af F Aa Aa Aa Aa) Aa Aa (yC fun M Z hN hZ => B6 (cs := [.int .i64 p0.un.1, .int .i64 p0.un.2.1, .int .i64 p0.un.2.2.1, v1]) (v := Value.agg #[.int .i64 p0.un.1, .int .i64 p0.un.2.1, .int .i64 p0.un.2.2.1, v1]) F Aa (hN ((some 16), b1, [.int .i64 p0.un.1, .int .i64 p0.un.2.1, .int .i64 p0.un.2.2.1, v1]) (.tail _ (.tail _ (.tail _ (.tail _ (.tail _ (.head _)))))) Aa) FC Aa) (by kernel_rfl) Aa fun a F => ?_
  refine BG Aa ?_
  refine Fv (Af F Aa Aa Aa Aa) ?_
  obtain ⟨x11, h11, H⟩ := Am H
  refine ls F W Aa (AU (v := Value.int .i64 x11) F SQ Aa (fun w W => M8 any w (v5) x5 _ h11 (((Ap 0 Aa) : EC _ _ _ _ _ _) w W).nx)) fun a w F W => ?_
  refine AC (N2 := []) (NZ2 := []) (N3 := [(some 1, b4, [.int .i64 x5.un.1, .int .i64 x5.un.2.1, .int .i64 x5.un.2.2.1, v5]), (some 3, b1, [.int .i64 p0.un.1, .int .i64 p0.un.2.1, .int .i64 p0.un.2.2.1, v1]), (some 7, b4, [.int .i64 x5.un.1, .int .i64 x5.un.2.1, .int .i64 x5.un.2.2.1, v5]), (some 9, b1, [.int .i64 p0.un.1, .int .i64 p0.un.2.1, .int .i64 p0.un.2.2.1, v1]), (some 14, b4, [.int .i64 x5.un.1, .int .i64 x5.un.2.1, .int .i64 x5.un.2.2.1, v5]), (some 16, b1, [.int .i64 p0.un.1, .int .i64 p0.un.2.1, .int .i64 p0.un.2.2.1, v1])]) (NZ3 := []) W Aa Aa (Ab (fun h => Ac (by kernel_rfl) h) (Ab (fun h => Ac (by kernel_rfl) h) (Ab (fun h => Ac (by kernel_rfl) h) (Ab (fun h => Ac (by kernel_rfl) h) (Ab (fun h => Ac (by kernel_rfl) h) (Ab (fun _ => (.tail _ (.tail _ (.tail _ (.head _))))) Al)))))) Al ?_
  refine BG Aa ?_
  refine Fv (Af F Aa Aa Aa Aa) ?_
  obtain ⟨x12, h12, H⟩ := Am H
  refine ls F W Aa (AU (v := Value.int .i64 x12) F R8 Aa (fun w W => KN any w (v1) p0 _ h12 (((AP C7 h1 (Av h_v1)) : EC _ _ _ _ _ _) w W).nx)) fun a w F W => ?_
  refine AC (N2 := [(some 23, b4, [.int .i64 x5.un.1, .int .i64 x5.un.2.1, .int .i64 x5.un.2.2.1, v5]), (some 22, b2, [.int .i64 p1.un.1, .int .i64 p1.un.2.1, .int .i64 p1.un.2.2.1, v2]), (some 26, b1, [.int .i64 p0.un.1, .int .i64 p0.un.2.1, .int .i64 p0.un.2.2.1, v1]), (some 26, b2, [.int .i64 p1.un.1, .int .i64 p1.un.2.1, .int .i64 p1.un.2.2.1, v2])]) (NZ2 := []) (N3 := [(some 1, b4, [.int .i64 x5.un.1, .int .i64 x5.un.2.1, .int .i64 x5.un.2.2.1, v5]), (some 3, b1, [.int .i64 p0.un.1, .int .i64 p0.un.2.1, .int .i64 p0.un.2.2.1, v1]), (some 7, b4, [.int .i64 x5.un.1, .int .i64 x5.un.2.1, .int .i64 x5.un.2.2.1, v5]), (some 9, b1, [.int .i64 p0.un.1, .int .i64 p0.un.2.1, .int .i64 p0.un.2.2.1, v1]), (some 14, b4, [.int .i64 x5.un.1, .int .i64 x5.un.2.1, .int .i64 x5.un.2.2.1, v5]), (some 16, b1, [.int .i64 p0.un.1, .int .i64 p0.un.2.1, .int .i64 p0.un.2.2.1, v1]), (some 23, b4, [.int .i64 x5.un.1, .int .i64 x5.un.2.1, .int .i64 x5.un.2.2.1, v5]), (some 22, b2, [.int .i64 p1.un.1, .int .i64 p1.un.2.1, .int .i64 p1.un.2.2.1, v2]), (some 26, b1, [.int .i64 p0.un.1, .int .i64 p0.un.2.1, .int .i64 p0.un.2.2.1, v1]), (some 26, b2, [.int .i64 p1.un.1, .int .i64 p1.un.2.1, .int .i64 p1.un.2.2.1, v2])]) (NZ3 := []) W Aa Aa (Ab (fun h => Ac (by kernel_rfl) h) (Ab (fun h => Ac (by kernel_rfl) h) (Ab (fun h => Ac (by kernel_rfl) h) (Ab (fun h => Ac (by kernel_rfl) h) (Ab (fun h => Ac (by kernel_rfl) h) (Ab (fun h => Ac (by kernel_rfl) h) (Ab (fun _ => (.head _)) (Ab (fun _ => (.tail _ (.tail _ (.head _)))) (Ab (fun _ => (.tail _ (.tail _ (.tail _ (.head _))))) (Ab (fun _ => (.tail _ (.tail _ (.head _)))) Al)))))))))) Al ?_
  refine E9 (R := []) F Aa (Af F Aa Aa Aa Aa) Aa Aa (yC fun M Z hN hZ => E7 F Aa Aa) Aa Aa fun a F => ?_
  refine A6 (R := []) F Aa Aa (yC fun M Z hN hZ => As F Aa Aa Aa) Aa Aa fun a F => ?_
  refine A6 (R := []) F Aa Aa (yC fun M Z hN hZ => Ai F Aa) Aa Aa fun a F => ?_
  rcases Bool.eq_false_or_eq_true (decide (x11 ≠ x12)) with hb | hb
  ·
   have H := AW (Bm hb) H
   rw [hb] at F
   clear hb
   iterate 4 refine BA F Aa (AH F Aa Aa Aa Aa Aa) Aa Aa Aa fun a F => ?_
   refine BG Aa ?_
   refine CD F Aa Aa Aa Aa Aa Aa Aa fun a F => ?_
   refine AC (N2 := []) (NZ2 := []) (N3 := [(some 1, b4, [.int .i64 x5.un.1, .int .i64 x5.un.2.1, .int .i64 x5.un.2.2.1, v5]), (some 3, b1, [.int .i64 p0.un.1, .int .i64 p0.un.2.1, .int .i64 p0.un.2.2.1, v1]), (some 7, b4, [.int .i64 x5.un.1, .int .i64 x5.un.2.1, .int .i64 x5.un.2.2.1, v5]), (some 9, b1, [.int .i64 p0.un.1, .int .i64 p0.un.2.1, .int .i64 p0.un.2.2.1, v1]), (some 14, b4, [.int .i64 x5.un.1, .int .i64 x5.un.2.1, .int .i64 x5.un.2.2.1, v5]), (some 16, b1, [.int .i64 p0.un.1, .int .i64 p0.un.2.1, .int .i64 p0.un.2.2.1, v1]), (some 23, b4, [.int .i64 x5.un.1, .int .i64 x5.un.2.1, .int .i64 x5.un.2.2.1, v5]), (some 22, b2, [.int .i64 p1.un.1, .int .i64 p1.un.2.1, .int .i64 p1.un.2.2.1, v2]), (some 26, b1, [.int .i64 p0.un.1, .int .i64 p0.un.2.1, .int .i64 p0.un.2.2.1, v1]), (some 26, b2, [.int .i64 p1.un.1, .int .i64 p1.un.2.1, .int .i64 p1.un.2.2.1, v2])]) (NZ3 := []) W Aa Aa (Ab (fun h => Ac (by kernel_rfl) h) (Ab (fun h => Ac (by kernel_rfl) h) (Ab (fun h => Ac (by kernel_rfl) h) (Ab (fun h => Ac (by kernel_rfl) h) (Ab (fun h => Ac (by kernel_rfl) h) (Ab (fun h => Ac (by kernel_rfl) h) (Ab (fun _ => (.head _)) (Ab (fun h => Ac (by kernel_rfl) h) (Ab (fun _ => (.tail _ (.tail _ (.tail _ (.head _))))) (Ab (fun _ => (.tail _ (.tail _ (.head _)))) Al)))))))))) Al ?_
   refine BG Aa ?_
   refine CD F Aa Aa Aa Aa Aa Aa Aa fun a F => ?_
   refine AC (N2 := []) (NZ2 := []) (N3 := [(some 1, b4, [.int .i64 x5.un.1, .int .i64 x5.un.2.1, .int .i64 x5.un.2.2.1, v5]), (some 3, b1, [.int .i64 p0.un.1, .int .i64 p0.un.2.1, .int .i64 p0.un.2.2.1, v1]), (some 7, b4, [.int .i64 x5.un.1, .int .i64 x5.un.2.1, .int .i64 x5.un.2.2.1, v5]), (some 9, b1, [.int .i64 p0.un.1, .int .i64 p0.un.2.1, .int .i64 p0.un.2.2.1, v1]), (some 14, b4, [.int .i64 x5.un.1, .int .i64 x5.un.2.1, .int .i64 x5.un.2.2.1, v5]), (some 16, b1, [.int .i64 p0.un.1, .int .i64 p0.un.2.1, .int .i64 p0.un.2.2.1, v1]), (some 23, b4, [.int .i64 x5.un.1, .int .i64 x5.un.2.1, .int .i64 x5.un.2.2.1, v5]), (some 22, b2, [.int .i64 p1.un.1, .int .i64 p1.un.2.1, .int .i64 p1.un.2.2.1, v2]), (some 26, b1, [.int .i64 p0.un.1, .int .i64 p0.un.2.1, .int .i64 p0.un.2.2.1, v1]), (some 26, b2, [.int .i64 p1.un.1, .int .i64 p1.un.2.1, .int .i64 p1.un.2.2.1, v2])]) (NZ3 := []) W Aa Aa (Ab (fun h => Ac (by kernel_rfl) h) (Ab (fun h => Ac (by kernel_rfl) h) (Ab (fun h => Ac (by kernel_rfl) h) (Ab (fun h => Ac (by kernel_rfl) h) (Ab (fun h => Ac (by kernel_rfl) h) (Ab (fun h => Ac (by kernel_rfl) h) (Ab (fun h => Ac (by kernel_rfl) h) (Ab (fun h => Ac (by kernel_rfl) h) (Ab (fun _ => (.tail _ (.tail _ (.tail _ (.head _))))) (Ab (fun _ => (.tail _ (.tail _ (.head _)))) Al)))))))))) Al ?_
   refine BG Aa ?_
   refine CD F Aa Aa Aa Aa Aa Aa Aa fun a F => ?_
   refine AC (N2 := []) (NZ2 := []) (N3 := [(some 1, b4, [.int .i64 x5.un.1, .int .i64 x5.un.2.1, .int .i64 x5.un.2.2.1, v5]), (some 3, b1, [.int .i64 p0.un.1, .int .i64 p0.un.2.1, .int .i64 p0.un.2.2.1, v1]), (some 7, b4, [.int .i64 x5.un.1, .int .i64 x5.un.2.1, .int .i64 x5.un.2.2.1, v5]), (some 9, b1, [.int .i64 p0.un.1, .int .i64 p0.un.2.1, .int .i64 p0.un.2.2.1, v1]), (some 14, b4, [.int .i64 x5.un.1, .int .i64 x5.un.2.1, .int .i64 x5.un.2.2.1, v5]), (some 16, b1, [.int .i64 p0.un.1, .int .i64 p0.un.2.1, .int .i64 p0.un.2.2.1, v1]), (some 23, b4, [.int .i64 x5.un.1, .int .i64 x5.un.2.1, .int .i64 x5.un.2.2.1, v5]), (some 22, b2, [.int .i64 p1.un.1, .int .i64 p1.un.2.1, .int .i64 p1.un.2.2.1, v2]), (some 26, b1, [.int .i64 p0.un.1, .int .i64 p0.un.2.1, .int .i64 p0.un.2.2.1, v1]), (some 26, b2, [.int .i64 p1.un.1, .int .i64 p1.un.2.1, .int .i64 p1.un.2.2.1, v2])]) (NZ3 := []) W Aa Aa (Ab (fun h => Ac (by kernel_rfl) h) (Ab (fun h => Ac (by kernel_rfl) h) (Ab (fun h => Ac (by kernel_rfl) h) (Ab (fun h => Ac (by kernel_rfl) h) (Ab (fun h => Ac (by kernel_rfl) h) (Ab (fun h => Ac (by kernel_rfl) h) (Ab (fun h => Ac (by kernel_rfl) h) (Ab (fun h => Ac (by kernel_rfl) h) (Ab (fun h => Ac (by kernel_rfl) h) (Ab (fun h => Ac (by kernel_rfl) h) Al)))))))))) Al ?_
   refine BA F Aa (AH F Aa Aa Aa Aa Aa) Aa Aa Aa fun a F => ?_
   refine A6 (R := []) F Aa Aa (yC fun M Z hN hZ => Au F Aa Aa Aa) Aa Aa fun a F => ?_
   refine A6 (R := []) F Aa Aa (yC fun M Z hN hZ => Ai F Aa) Aa Aa fun a F => ?_
   iterate 8 refine BA F Aa (AH F Aa Aa Aa Aa Aa) Aa Aa Aa fun a F => ?_
   refine BG Aa ?_
   refine CD F Aa Aa Aa Aa Aa Aa Aa fun a F => ?_
   refine AC (N2 := []) (NZ2 := []) (N3 := [(some 1, b4, [.int .i64 x5.un.1, .int .i64 x5.un.2.1, .int .i64 x5.un.2.2.1, v5]), (some 3, b1, [.int .i64 p0.un.1, .int .i64 p0.un.2.1, .int .i64 p0.un.2.2.1, v1]), (some 7, b4, [.int .i64 x5.un.1, .int .i64 x5.un.2.1, .int .i64 x5.un.2.2.1, v5]), (some 9, b1, [.int .i64 p0.un.1, .int .i64 p0.un.2.1, .int .i64 p0.un.2.2.1, v1]), (some 14, b4, [.int .i64 x5.un.1, .int .i64 x5.un.2.1, .int .i64 x5.un.2.2.1, v5]), (some 16, b1, [.int .i64 p0.un.1, .int .i64 p0.un.2.1, .int .i64 p0.un.2.2.1, v1]), (some 23, b4, [.int .i64 x5.un.1, .int .i64 x5.un.2.1, .int .i64 x5.un.2.2.1, v5]), (some 22, b2, [.int .i64 p1.un.1, .int .i64 p1.un.2.1, .int .i64 p1.un.2.2.1, v2]), (some 26, b1, [.int .i64 p0.un.1, .int .i64 p0.un.2.1, .int .i64 p0.un.2.2.1, v1]), (some 26, b2, [.int .i64 p1.un.1, .int .i64 p1.un.2.1, .int .i64 p1.un.2.2.1, v2])]) (NZ3 := []) W Aa Aa (Ab (fun h => Ac (by kernel_rfl) h) (Ab (fun h => Ac (by kernel_rfl) h) (Ab (fun h => Ac (by kernel_rfl) h) (Ab (fun h => Ac (by kernel_rfl) h) (Ab (fun h => Ac (by kernel_rfl) h) (Ab (fun h => Ac (by kernel_rfl) h) (Ab (fun h => Ac (by kernel_rfl) h) (Ab (fun h => Ac (by kernel_rfl) h) (Ab (fun h => Ac (by kernel_rfl) h) (Ab (fun h => Ac (by kernel_rfl) h) Al)))))))))) Al ?_
   refine BG Aa ?_
   refine CD F Aa Aa Aa Aa Aa Aa Aa fun a F => ?_
   refine AC (N2 := []) (NZ2 := []) (N3 := [(some 1, b4, [.int .i64 x5.un.1, .int .i64 x5.un.2.1, .int .i64 x5.un.2.2.1, v5]), (some 3, b1, [.int .i64 p0.un.1, .int .i64 p0.un.2.1, .int .i64 p0.un.2.2.1, v1]), (some 7, b4, [.int .i64 x5.un.1, .int .i64 x5.un.2.1, .int .i64 x5.un.2.2.1, v5]), (some 9, b1, [.int .i64 p0.un.1, .int .i64 p0.un.2.1, .int .i64 p0.un.2.2.1, v1]), (some 14, b4, [.int .i64 x5.un.1, .int .i64 x5.un.2.1, .int .i64 x5.un.2.2.1, v5]), (some 16, b1, [.int .i64 p0.un.1, .int .i64 p0.un.2.1, .int .i64 p0.un.2.2.1, v1]), (some 23, b4, [.int .i64 x5.un.1, .int .i64 x5.un.2.1, .int .i64 x5.un.2.2.1, v5]), (some 22, b2, [.int .i64 p1.un.1, .int .i64 p1.un.2.1, .int .i64 p1.un.2.2.1, v2]), (some 26, b1, [.int .i64 p0.un.1, .int .i64 p0.un.2.1, .int .i64 p0.un.2.2.1, v1]), (some 26, b2, [.int .i64 p1.un.1, .int .i64 p1.un.2.1, .int .i64 p1.un.2.2.1, v2])]) (NZ3 := []) W Aa Aa (Ab (fun h => Ac (by kernel_rfl) h) (Ab (fun h => Ac (by kernel_rfl) h) (Ab (fun h => Ac (by kernel_rfl) h) (Ab (fun h => Ac (by kernel_rfl) h) (Ab (fun h => Ac (by kernel_rfl) h) (Ab (fun h => Ac (by kernel_rfl) h) (Ab (fun h => Ac (by kernel_rfl) h) (Ab (fun h => Ac (by kernel_rfl) h) (Ab (fun h => Ac (by kernel_rfl) h) (Ab (fun h => Ac (by kernel_rfl) h) Al)))))))))) Al ?_
   refine BA F Aa (AH F Aa Aa Aa Aa Aa) Aa Aa Aa fun a F => ?_
   refine A6 (R := []) F Aa Aa (yC fun M Z hN hZ => Au F Aa Aa Aa) Aa Aa fun a F => ?_
   refine A6 (R := []) F Aa Aa (yC fun M Z hN hZ => Ai F Aa) Aa Aa fun a F => ?_
   iterate 2 refine BA F Aa (AH F Aa Aa Aa Aa Aa) Aa Aa Aa fun a F => ?_
   refine BG Aa ?_
   refine CD F Aa Aa Aa Aa Aa Aa Aa fun a F => ?_
   refine AC (N2 := []) (NZ2 := []) (N3 := [(some 1, b4, [.int .i64 x5.un.1, .int .i64 x5.un.2.1, .int .i64 x5.un.2.2.1, v5]), (some 3, b1, [.int .i64 p0.un.1, .int .i64 p0.un.2.1, .int .i64 p0.un.2.2.1, v1]), (some 7, b4, [.int .i64 x5.un.1, .int .i64 x5.un.2.1, .int .i64 x5.un.2.2.1, v5]), (some 9, b1, [.int .i64 p0.un.1, .int .i64 p0.un.2.1, .int .i64 p0.un.2.2.1, v1]), (some 14, b4, [.int .i64 x5.un.1, .int .i64 x5.un.2.1, .int .i64 x5.un.2.2.1, v5]), (some 16, b1, [.int .i64 p0.un.1, .int .i64 p0.un.2.1, .int .i64 p0.un.2.2.1, v1]), (some 23, b4, [.int .i64 x5.un.1, .int .i64 x5.un.2.1, .int .i64 x5.un.2.2.1, v5]), (some 22, b2, [.int .i64 p1.un.1, .int .i64 p1.un.2.1, .int .i64 p1.un.2.2.1, v2]), (some 26, b1, [.int .i64 p0.un.1, .int .i64 p0.un.2.1, .int .i64 p0.un.2.2.1, v1]), (some 26, b2, [.int .i64 p1.un.1, .int .i64 p1.un.2.1, .int .i64 p1.un.2.2.1, v2])]) (NZ3 := []) W Aa Aa (Ab (fun h => Ac (by kernel_rfl) h) (Ab (fun h => Ac (by kernel_rfl) h) (Ab (fun h => Ac (by kernel_rfl) h) (Ab (fun h => Ac (by kernel_rfl) h) (Ab (fun h => Ac (by kernel_rfl) h) (Ab (fun h => Ac (by kernel_rfl) h) (Ab (fun h => Ac (by kernel_rfl) h) (Ab (fun h => Ac (by kernel_rfl) h) (Ab (fun h => Ac (by kernel_rfl) h) (Ab (fun h => Ac (by kernel_rfl) h) Al)))))))))) Al ?_
   refine BG Aa ?_
   refine CD F Aa Aa Aa Aa Aa Aa Aa fun a F => ?_
   refine AC (N2 := []) (NZ2 := []) (N3 := [(some 1, b4, [.int .i64 x5.un.1, .int .i64 x5.un.2.1, .int .i64 x5.un.2.2.1, v5]), (some 3, b1, [.int .i64 p0.un.1, .int .i64 p0.un.2.1, .int .i64 p0.un.2.2.1, v1]), (some 7, b4, [.int .i64 x5.un.1, .int .i64 x5.un.2.1, .int .i64 x5.un.2.2.1, v5]), (some 9, b1, [.int .i64 p0.un.1, .int .i64 p0.un.2.1, .int .i64 p0.un.2.2.1, v1]), (some 14, b4, [.int .i64 x5.un.1, .int .i64 x5.un.2.1, .int .i64 x5.un.2.2.1, v5]), (some 16, b1, [.int .i64 p0.un.1, .int .i64 p0.un.2.1, .int .i64 p0.un.2.2.1, v1]), (some 23, b4, [.int .i64 x5.un.1, .int .i64 x5.un.2.1, .int .i64 x5.un.2.2.1, v5]), (some 22, b2, [.int .i64 p1.un.1, .int .i64 p1.un.2.1, .int .i64 p1.un.2.2.1, v2]), (some 26, b1, [.int .i64 p0.un.1, .int .i64 p0.un.2.1, .int .i64 p0.un.2.2.1, v1]), (some 26, b2, [.int .i64 p1.un.1, .int .i64 p1.un.2.1, .int .i64 p1.un.2.2.1, v2])]) (NZ3 := []) W Aa Aa (Ab (fun h => Ac (by kernel_rfl) h) (Ab (fun h => Ac (by kernel_rfl) h) (Ab (fun h => Ac (by kernel_rfl) h) (Ab (fun h => Ac (by kernel_rfl) h) (Ab (fun h => Ac (by kernel_rfl) h) (Ab (fun h => Ac (by kernel_rfl) h) (Ab (fun h => Ac (by kernel_rfl) h) (Ab (fun h => Ac (by kernel_rfl) h) (Ab (fun h => Ac (by kernel_rfl) h) (Ab (fun h => Ac (by kernel_rfl) h) Al)))))))))) Al ?_
   refine BA F Aa (AH F Aa Aa Aa Aa Aa) Aa Aa Aa fun a F => ?_
   refine A6 (R := []) F Aa Aa (yC fun M Z hN hZ => Au F Aa Aa Aa) Aa Aa fun a F => ?_
   refine A6 (R := []) F Aa Aa (yC fun M Z hN hZ => Ai F Aa) Aa Aa fun a F => ?_
   iterate 8 refine BA F Aa (AH F Aa Aa Aa Aa Aa) Aa Aa Aa fun a F => ?_
   refine BG Aa ?_
   refine CD F Aa Aa Aa Aa Aa Aa Aa fun a F => ?_
   refine AC (N2 := []) (NZ2 := []) (N3 := [(some 1, b4, [.int .i64 x5.un.1, .int .i64 x5.un.2.1, .int .i64 x5.un.2.2.1, v5]), (some 3, b1, [.int .i64 p0.un.1, .int .i64 p0.un.2.1, .int .i64 p0.un.2.2.1, v1]), (some 7, b4, [.int .i64 x5.un.1, .int .i64 x5.un.2.1, .int .i64 x5.un.2.2.1, v5]), (some 9, b1, [.int .i64 p0.un.1, .int .i64 p0.un.2.1, .int .i64 p0.un.2.2.1, v1]), (some 14, b4, [.int .i64 x5.un.1, .int .i64 x5.un.2.1, .int .i64 x5.un.2.2.1, v5]), (some 16, b1, [.int .i64 p0.un.1, .int .i64 p0.un.2.1, .int .i64 p0.un.2.2.1, v1]), (some 23, b4, [.int .i64 x5.un.1, .int .i64 x5.un.2.1, .int .i64 x5.un.2.2.1, v5]), (some 22, b2, [.int .i64 p1.un.1, .int .i64 p1.un.2.1, .int .i64 p1.un.2.2.1, v2]), (some 26, b1, [.int .i64 p0.un.1, .int .i64 p0.un.2.1, .int .i64 p0.un.2.2.1, v1]), (some 26, b2, [.int .i64 p1.un.1, .int .i64 p1.un.2.1, .int .i64 p1.un.2.2.1, v2])]) (NZ3 := []) W Aa Aa (Ab (fun h => Ac (by kernel_rfl) h) (Ab (fun h => Ac (by kernel_rfl) h) (Ab (fun h => Ac (by kernel_rfl) h) (Ab (fun h => Ac (by kernel_rfl) h) (Ab (fun h => Ac (by kernel_rfl) h) (Ab (fun h => Ac (by kernel_rfl) h) (Ab (fun h => Ac (by kernel_rfl) h) (Ab (fun h => Ac (by kernel_rfl) h) (Ab (fun h => Ac (by kernel_rfl) h) (Ab (fun h => Ac (by kernel_rfl) h) Al)))))))))) Al ?_
   refine BG Aa ?_
   refine CD F Aa Aa Aa Aa Aa Aa Aa fun a F => ?_
   refine AC (N2 := []) (NZ2 := []) (N3 := [(some 1, b4, [.int .i64 x5.un.1, .int .i64 x5.un.2.1, .int .i64 x5.un.2.2.1, v5]), (some 3, b1, [.int .i64 p0.un.1, .int .i64 p0.un.2.1, .int .i64 p0.un.2.2.1, v1]), (some 7, b4, [.int .i64 x5.un.1, .int .i64 x5.un.2.1, .int .i64 x5.un.2.2.1, v5]), (some 9, b1, [.int .i64 p0.un.1, .int .i64 p0.un.2.1, .int .i64 p0.un.2.2.1, v1]), (some 14, b4, [.int .i64 x5.un.1, .int .i64 x5.un.2.1, .int .i64 x5.un.2.2.1, v5]), (some 16, b1, [.int .i64 p0.un.1, .int .i64 p0.un.2.1, .int .i64 p0.un.2.2.1, v1]), (some 23, b4, [.int .i64 x5.un.1, .int .i64 x5.un.2.1, .int .i64 x5.un.2.2.1, v5]), (some 22, b2, [.int .i64 p1.un.1, .int .i64 p1.un.2.1, .int .i64 p1.un.2.2.1, v2]), (some 26, b1, [.int .i64 p0.un.1, .int .i64 p0.un.2.1, .int .i64 p0.un.2.2.1, v1]), (some 26, b2, [.int .i64 p1.un.1, .int .i64 p1.un.2.1, .int .i64 p1.un.2.2.1, v2])]) (NZ3 := []) W Aa Aa (Ab (fun h => Ac (by kernel_rfl) h) (Ab (fun h => Ac (by kernel_rfl) h) (Ab (fun h => Ac (by kernel_rfl) h) (Ab (fun h => Ac (by kernel_rfl) h) (Ab (fun h => Ac (by kernel_rfl) h) (Ab (fun h => Ac (by kernel_rfl) h) (Ab (fun h => Ac (by kernel_rfl) h) (Ab (fun h => Ac (by kernel_rfl) h) (Ab (fun h => Ac (by kernel_rfl) h) (Ab (fun h => Ac (by kernel_rfl) h) Al)))))))))) Al ?_
   refine BA F Aa (AH F Aa Aa Aa Aa Aa) Aa Aa Aa fun a F => ?_
   refine A6 (R := []) F Aa Aa (yC fun M Z hN hZ => Au F Aa Aa Aa) Aa Aa fun a F => ?_
   refine DS (Ad ?_)
   have W := W.frontM (i := 3) Aa Aa
   have W := W.frontM (i := 3) Aa Aa
   have W := W.frontM (i := 3) Aa Aa
   have W := W.frontM (i := 3) Aa Aa
   exact ⟨_, H, F.re ⟨rfl, Aa, Aa, Aa, Aa, trivial⟩, W⟩
  have H := AX (Bl hb) H
  rw [hb] at F
  clear hb
  refine E9 (R := [23]) F Aa (Af F Aa Aa Aa Aa) Aa Aa (yC fun M Z hN hZ => B6 (cs := [.int .i64 x5.un.1, .int .i64 x5.un.2.1, .int .i64 x5.un.2.2.1, v5]) (v := Value.agg #[.int .i64 x5.un.1, .int .i64 x5.un.2.1, .int .i64 x5.un.2.2.1, v5]) F Aa (hN ((some 23), b4, [.int .i64 x5.un.1, .int .i64 x5.un.2.1, .int .i64 x5.un.2.2.1, v5]) (.tail _ (.tail _ (.tail _ (.tail _ (.tail _ (.tail _ (.head _))))))) Aa) EA Aa) (by kernel_rfl) Aa fun a F => ?_
  refine E9 (R := [22]) F Aa (Af F Aa Aa Aa Aa) Aa Aa (yC fun M Z hN hZ => B6 (cs := [.int .i64 p1.un.1, .int .i64 p1.un.2.1, .int .i64 p1.un.2.2.1, v2]) (v := Value.agg #[.int .i64 p1.un.1, .int .i64 p1.un.2.1, .int .i64 p1.un.2.2.1, v2]) F Aa (hN ((some 22), b2, [.int .i64 p1.un.1, .int .i64 p1.un.2.1, .int .i64 p1.un.2.2.1, v2]) (.tail _ (.tail _ (.tail _ (.tail _ (.tail _ (.tail _ (.tail _ (.head _)))))))) Aa) FC Aa) (by kernel_rfl) Aa fun a F => ?_
  refine E9 (R := [26]) F Aa (Af F Aa Aa Aa Aa) Aa Aa (yC fun M Z hN hZ => B6 (cs := [.int .i64 p0.un.1, .int .i64 p0.un.2.1, .int .i64 p0.un.2.2.1, v1]) (v := Value.agg #[.int .i64 p0.un.1, .int .i64 p0.un.2.1, .int .i64 p0.un.2.2.1, v1]) F Aa (hN ((some 26), b1, [.int .i64 p0.un.1, .int .i64 p0.un.2.1, .int .i64 p0.un.2.2.1, v1]) (.tail _ (.tail _ (.tail _ (.tail _ (.tail _ (.tail _ (.tail _ (.tail _ (.head _))))))))) Aa) FC Aa) (by kernel_rfl) Aa fun a F => ?_
  refine E9 (R := [26]) F Aa (Af F Aa Aa Aa Aa) Aa Aa (yC fun M Z hN hZ => B6 (cs := [.int .i64 p1.un.1, .int .i64 p1.un.2.1, .int .i64 p1.un.2.2.1, v2]) (v := Value.agg #[.int .i64 p1.un.1, .int .i64 p1.un.2.1, .int .i64 p1.un.2.2.1, v2]) F Aa (hN ((some 26), b2, [.int .i64 p1.un.1, .int .i64 p1.un.2.1, .int .i64 p1.un.2.2.1, v2]) (.tail _ (.tail _ (.tail _ (.tail _ (.tail _ (.tail _ (.tail _ (.tail _ (.tail _ (.head _)))))))))) Aa) FC Aa) (by kernel_rfl) Aa fun a F => ?_
  refine BG Aa ?_
  refine Fv (Af F Aa Aa Aa Aa) ?_
  obtain ⟨x13, h13, H⟩ := Am H
  refine BD (Ml := []) (Zl := []) (M := [(b4, [.int .i64 x5.un.1, .int .i64 x5.un.2.1, .int .i64 x5.un.2.2.1, v5]), (b3, [.int .i64 p4.1, .int .i64 p4.2.1, .int .i64 p4.2.2.1, .int .i64 p4.2.2.2]), (b2, [.int .i64 p1.un.1, .int .i64 p1.un.2.1, .int .i64 p1.un.2.2.1, v2]), (b1, [.int .i64 p0.un.1, .int .i64 p0.un.2.1, .int .i64 p0.un.2.2.1, v1])]) (Z := [row v5 31 BJ x5.un.2.2.2]) (β := Value) (rv := fun x => .agg #[.int .i64 x13.un.1, .int .i64 x13.un.2.1, .int .i64 x13.un.2.2.1, x]) (MM := fun x => []) (ZZ := fun x => [row x 31 BJ x13.un.2.2.2]) F W H7 Aa Aa (fun hL => Lj _ w (v2) p1 _ h13 ((AP C7 h2 (Av h_v2)) w W).nx) fun x a w F W => ?_
  obtain ⟨v6, rfl⟩ : ∃ y, y = x := ⟨x, rfl⟩
  have W : Stw ⟨Y, [], w0⟩ [(b4, [.int .i64 x5.un.1, .int .i64 x5.un.2.1, .int .i64 x5.un.2.2.1, v5]), (b3, [.int .i64 p4.1, .int .i64 p4.2.1, .int .i64 p4.2.2.1, .int .i64 p4.2.2.2]), (b2, [.int .i64 p1.un.1, .int .i64 p1.un.2.1, .int .i64 p1.un.2.2.1, v2]), (b1, [.int .i64 p0.un.1, .int .i64 p0.un.2.1, .int .i64 p0.un.2.2.1, v1])] [row v6 31 BJ x13.un.2.2.2, row v5 31 BJ x5.un.2.2.2] w := W
  refine AC (N2 := []) (NZ2 := []) (N3 := [(some 1, b4, [.int .i64 x5.un.1, .int .i64 x5.un.2.1, .int .i64 x5.un.2.2.1, v5]), (some 3, b1, [.int .i64 p0.un.1, .int .i64 p0.un.2.1, .int .i64 p0.un.2.2.1, v1]), (some 7, b4, [.int .i64 x5.un.1, .int .i64 x5.un.2.1, .int .i64 x5.un.2.2.1, v5]), (some 9, b1, [.int .i64 p0.un.1, .int .i64 p0.un.2.1, .int .i64 p0.un.2.2.1, v1]), (some 14, b4, [.int .i64 x5.un.1, .int .i64 x5.un.2.1, .int .i64 x5.un.2.2.1, v5]), (some 16, b1, [.int .i64 p0.un.1, .int .i64 p0.un.2.1, .int .i64 p0.un.2.2.1, v1]), (some 23, b4, [.int .i64 x5.un.1, .int .i64 x5.un.2.1, .int .i64 x5.un.2.2.1, v5]), (some 22, b2, [.int .i64 p1.un.1, .int .i64 p1.un.2.1, .int .i64 p1.un.2.2.1, v2]), (some 26, b1, [.int .i64 p0.un.1, .int .i64 p0.un.2.1, .int .i64 p0.un.2.2.1, v1]), (some 26, b2, [.int .i64 p1.un.1, .int .i64 p1.un.2.1, .int .i64 p1.un.2.2.1, v2])]) (NZ3 := []) W Aa Aa (Ab (fun h => Ac (by kernel_rfl) h) (Ab (fun h => Ac (by kernel_rfl) h) (Ab (fun h => Ac (by kernel_rfl) h) (Ab (fun h => Ac (by kernel_rfl) h) (Ab (fun h => Ac (by kernel_rfl) h) (Ab (fun h => Ac (by kernel_rfl) h) (Ab (fun _ => (.head _)) (Ab (fun h => Ac (by kernel_rfl) h) (Ab (fun _ => (.tail _ (.tail _ (.tail _ (.head _))))) (Ab (fun _ => (.tail _ (.tail _ (.head _)))) Al)))))))))) Al ?_
  refine BG Aa ?_
  refine Fv (Af F Aa Aa Aa Aa) ?_
  obtain ⟨x14, h14, H⟩ := Am H
  refine ls F W Aa (AU (v := Value.bool x14) F SE Aa (fun w W => Ni any w (v5) (v6) x5 x13 _ h14 (((Ap 1 Aa) : EC _ _ _ _ _ _) w W).nx (((Ap 0 Aa) : EC _ _ _ _ _ _) w W).nx)) fun a w F W => ?_
  refine AC (N2 := []) (NZ2 := []) (N3 := [(some 1, b4, [.int .i64 x5.un.1, .int .i64 x5.un.2.1, .int .i64 x5.un.2.2.1, v5]), (some 3, b1, [.int .i64 p0.un.1, .int .i64 p0.un.2.1, .int .i64 p0.un.2.2.1, v1]), (some 7, b4, [.int .i64 x5.un.1, .int .i64 x5.un.2.1, .int .i64 x5.un.2.2.1, v5]), (some 9, b1, [.int .i64 p0.un.1, .int .i64 p0.un.2.1, .int .i64 p0.un.2.2.1, v1]), (some 14, b4, [.int .i64 x5.un.1, .int .i64 x5.un.2.1, .int .i64 x5.un.2.2.1, v5]), (some 16, b1, [.int .i64 p0.un.1, .int .i64 p0.un.2.1, .int .i64 p0.un.2.2.1, v1]), (some 23, b4, [.int .i64 x5.un.1, .int .i64 x5.un.2.1, .int .i64 x5.un.2.2.1, v5]), (some 22, b2, [.int .i64 p1.un.1, .int .i64 p1.un.2.1, .int .i64 p1.un.2.2.1, v2]), (some 26, b1, [.int .i64 p0.un.1, .int .i64 p0.un.2.1, .int .i64 p0.un.2.2.1, v1]), (some 26, b2, [.int .i64 p1.un.1, .int .i64 p1.un.2.1, .int .i64 p1.un.2.2.1, v2])]) (NZ3 := []) W Aa Aa (Ab (fun h => Ac (by kernel_rfl) h) (Ab (fun h => Ac (by kernel_rfl) h) (Ab (fun h => Ac (by kernel_rfl) h) (Ab (fun h => Ac (by kernel_rfl) h) (Ab (fun h => Ac (by kernel_rfl) h) (Ab (fun h => Ac (by kernel_rfl) h) (Ab (fun h => Ac (by kernel_rfl) h) (Ab (fun h => Ac (by kernel_rfl) h) (Ab (fun _ => (.tail _ (.tail _ (.tail _ (.head _))))) (Ab (fun _ => (.tail _ (.tail _ (.head _)))) Al)))))))))) Al ?_
  refine BG Aa ?_
  refine Fv (Af F Aa Aa Aa Aa) ?_
  obtain ⟨x15, h15, H⟩ := Am H
  refine ls F W Aa (AU (v := Value.bool x15) F Ss Aa (fun w W => Kp any w (v1) (v2) p0 p1 _ h15 (((AP C7 h1 (Av h_v1)) : EC _ _ _ _ _ _) w W).nx (((AP C7 h2 (Av h_v2)) : EC _ _ _ _ _ _) w W).nx)) fun a w F W => ?_
  refine AC (N2 := [(some 34, b4, [.int .i64 x5.un.1, .int .i64 x5.un.2.1, .int .i64 x5.un.2.2.1, v5]), (some 34, b3, [.int .i64 p4.1, .int .i64 p4.2.1, .int .i64 p4.2.2.1, .int .i64 p4.2.2.2]), (some 39, b1, [.int .i64 p0.un.1, .int .i64 p0.un.2.1, .int .i64 p0.un.2.2.1, v1]), (some 39, b3, [.int .i64 p4.1, .int .i64 p4.2.1, .int .i64 p4.2.2.1, .int .i64 p4.2.2.2])]) (NZ2 := []) (N3 := [(some 1, b4, [.int .i64 x5.un.1, .int .i64 x5.un.2.1, .int .i64 x5.un.2.2.1, v5]), (some 3, b1, [.int .i64 p0.un.1, .int .i64 p0.un.2.1, .int .i64 p0.un.2.2.1, v1]), (some 7, b4, [.int .i64 x5.un.1, .int .i64 x5.un.2.1, .int .i64 x5.un.2.2.1, v5]), (some 9, b1, [.int .i64 p0.un.1, .int .i64 p0.un.2.1, .int .i64 p0.un.2.2.1, v1]), (some 14, b4, [.int .i64 x5.un.1, .int .i64 x5.un.2.1, .int .i64 x5.un.2.2.1, v5]), (some 16, b1, [.int .i64 p0.un.1, .int .i64 p0.un.2.1, .int .i64 p0.un.2.2.1, v1]), (some 23, b4, [.int .i64 x5.un.1, .int .i64 x5.un.2.1, .int .i64 x5.un.2.2.1, v5]), (some 22, b2, [.int .i64 p1.un.1, .int .i64 p1.un.2.1, .int .i64 p1.un.2.2.1, v2]), (some 26, b1, [.int .i64 p0.un.1, .int .i64 p0.un.2.1, .int .i64 p0.un.2.2.1, v1]), (some 26, b2, [.int .i64 p1.un.1, .int .i64 p1.un.2.1, .int .i64 p1.un.2.2.1, v2]), (some 34, b4, [.int .i64 x5.un.1, .int .i64 x5.un.2.1, .int .i64 x5.un.2.2.1, v5]), (some 34, b3, [.int .i64 p4.1, .int .i64 p4.2.1, .int .i64 p4.2.2.1, .int .i64 p4.2.2.2]), (some 39, b1, [.int .i64 p0.un.1, .int .i64 p0.un.2.1, .int .i64 p0.un.2.2.1, v1]), (some 39, b3, [.int .i64 p4.1, .int .i64 p4.2.1, .int .i64 p4.2.2.1, .int .i64 p4.2.2.2])]) (NZ3 := []) W Aa Aa (Ab (fun h => Ac (by kernel_rfl) h) (Ab (fun h => Ac (by kernel_rfl) h) (Ab (fun h => Ac (by kernel_rfl) h) (Ab (fun h => Ac (by kernel_rfl) h) (Ab (fun h => Ac (by kernel_rfl) h) (Ab (fun h => Ac (by kernel_rfl) h) (Ab (fun h => Ac (by kernel_rfl) h) (Ab (fun h => Ac (by kernel_rfl) h) (Ab (fun h => Ac (by kernel_rfl) h) (Ab (fun h => Ac (by kernel_rfl) h) (Ab (fun _ => (.head _)) (Ab (fun _ => (.tail _ (.head _))) (Ab (fun _ => (.tail _ (.tail _ (.tail _ (.head _))))) (Ab (fun _ => (.tail _ (.head _))) Al)))))))))))))) Al ?_
  refine E9 (R := []) F Aa (Af F Aa Aa Aa Aa) Aa Aa (yC fun M Z hN hZ => PY Se F Aa Aa) Aa Aa fun a F => ?_
  refine A6 (R := []) F Aa Aa (yC fun M Z hN hZ => As F Aa Aa Aa) Aa Aa fun a F => ?_
  refine A6 (R := []) F Aa Aa (yC fun M Z hN hZ => Ai F Aa) Aa Aa fun a F => ?_
  rcases Bool.eq_false_or_eq_true (decide (x14 ≠ x15)) with hb | hb
  ·
   have H := AW (Bm hb) H
   rw [hb] at F
   clear hb
   iterate 8 refine BA F Aa (AH F Aa Aa Aa Aa Aa) Aa Aa Aa fun a F => ?_
   refine BG Aa ?_
   refine CD F Aa Aa Aa Aa Aa Aa Aa fun a F => ?_
   refine AC (N2 := []) (NZ2 := []) (N3 := [(some 1, b4, [.int .i64 x5.un.1, .int .i64 x5.un.2.1, .int .i64 x5.un.2.2.1, v5]), (some 3, b1, [.int .i64 p0.un.1, .int .i64 p0.un.2.1, .int .i64 p0.un.2.2.1, v1]), (some 7, b4, [.int .i64 x5.un.1, .int .i64 x5.un.2.1, .int .i64 x5.un.2.2.1, v5]), (some 9, b1, [.int .i64 p0.un.1, .int .i64 p0.un.2.1, .int .i64 p0.un.2.2.1, v1]), (some 14, b4, [.int .i64 x5.un.1, .int .i64 x5.un.2.1, .int .i64 x5.un.2.2.1, v5]), (some 16, b1, [.int .i64 p0.un.1, .int .i64 p0.un.2.1, .int .i64 p0.un.2.2.1, v1]), (some 23, b4, [.int .i64 x5.un.1, .int .i64 x5.un.2.1, .int .i64 x5.un.2.2.1, v5]), (some 22, b2, [.int .i64 p1.un.1, .int .i64 p1.un.2.1, .int .i64 p1.un.2.2.1, v2]), (some 26, b1, [.int .i64 p0.un.1, .int .i64 p0.un.2.1, .int .i64 p0.un.2.2.1, v1]), (some 26, b2, [.int .i64 p1.un.1, .int .i64 p1.un.2.1, .int .i64 p1.un.2.2.1, v2]), (some 34, b4, [.int .i64 x5.un.1, .int .i64 x5.un.2.1, .int .i64 x5.un.2.2.1, v5]), (some 34, b3, [.int .i64 p4.1, .int .i64 p4.2.1, .int .i64 p4.2.2.1, .int .i64 p4.2.2.2]), (some 39, b1, [.int .i64 p0.un.1, .int .i64 p0.un.2.1, .int .i64 p0.un.2.2.1, v1]), (some 39, b3, [.int .i64 p4.1, .int .i64 p4.2.1, .int .i64 p4.2.2.1, .int .i64 p4.2.2.2])]) (NZ3 := []) W Aa Aa (Ab (fun h => Ac (by kernel_rfl) h) (Ab (fun h => Ac (by kernel_rfl) h) (Ab (fun h => Ac (by kernel_rfl) h) (Ab (fun h => Ac (by kernel_rfl) h) (Ab (fun h => Ac (by kernel_rfl) h) (Ab (fun h => Ac (by kernel_rfl) h) (Ab (fun h => Ac (by kernel_rfl) h) (Ab (fun h => Ac (by kernel_rfl) h) (Ab (fun h => Ac (by kernel_rfl) h) (Ab (fun h => Ac (by kernel_rfl) h) (Ab (fun h => Ac (by kernel_rfl) h) (Ab (fun h => Ac (by kernel_rfl) h) (Ab (fun _ => (.tail _ (.tail _ (.tail _ (.head _))))) (Ab (fun _ => (.tail _ (.head _))) Al)))))))))))))) Al ?_
   refine BG Aa ?_
   refine CD F Aa Aa Aa Aa Aa Aa Aa fun a F => ?_
   refine AC (N2 := []) (NZ2 := []) (N3 := [(some 1, b4, [.int .i64 x5.un.1, .int .i64 x5.un.2.1, .int .i64 x5.un.2.2.1, v5]), (some 3, b1, [.int .i64 p0.un.1, .int .i64 p0.un.2.1, .int .i64 p0.un.2.2.1, v1]), (some 7, b4, [.int .i64 x5.un.1, .int .i64 x5.un.2.1, .int .i64 x5.un.2.2.1, v5]), (some 9, b1, [.int .i64 p0.un.1, .int .i64 p0.un.2.1, .int .i64 p0.un.2.2.1, v1]), (some 14, b4, [.int .i64 x5.un.1, .int .i64 x5.un.2.1, .int .i64 x5.un.2.2.1, v5]), (some 16, b1, [.int .i64 p0.un.1, .int .i64 p0.un.2.1, .int .i64 p0.un.2.2.1, v1]), (some 23, b4, [.int .i64 x5.un.1, .int .i64 x5.un.2.1, .int .i64 x5.un.2.2.1, v5]), (some 22, b2, [.int .i64 p1.un.1, .int .i64 p1.un.2.1, .int .i64 p1.un.2.2.1, v2]), (some 26, b1, [.int .i64 p0.un.1, .int .i64 p0.un.2.1, .int .i64 p0.un.2.2.1, v1]), (some 26, b2, [.int .i64 p1.un.1, .int .i64 p1.un.2.1, .int .i64 p1.un.2.2.1, v2]), (some 34, b4, [.int .i64 x5.un.1, .int .i64 x5.un.2.1, .int .i64 x5.un.2.2.1, v5]), (some 34, b3, [.int .i64 p4.1, .int .i64 p4.2.1, .int .i64 p4.2.2.1, .int .i64 p4.2.2.2]), (some 39, b1, [.int .i64 p0.un.1, .int .i64 p0.un.2.1, .int .i64 p0.un.2.2.1, v1]), (some 39, b3, [.int .i64 p4.1, .int .i64 p4.2.1, .int .i64 p4.2.2.1, .int .i64 p4.2.2.2])]) (NZ3 := []) W Aa Aa (Ab (fun h => Ac (by kernel_rfl) h) (Ab (fun h => Ac (by kernel_rfl) h) (Ab (fun h => Ac (by kernel_rfl) h) (Ab (fun h => Ac (by kernel_rfl) h) (Ab (fun h => Ac (by kernel_rfl) h) (Ab (fun h => Ac (by kernel_rfl) h) (Ab (fun h => Ac (by kernel_rfl) h) (Ab (fun h => Ac (by kernel_rfl) h) (Ab (fun h => Ac (by kernel_rfl) h) (Ab (fun h => Ac (by kernel_rfl) h) (Ab (fun h => Ac (by kernel_rfl) h) (Ab (fun h => Ac (by kernel_rfl) h) (Ab (fun h => Ac (by kernel_rfl) h) (Ab (fun h => Ac (by kernel_rfl) h) Al)))))))))))))) Al ?_
   refine BA F Aa (AH F Aa Aa Aa Aa Aa) Aa Aa Aa fun a F => ?_
   refine A6 (R := []) F Aa Aa (yC fun M Z hN hZ => Au F Aa Aa Aa) Aa Aa fun a F => ?_
   refine A6 (R := []) F Aa Aa (yC fun M Z hN hZ => Ai F Aa) Aa Aa fun a F => ?_
   iterate 2 refine BA F Aa (AH F Aa Aa Aa Aa Aa) Aa Aa Aa fun a F => ?_
   refine BG Aa ?_
   refine CD F Aa Aa Aa Aa Aa Aa Aa fun a F => ?_
   refine AC (N2 := []) (NZ2 := []) (N3 := [(some 1, b4, [.int .i64 x5.un.1, .int .i64 x5.un.2.1, .int .i64 x5.un.2.2.1, v5]), (some 3, b1, [.int .i64 p0.un.1, .int .i64 p0.un.2.1, .int .i64 p0.un.2.2.1, v1]), (some 7, b4, [.int .i64 x5.un.1, .int .i64 x5.un.2.1, .int .i64 x5.un.2.2.1, v5]), (some 9, b1, [.int .i64 p0.un.1, .int .i64 p0.un.2.1, .int .i64 p0.un.2.2.1, v1]), (some 14, b4, [.int .i64 x5.un.1, .int .i64 x5.un.2.1, .int .i64 x5.un.2.2.1, v5]), (some 16, b1, [.int .i64 p0.un.1, .int .i64 p0.un.2.1, .int .i64 p0.un.2.2.1, v1]), (some 23, b4, [.int .i64 x5.un.1, .int .i64 x5.un.2.1, .int .i64 x5.un.2.2.1, v5]), (some 22, b2, [.int .i64 p1.un.1, .int .i64 p1.un.2.1, .int .i64 p1.un.2.2.1, v2]), (some 26, b1, [.int .i64 p0.un.1, .int .i64 p0.un.2.1, .int .i64 p0.un.2.2.1, v1]), (some 26, b2, [.int .i64 p1.un.1, .int .i64 p1.un.2.1, .int .i64 p1.un.2.2.1, v2]), (some 34, b4, [.int .i64 x5.un.1, .int .i64 x5.un.2.1, .int .i64 x5.un.2.2.1, v5]), (some 34, b3, [.int .i64 p4.1, .int .i64 p4.2.1, .int .i64 p4.2.2.1, .int .i64 p4.2.2.2]), (some 39, b1, [.int .i64 p0.un.1, .int .i64 p0.un.2.1, .int .i64 p0.un.2.2.1, v1]), (some 39, b3, [.int .i64 p4.1, .int .i64 p4.2.1, .int .i64 p4.2.2.1, .int .i64 p4.2.2.2])]) (NZ3 := []) W Aa Aa (Ab (fun h => Ac (by kernel_rfl) h) (Ab (fun h => Ac (by kernel_rfl) h) (Ab (fun h => Ac (by kernel_rfl) h) (Ab (fun h => Ac (by kernel_rfl) h) (Ab (fun h => Ac (by kernel_rfl) h) (Ab (fun h => Ac (by kernel_rfl) h) (Ab (fun h => Ac (by kernel_rfl) h) (Ab (fun h => Ac (by kernel_rfl) h) (Ab (fun h => Ac (by kernel_rfl) h) (Ab (fun h => Ac (by kernel_rfl) h) (Ab (fun h => Ac (by kernel_rfl) h) (Ab (fun h => Ac (by kernel_rfl) h) (Ab (fun h => Ac (by kernel_rfl) h) (Ab (fun h => Ac (by kernel_rfl) h) Al)))))))))))))) Al ?_
   refine BG Aa ?_
   refine CD F Aa Aa Aa Aa Aa Aa Aa fun a F => ?_
   refine AC (N2 := []) (NZ2 := []) (N3 := [(some 1, b4, [.int .i64 x5.un.1, .int .i64 x5.un.2.1, .int .i64 x5.un.2.2.1, v5]), (some 3, b1, [.int .i64 p0.un.1, .int .i64 p0.un.2.1, .int .i64 p0.un.2.2.1, v1]), (some 7, b4, [.int .i64 x5.un.1, .int .i64 x5.un.2.1, .int .i64 x5.un.2.2.1, v5]), (some 9, b1, [.int .i64 p0.un.1, .int .i64 p0.un.2.1, .int .i64 p0.un.2.2.1, v1]), (some 14, b4, [.int .i64 x5.un.1, .int .i64 x5.un.2.1, .int .i64 x5.un.2.2.1, v5]), (some 16, b1, [.int .i64 p0.un.1, .int .i64 p0.un.2.1, .int .i64 p0.un.2.2.1, v1]), (some 23, b4, [.int .i64 x5.un.1, .int .i64 x5.un.2.1, .int .i64 x5.un.2.2.1, v5]), (some 22, b2, [.int .i64 p1.un.1, .int .i64 p1.un.2.1, .int .i64 p1.un.2.2.1, v2]), (some 26, b1, [.int .i64 p0.un.1, .int .i64 p0.un.2.1, .int .i64 p0.un.2.2.1, v1]), (some 26, b2, [.int .i64 p1.un.1, .int .i64 p1.un.2.1, .int .i64 p1.un.2.2.1, v2]), (some 34, b4, [.int .i64 x5.un.1, .int .i64 x5.un.2.1, .int .i64 x5.un.2.2.1, v5]), (some 34, b3, [.int .i64 p4.1, .int .i64 p4.2.1, .int .i64 p4.2.2.1, .int .i64 p4.2.2.2]), (some 39, b1, [.int .i64 p0.un.1, .int .i64 p0.un.2.1, .int .i64 p0.un.2.2.1, v1]), (some 39, b3, [.int .i64 p4.1, .int .i64 p4.2.1, .int .i64 p4.2.2.1, .int .i64 p4.2.2.2])]) (NZ3 := []) W Aa Aa (Ab (fun h => Ac (by kernel_rfl) h) (Ab (fun h => Ac (by kernel_rfl) h) (Ab (fun h => Ac (by kernel_rfl) h) (Ab (fun h => Ac (by kernel_rfl) h) (Ab (fun h => Ac (by kernel_rfl) h) (Ab (fun h => Ac (by kernel_rfl) h) (Ab (fun h => Ac (by kernel_rfl) h) (Ab (fun h => Ac (by kernel_rfl) h) (Ab (fun h => Ac (by kernel_rfl) h) (Ab (fun h => Ac (by kernel_rfl) h) (Ab (fun h => Ac (by kernel_rfl) h) (Ab (fun h => Ac (by kernel_rfl) h) (Ab (fun h => Ac (by kernel_rfl) h) (Ab (fun h => Ac (by kernel_rfl) h) Al)))))))))))))) Al ?_
   refine BA F Aa (AH F Aa Aa Aa Aa Aa) Aa Aa Aa fun a F => ?_
   refine A6 (R := []) F Aa Aa (yC fun M Z hN hZ => Au F Aa Aa Aa) Aa Aa fun a F => ?_
   refine A6 (R := []) F Aa Aa (yC fun M Z hN hZ => Ai F Aa) Aa Aa fun a F => ?_
   iterate 8 refine BA F Aa (AH F Aa Aa Aa Aa Aa) Aa Aa Aa fun a F => ?_
   refine BG Aa ?_
   refine CD F Aa Aa Aa Aa Aa Aa Aa fun a F => ?_
   refine AC (N2 := []) (NZ2 := []) (N3 := [(some 1, b4, [.int .i64 x5.un.1, .int .i64 x5.un.2.1, .int .i64 x5.un.2.2.1, v5]), (some 3, b1, [.int .i64 p0.un.1, .int .i64 p0.un.2.1, .int .i64 p0.un.2.2.1, v1]), (some 7, b4, [.int .i64 x5.un.1, .int .i64 x5.un.2.1, .int .i64 x5.un.2.2.1, v5]), (some 9, b1, [.int .i64 p0.un.1, .int .i64 p0.un.2.1, .int .i64 p0.un.2.2.1, v1]), (some 14, b4, [.int .i64 x5.un.1, .int .i64 x5.un.2.1, .int .i64 x5.un.2.2.1, v5]), (some 16, b1, [.int .i64 p0.un.1, .int .i64 p0.un.2.1, .int .i64 p0.un.2.2.1, v1]), (some 23, b4, [.int .i64 x5.un.1, .int .i64 x5.un.2.1, .int .i64 x5.un.2.2.1, v5]), (some 22, b2, [.int .i64 p1.un.1, .int .i64 p1.un.2.1, .int .i64 p1.un.2.2.1, v2]), (some 26, b1, [.int .i64 p0.un.1, .int .i64 p0.un.2.1, .int .i64 p0.un.2.2.1, v1]), (some 26, b2, [.int .i64 p1.un.1, .int .i64 p1.un.2.1, .int .i64 p1.un.2.2.1, v2]), (some 34, b4, [.int .i64 x5.un.1, .int .i64 x5.un.2.1, .int .i64 x5.un.2.2.1, v5]), (some 34, b3, [.int .i64 p4.1, .int .i64 p4.2.1, .int .i64 p4.2.2.1, .int .i64 p4.2.2.2]), (some 39, b1, [.int .i64 p0.un.1, .int .i64 p0.un.2.1, .int .i64 p0.un.2.2.1, v1]), (some 39, b3, [.int .i64 p4.1, .int .i64 p4.2.1, .int .i64 p4.2.2.1, .int .i64 p4.2.2.2])]) (NZ3 := []) W Aa Aa (Ab (fun h => Ac (by kernel_rfl) h) (Ab (fun h => Ac (by kernel_rfl) h) (Ab (fun h => Ac (by kernel_rfl) h) (Ab (fun h => Ac (by kernel_rfl) h) (Ab (fun h => Ac (by kernel_rfl) h) (Ab (fun h => Ac (by kernel_rfl) h) (Ab (fun h => Ac (by kernel_rfl) h) (Ab (fun h => Ac (by kernel_rfl) h) (Ab (fun h => Ac (by kernel_rfl) h) (Ab (fun h => Ac (by kernel_rfl) h) (Ab (fun h => Ac (by kernel_rfl) h) (Ab (fun h => Ac (by kernel_rfl) h) (Ab (fun h => Ac (by kernel_rfl) h) (Ab (fun h => Ac (by kernel_rfl) h) Al)))))))))))))) Al ?_
   refine BG Aa ?_
   refine CD F Aa Aa Aa Aa Aa Aa Aa fun a F => ?_
   refine AC (N2 := []) (NZ2 := []) (N3 := [(some 1, b4, [.int .i64 x5.un.1, .int .i64 x5.un.2.1, .int .i64 x5.un.2.2.1, v5]), (some 3, b1, [.int .i64 p0.un.1, .int .i64 p0.un.2.1, .int .i64 p0.un.2.2.1, v1]), (some 7, b4, [.int .i64 x5.un.1, .int .i64 x5.un.2.1, .int .i64 x5.un.2.2.1, v5]), (some 9, b1, [.int .i64 p0.un.1, .int .i64 p0.un.2.1, .int .i64 p0.un.2.2.1, v1]), (some 14, b4, [.int .i64 x5.un.1, .int .i64 x5.un.2.1, .int .i64 x5.un.2.2.1, v5]), (some 16, b1, [.int .i64 p0.un.1, .int .i64 p0.un.2.1, .int .i64 p0.un.2.2.1, v1]), (some 23, b4, [.int .i64 x5.un.1, .int .i64 x5.un.2.1, .int .i64 x5.un.2.2.1, v5]), (some 22, b2, [.int .i64 p1.un.1, .int .i64 p1.un.2.1, .int .i64 p1.un.2.2.1, v2]), (some 26, b1, [.int .i64 p0.un.1, .int .i64 p0.un.2.1, .int .i64 p0.un.2.2.1, v1]), (some 26, b2, [.int .i64 p1.un.1, .int .i64 p1.un.2.1, .int .i64 p1.un.2.2.1, v2]), (some 34, b4, [.int .i64 x5.un.1, .int .i64 x5.un.2.1, .int .i64 x5.un.2.2.1, v5]), (some 34, b3, [.int .i64 p4.1, .int .i64 p4.2.1, .int .i64 p4.2.2.1, .int .i64 p4.2.2.2]), (some 39, b1, [.int .i64 p0.un.1, .int .i64 p0.un.2.1, .int .i64 p0.un.2.2.1, v1]), (some 39, b3, [.int .i64 p4.1, .int .i64 p4.2.1, .int .i64 p4.2.2.1, .int .i64 p4.2.2.2])]) (NZ3 := []) W Aa Aa (Ab (fun h => Ac (by kernel_rfl) h) (Ab (fun h => Ac (by kernel_rfl) h) (Ab (fun h => Ac (by kernel_rfl) h) (Ab (fun h => Ac (by kernel_rfl) h) (Ab (fun h => Ac (by kernel_rfl) h) (Ab (fun h => Ac (by kernel_rfl) h) (Ab (fun h => Ac (by kernel_rfl) h) (Ab (fun h => Ac (by kernel_rfl) h) (Ab (fun h => Ac (by kernel_rfl) h) (Ab (fun h => Ac (by kernel_rfl) h) (Ab (fun h => Ac (by kernel_rfl) h) (Ab (fun h => Ac (by kernel_rfl) h) (Ab (fun h => Ac (by kernel_rfl) h) (Ab (fun h => Ac (by kernel_rfl) h) Al)))))))))))))) Al ?_
   refine BA F Aa (AH F Aa Aa Aa Aa Aa) Aa Aa Aa fun a F => ?_
   refine A6 (R := []) F Aa Aa (yC fun M Z hN hZ => Au F Aa Aa Aa) Aa Aa fun a F => ?_
   refine DS (Ad ?_)
   have W := W.frontZ (i := 1) Aa Aa
   have W := W.frontM (i := 3) Aa Aa
   have W := W.frontM (i := 3) Aa Aa
   have W := W.frontM (i := 3) Aa Aa
   have W := W.frontM (i := 3) Aa Aa
   have W := W.sub (M' := [(b4, [.int .i64 x5.un.1, .int .i64 x5.un.2.1, .int .i64 x5.un.2.2.1, v5]), (b3, [.int .i64 p4.1, .int .i64 p4.2.1, .int .i64 p4.2.2.1, .int .i64 p4.2.2.2]), (b2, [.int .i64 p1.un.1, .int .i64 p1.un.2.1, .int .i64 p1.un.2.2.1, v2]), (b1, [.int .i64 p0.un.1, .int .i64 p0.un.2.1, .int .i64 p0.un.2.2.1, v1])]) (Z' := [row v5 31 BJ x5.un.2.2.2]) (List.Sublist.refl _) (List.Sublist.cons_cons _ (List.nil_sublist _))
   exact ⟨_, H, F.re ⟨rfl, Aa, Aa, Aa, Aa, trivial⟩, W⟩
  have H := AX (Bl hb) H
  rw [hb] at F
  clear hb
  refine E9 (R := [34]) F Aa (Af F Aa Aa Aa Aa) Aa Aa (yC fun M Z hN hZ => B6 (cs := [.int .i64 x5.un.1, .int .i64 x5.un.2.1, .int .i64 x5.un.2.2.1, v5]) (v := Value.agg #[.int .i64 x5.un.1, .int .i64 x5.un.2.1, .int .i64 x5.un.2.2.1, v5]) F Aa (hN ((some 34), b4, [.int .i64 x5.un.1, .int .i64 x5.un.2.1, .int .i64 x5.un.2.2.1, v5]) (.tail _ (.tail _ (.tail _ (.tail _ (.tail _ (.tail _ (.tail _ (.tail _ (.tail _ (.tail _ (.head _))))))))))) Aa) EA Aa) (by kernel_rfl) Aa fun a F => ?_
  iterate 2 refine E9 (R := []) F Aa (Af F Aa Aa Aa Aa) Aa Aa (yC fun M Z hN hZ => Ai F Aa) Aa Aa fun a F => ?_
  refine E9 (R := [34]) F Aa (Af F Aa Aa Aa Aa) Aa Aa (yC fun M Z hN hZ => B6 (cs := [.int .i64 p4.1, .int .i64 p4.2.1, .int .i64 p4.2.2.1, .int .i64 p4.2.2.2]) (v := Value.agg #[.int .i64 p4.1, .int .i64 p4.2.1, .int .i64 p4.2.2.1, .int .i64 p4.2.2.2]) F Aa (hN ((some 34), b3, [.int .i64 p4.1, .int .i64 p4.2.1, .int .i64 p4.2.2.1, .int .i64 p4.2.2.2]) (.tail _ (.tail _ (.tail _ (.tail _ (.tail _ (.tail _ (.tail _ (.tail _ (.tail _ (.tail _ (.tail _ (.head _)))))))))))) Aa) Qh Aa) (by kernel_rfl) Aa fun a F => ?_
  refine E9 (R := [39]) F Aa (Af F Aa Aa Aa Aa) Aa Aa (yC fun M Z hN hZ => B6 (cs := [.int .i64 p0.un.1, .int .i64 p0.un.2.1, .int .i64 p0.un.2.2.1, v1]) (v := Value.agg #[.int .i64 p0.un.1, .int .i64 p0.un.2.1, .int .i64 p0.un.2.2.1, v1]) F Aa (hN ((some 39), b1, [.int .i64 p0.un.1, .int .i64 p0.un.2.1, .int .i64 p0.un.2.2.1, v1]) (.tail _ (.tail _ (.tail _ (.tail _ (.tail _ (.tail _ (.tail _ (.tail _ (.tail _ (.tail _ (.tail _ (.tail _ (.head _))))))))))))) Aa) FC Aa) (by kernel_rfl) Aa fun a F => ?_
  iterate 2 refine E9 (R := []) F Aa (Af F Aa Aa Aa Aa) Aa Aa (yC fun M Z hN hZ => Ai F Aa) Aa Aa fun a F => ?_
  refine E9 (R := [39]) F Aa (Af F Aa Aa Aa Aa) Aa Aa (yC fun M Z hN hZ => B6 (cs := [.int .i64 p4.1, .int .i64 p4.2.1, .int .i64 p4.2.2.1, .int .i64 p4.2.2.2]) (v := Value.agg #[.int .i64 p4.1, .int .i64 p4.2.1, .int .i64 p4.2.2.1, .int .i64 p4.2.2.2]) F Aa (hN ((some 39), b3, [.int .i64 p4.1, .int .i64 p4.2.1, .int .i64 p4.2.2.1, .int .i64 p4.2.2.2]) (.tail _ (.tail _ (.tail _ (.tail _ (.tail _ (.tail _ (.tail _ (.tail _ (.tail _ (.tail _ (.tail _ (.tail _ (.tail _ (.head _)))))))))))))) Aa) Qh Aa) (by kernel_rfl) Aa fun a F => ?_
  refine BG Aa ?_
  refine Fv (Af F Aa Aa Aa Aa) ?_
  obtain ⟨x16, h16, H⟩ := Am H
  refine ls F W Aa (AU (v := Value.bool x16) F Sf Aa (fun w W => HM any w (v5) x5 p2 p3 p4 _ h16 (((Ap 1 Aa) : EC _ _ _ _ _ _) w W).nx)) fun a w F W => ?_
  refine AC (N2 := []) (NZ2 := []) (N3 := [(some 1, b4, [.int .i64 x5.un.1, .int .i64 x5.un.2.1, .int .i64 x5.un.2.2.1, v5]), (some 3, b1, [.int .i64 p0.un.1, .int .i64 p0.un.2.1, .int .i64 p0.un.2.2.1, v1]), (some 7, b4, [.int .i64 x5.un.1, .int .i64 x5.un.2.1, .int .i64 x5.un.2.2.1, v5]), (some 9, b1, [.int .i64 p0.un.1, .int .i64 p0.un.2.1, .int .i64 p0.un.2.2.1, v1]), (some 14, b4, [.int .i64 x5.un.1, .int .i64 x5.un.2.1, .int .i64 x5.un.2.2.1, v5]), (some 16, b1, [.int .i64 p0.un.1, .int .i64 p0.un.2.1, .int .i64 p0.un.2.2.1, v1]), (some 23, b4, [.int .i64 x5.un.1, .int .i64 x5.un.2.1, .int .i64 x5.un.2.2.1, v5]), (some 22, b2, [.int .i64 p1.un.1, .int .i64 p1.un.2.1, .int .i64 p1.un.2.2.1, v2]), (some 26, b1, [.int .i64 p0.un.1, .int .i64 p0.un.2.1, .int .i64 p0.un.2.2.1, v1]), (some 26, b2, [.int .i64 p1.un.1, .int .i64 p1.un.2.1, .int .i64 p1.un.2.2.1, v2]), (some 34, b4, [.int .i64 x5.un.1, .int .i64 x5.un.2.1, .int .i64 x5.un.2.2.1, v5]), (some 34, b3, [.int .i64 p4.1, .int .i64 p4.2.1, .int .i64 p4.2.2.1, .int .i64 p4.2.2.2]), (some 39, b1, [.int .i64 p0.un.1, .int .i64 p0.un.2.1, .int .i64 p0.un.2.2.1, v1]), (some 39, b3, [.int .i64 p4.1, .int .i64 p4.2.1, .int .i64 p4.2.2.1, .int .i64 p4.2.2.2])]) (NZ3 := []) W Aa Aa (Ab (fun h => Ac (by kernel_rfl) h) (Ab (fun h => Ac (by kernel_rfl) h) (Ab (fun h => Ac (by kernel_rfl) h) (Ab (fun h => Ac (by kernel_rfl) h) (Ab (fun h => Ac (by kernel_rfl) h) (Ab (fun h => Ac (by kernel_rfl) h) (Ab (fun h => Ac (by kernel_rfl) h) (Ab (fun h => Ac (by kernel_rfl) h) (Ab (fun h => Ac (by kernel_rfl) h) (Ab (fun h => Ac (by kernel_rfl) h) (Ab (fun h => Ac (by kernel_rfl) h) (Ab (fun h => Ac (by kernel_rfl) h) (Ab (fun _ => (.tail _ (.tail _ (.tail _ (.head _))))) (Ab (fun _ => (.tail _ (.head _))) Al)))))))))))))) Al ?_
  refine BG Aa ?_
  refine Fv (Af F Aa Aa Aa Aa) ?_
  obtain ⟨x17, h17, H⟩ := Am H
  refine ls F W Aa (AU (v := Value.bool x17) F Sp Aa (fun w W => NR any w (v1) p0 p2 p3 p4 _ h17 (((AP C7 h1 (Av h_v1)) : EC _ _ _ _ _ _) w W).nx)) fun a w F W => ?_
  refine AC (N2 := []) (NZ2 := []) (N3 := [(some 1, b4, [.int .i64 x5.un.1, .int .i64 x5.un.2.1, .int .i64 x5.un.2.2.1, v5]), (some 3, b1, [.int .i64 p0.un.1, .int .i64 p0.un.2.1, .int .i64 p0.un.2.2.1, v1]), (some 7, b4, [.int .i64 x5.un.1, .int .i64 x5.un.2.1, .int .i64 x5.un.2.2.1, v5]), (some 9, b1, [.int .i64 p0.un.1, .int .i64 p0.un.2.1, .int .i64 p0.un.2.2.1, v1]), (some 14, b4, [.int .i64 x5.un.1, .int .i64 x5.un.2.1, .int .i64 x5.un.2.2.1, v5]), (some 16, b1, [.int .i64 p0.un.1, .int .i64 p0.un.2.1, .int .i64 p0.un.2.2.1, v1]), (some 23, b4, [.int .i64 x5.un.1, .int .i64 x5.un.2.1, .int .i64 x5.un.2.2.1, v5]), (some 22, b2, [.int .i64 p1.un.1, .int .i64 p1.un.2.1, .int .i64 p1.un.2.2.1, v2]), (some 26, b1, [.int .i64 p0.un.1, .int .i64 p0.un.2.1, .int .i64 p0.un.2.2.1, v1]), (some 26, b2, [.int .i64 p1.un.1, .int .i64 p1.un.2.1, .int .i64 p1.un.2.2.1, v2]), (some 34, b4, [.int .i64 x5.un.1, .int .i64 x5.un.2.1, .int .i64 x5.un.2.2.1, v5]), (some 34, b3, [.int .i64 p4.1, .int .i64 p4.2.1, .int .i64 p4.2.2.1, .int .i64 p4.2.2.2]), (some 39, b1, [.int .i64 p0.un.1, .int .i64 p0.un.2.1, .int .i64 p0.un.2.2.1, v1]), (some 39, b3, [.int .i64 p4.1, .int .i64 p4.2.1, .int .i64 p4.2.2.1, .int .i64 p4.2.2.2])]) (NZ3 := []) W Aa Aa (Ab (fun h => Ac (by kernel_rfl) h) (Ab (fun h => Ac (by kernel_rfl) h) (Ab (fun h => Ac (by kernel_rfl) h) (Ab (fun h => Ac (by kernel_rfl) h) (Ab (fun h => Ac (by kernel_rfl) h) (Ab (fun h => Ac (by kernel_rfl) h) (Ab (fun h => Ac (by kernel_rfl) h) (Ab (fun h => Ac (by kernel_rfl) h) (Ab (fun h => Ac (by kernel_rfl) h) (Ab (fun h => Ac (by kernel_rfl) h) (Ab (fun h => Ac (by kernel_rfl) h) (Ab (fun h => Ac (by kernel_rfl) h) (Ab (fun h => Ac (by kernel_rfl) h) (Ab (fun h => Ac (by kernel_rfl) h) Al)))))))))))))) Al ?_
  refine E9 (R := []) F Aa (Af F Aa Aa Aa Aa) Aa Aa (yC fun M Z hN hZ => PY Se F Aa Aa) Aa Aa fun a F => ?_
  refine A6 (R := []) F Aa Aa (yC fun M Z hN hZ => As F Aa Aa Aa) Aa Aa fun a F => ?_
  refine A6 (R := []) F Aa Aa (yC fun M Z hN hZ => Ai F Aa) Aa Aa fun a F => ?_
  rcases Bool.eq_false_or_eq_true (decide (x16 ≠ x17)) with hb | hb
  ·
   have H := AW (Bm hb) H
   rw [hb] at F
   clear hb
   iterate 2 refine BA F Aa (AH F Aa Aa Aa Aa Aa) Aa Aa Aa fun a F => ?_
   refine BG Aa ?_
   refine CD F Aa Aa Aa Aa Aa Aa Aa fun a F => ?_
   refine AC (N2 := []) (NZ2 := []) (N3 := [(some 1, b4, [.int .i64 x5.un.1, .int .i64 x5.un.2.1, .int .i64 x5.un.2.2.1, v5]), (some 3, b1, [.int .i64 p0.un.1, .int .i64 p0.un.2.1, .int .i64 p0.un.2.2.1, v1]), (some 7, b4, [.int .i64 x5.un.1, .int .i64 x5.un.2.1, .int .i64 x5.un.2.2.1, v5]), (some 9, b1, [.int .i64 p0.un.1, .int .i64 p0.un.2.1, .int .i64 p0.un.2.2.1, v1]), (some 14, b4, [.int .i64 x5.un.1, .int .i64 x5.un.2.1, .int .i64 x5.un.2.2.1, v5]), (some 16, b1, [.int .i64 p0.un.1, .int .i64 p0.un.2.1, .int .i64 p0.un.2.2.1, v1]), (some 23, b4, [.int .i64 x5.un.1, .int .i64 x5.un.2.1, .int .i64 x5.un.2.2.1, v5]), (some 22, b2, [.int .i64 p1.un.1, .int .i64 p1.un.2.1, .int .i64 p1.un.2.2.1, v2]), (some 26, b1, [.int .i64 p0.un.1, .int .i64 p0.un.2.1, .int .i64 p0.un.2.2.1, v1]), (some 26, b2, [.int .i64 p1.un.1, .int .i64 p1.un.2.1, .int .i64 p1.un.2.2.1, v2]), (some 34, b4, [.int .i64 x5.un.1, .int .i64 x5.un.2.1, .int .i64 x5.un.2.2.1, v5]), (some 34, b3, [.int .i64 p4.1, .int .i64 p4.2.1, .int .i64 p4.2.2.1, .int .i64 p4.2.2.2]), (some 39, b1, [.int .i64 p0.un.1, .int .i64 p0.un.2.1, .int .i64 p0.un.2.2.1, v1]), (some 39, b3, [.int .i64 p4.1, .int .i64 p4.2.1, .int .i64 p4.2.2.1, .int .i64 p4.2.2.2])]) (NZ3 := []) W Aa Aa (Ab (fun h => Ac (by kernel_rfl) h) (Ab (fun h => Ac (by kernel_rfl) h) (Ab (fun h => Ac (by kernel_rfl) h) (Ab (fun h => Ac (by kernel_rfl) h) (Ab (fun h => Ac (by kernel_rfl) h) (Ab (fun h => Ac (by kernel_rfl) h) (Ab (fun h => Ac (by kernel_rfl) h) (Ab (fun h => Ac (by kernel_rfl) h) (Ab (fun h => Ac (by kernel_rfl) h) (Ab (fun h => Ac (by kernel_rfl) h) (Ab (fun h => Ac (by kernel_rfl) h) (Ab (fun h => Ac (by kernel_rfl) h) (Ab (fun h => Ac (by kernel_rfl) h) (Ab (fun h => Ac (by kernel_rfl) h) Al)))))))))))))) Al ?_
   refine BG Aa ?_
   refine CD F Aa Aa Aa Aa Aa Aa Aa fun a F => ?_
   refine AC (N2 := []) (NZ2 := []) (N3 := [(some 1, b4, [.int .i64 x5.un.1, .int .i64 x5.un.2.1, .int .i64 x5.un.2.2.1, v5]), (some 3, b1, [.int .i64 p0.un.1, .int .i64 p0.un.2.1, .int .i64 p0.un.2.2.1, v1]), (some 7, b4, [.int .i64 x5.un.1, .int .i64 x5.un.2.1, .int .i64 x5.un.2.2.1, v5]), (some 9, b1, [.int .i64 p0.un.1, .int .i64 p0.un.2.1, .int .i64 p0.un.2.2.1, v1]), (some 14, b4, [.int .i64 x5.un.1, .int .i64 x5.un.2.1, .int .i64 x5.un.2.2.1, v5]), (some 16, b1, [.int .i64 p0.un.1, .int .i64 p0.un.2.1, .int .i64 p0.un.2.2.1, v1]), (some 23, b4, [.int .i64 x5.un.1, .int .i64 x5.un.2.1, .int .i64 x5.un.2.2.1, v5]), (some 22, b2, [.int .i64 p1.un.1, .int .i64 p1.un.2.1, .int .i64 p1.un.2.2.1, v2]), (some 26, b1, [.int .i64 p0.un.1, .int .i64 p0.un.2.1, .int .i64 p0.un.2.2.1, v1]), (some 26, b2, [.int .i64 p1.un.1, .int .i64 p1.un.2.1, .int .i64 p1.un.2.2.1, v2]), (some 34, b4, [.int .i64 x5.un.1, .int .i64 x5.un.2.1, .int .i64 x5.un.2.2.1, v5]), (some 34, b3, [.int .i64 p4.1, .int .i64 p4.2.1, .int .i64 p4.2.2.1, .int .i64 p4.2.2.2]), (some 39, b1, [.int .i64 p0.un.1, .int .i64 p0.un.2.1, .int .i64 p0.un.2.2.1, v1]), (some 39, b3, [.int .i64 p4.1, .int .i64 p4.2.1, .int .i64 p4.2.2.1, .int .i64 p4.2.2.2])]) (NZ3 := []) W Aa Aa (Ab (fun h => Ac (by kernel_rfl) h) (Ab (fun h => Ac (by kernel_rfl) h) (Ab (fun h => Ac (by kernel_rfl) h) (Ab (fun h => Ac (by kernel_rfl) h) (Ab (fun h => Ac (by kernel_rfl) h) (Ab (fun h => Ac (by kernel_rfl) h) (Ab (fun h => Ac (by kernel_rfl) h) (Ab (fun h => Ac (by kernel_rfl) h) (Ab (fun h => Ac (by kernel_rfl) h) (Ab (fun h => Ac (by kernel_rfl) h) (Ab (fun h => Ac (by kernel_rfl) h) (Ab (fun h => Ac (by kernel_rfl) h) (Ab (fun h => Ac (by kernel_rfl) h) (Ab (fun h => Ac (by kernel_rfl) h) Al)))))))))))))) Al ?_
   refine BA F Aa (AH F Aa Aa Aa Aa Aa) Aa Aa Aa fun a F => ?_
   refine A6 (R := []) F Aa Aa (yC fun M Z hN hZ => Au F Aa Aa Aa) Aa Aa fun a F => ?_
   refine A6 (R := []) F Aa Aa (yC fun M Z hN hZ => Ai F Aa) Aa Aa fun a F => ?_
   iterate 8 refine BA F Aa (AH F Aa Aa Aa Aa Aa) Aa Aa Aa fun a F => ?_
   refine BG Aa ?_
   refine CD F Aa Aa Aa Aa Aa Aa Aa fun a F => ?_
   refine AC (N2 := []) (NZ2 := []) (N3 := [(some 1, b4, [.int .i64 x5.un.1, .int .i64 x5.un.2.1, .int .i64 x5.un.2.2.1, v5]), (some 3, b1, [.int .i64 p0.un.1, .int .i64 p0.un.2.1, .int .i64 p0.un.2.2.1, v1]), (some 7, b4, [.int .i64 x5.un.1, .int .i64 x5.un.2.1, .int .i64 x5.un.2.2.1, v5]), (some 9, b1, [.int .i64 p0.un.1, .int .i64 p0.un.2.1, .int .i64 p0.un.2.2.1, v1]), (some 14, b4, [.int .i64 x5.un.1, .int .i64 x5.un.2.1, .int .i64 x5.un.2.2.1, v5]), (some 16, b1, [.int .i64 p0.un.1, .int .i64 p0.un.2.1, .int .i64 p0.un.2.2.1, v1]), (some 23, b4, [.int .i64 x5.un.1, .int .i64 x5.un.2.1, .int .i64 x5.un.2.2.1, v5]), (some 22, b2, [.int .i64 p1.un.1, .int .i64 p1.un.2.1, .int .i64 p1.un.2.2.1, v2]), (some 26, b1, [.int .i64 p0.un.1, .int .i64 p0.un.2.1, .int .i64 p0.un.2.2.1, v1]), (some 26, b2, [.int .i64 p1.un.1, .int .i64 p1.un.2.1, .int .i64 p1.un.2.2.1, v2]), (some 34, b4, [.int .i64 x5.un.1, .int .i64 x5.un.2.1, .int .i64 x5.un.2.2.1, v5]), (some 34, b3, [.int .i64 p4.1, .int .i64 p4.2.1, .int .i64 p4.2.2.1, .int .i64 p4.2.2.2]), (some 39, b1, [.int .i64 p0.un.1, .int .i64 p0.un.2.1, .int .i64 p0.un.2.2.1, v1]), (some 39, b3, [.int .i64 p4.1, .int .i64 p4.2.1, .int .i64 p4.2.2.1, .int .i64 p4.2.2.2])]) (NZ3 := []) W Aa Aa (Ab (fun h => Ac (by kernel_rfl) h) (Ab (fun h => Ac (by kernel_rfl) h) (Ab (fun h => Ac (by kernel_rfl) h) (Ab (fun h => Ac (by kernel_rfl) h) (Ab (fun h => Ac (by kernel_rfl) h) (Ab (fun h => Ac (by kernel_rfl) h) (Ab (fun h => Ac (by kernel_rfl) h) (Ab (fun h => Ac (by kernel_rfl) h) (Ab (fun h => Ac (by kernel_rfl) h) (Ab (fun h => Ac (by kernel_rfl) h) (Ab (fun h => Ac (by kernel_rfl) h) (Ab (fun h => Ac (by kernel_rfl) h) (Ab (fun h => Ac (by kernel_rfl) h) (Ab (fun h => Ac (by kernel_rfl) h) Al)))))))))))))) Al ?_
   refine BG Aa ?_
   refine CD F Aa Aa Aa Aa Aa Aa Aa fun a F => ?_
   refine AC (N2 := []) (NZ2 := []) (N3 := [(some 1, b4, [.int .i64 x5.un.1, .int .i64 x5.un.2.1, .int .i64 x5.un.2.2.1, v5]), (some 3, b1, [.int .i64 p0.un.1, .int .i64 p0.un.2.1, .int .i64 p0.un.2.2.1, v1]), (some 7, b4, [.int .i64 x5.un.1, .int .i64 x5.un.2.1, .int .i64 x5.un.2.2.1, v5]), (some 9, b1, [.int .i64 p0.un.1, .int .i64 p0.un.2.1, .int .i64 p0.un.2.2.1, v1]), (some 14, b4, [.int .i64 x5.un.1, .int .i64 x5.un.2.1, .int .i64 x5.un.2.2.1, v5]), (some 16, b1, [.int .i64 p0.un.1, .int .i64 p0.un.2.1, .int .i64 p0.un.2.2.1, v1]), (some 23, b4, [.int .i64 x5.un.1, .int .i64 x5.un.2.1, .int .i64 x5.un.2.2.1, v5]), (some 22, b2, [.int .i64 p1.un.1, .int .i64 p1.un.2.1, .int .i64 p1.un.2.2.1, v2]), (some 26, b1, [.int .i64 p0.un.1, .int .i64 p0.un.2.1, .int .i64 p0.un.2.2.1, v1]), (some 26, b2, [.int .i64 p1.un.1, .int .i64 p1.un.2.1, .int .i64 p1.un.2.2.1, v2]), (some 34, b4, [.int .i64 x5.un.1, .int .i64 x5.un.2.1, .int .i64 x5.un.2.2.1, v5]), (some 34, b3, [.int .i64 p4.1, .int .i64 p4.2.1, .int .i64 p4.2.2.1, .int .i64 p4.2.2.2]), (some 39, b1, [.int .i64 p0.un.1, .int .i64 p0.un.2.1, .int .i64 p0.un.2.2.1, v1]), (some 39, b3, [.int .i64 p4.1, .int .i64 p4.2.1, .int .i64 p4.2.2.1, .int .i64 p4.2.2.2])]) (NZ3 := []) W Aa Aa (Ab (fun h => Ac (by kernel_rfl) h) (Ab (fun h => Ac (by kernel_rfl) h) (Ab (fun h => Ac (by kernel_rfl) h) (Ab (fun h => Ac (by kernel_rfl) h) (Ab (fun h => Ac (by kernel_rfl) h) (Ab (fun h => Ac (by kernel_rfl) h) (Ab (fun h => Ac (by kernel_rfl) h) (Ab (fun h => Ac (by kernel_rfl) h) (Ab (fun h => Ac (by kernel_rfl) h) (Ab (fun h => Ac (by kernel_rfl) h) (Ab (fun h => Ac (by kernel_rfl) h) (Ab (fun h => Ac (by kernel_rfl) h) (Ab (fun h => Ac (by kernel_rfl) h) (Ab (fun h => Ac (by kernel_rfl) h) Al)))))))))))))) Al ?_
   refine BA F Aa (AH F Aa Aa Aa Aa Aa) Aa Aa Aa fun a F => ?_
   refine A6 (R := []) F Aa Aa (yC fun M Z hN hZ => Au F Aa Aa Aa) Aa Aa fun a F => ?_
   refine DS (Ad ?_)
   have W := W.frontZ (i := 1) Aa Aa
   have W := W.frontM (i := 3) Aa Aa
   have W := W.frontM (i := 3) Aa Aa
   have W := W.frontM (i := 3) Aa Aa
   have W := W.frontM (i := 3) Aa Aa
   have W := W.sub (M' := [(b4, [.int .i64 x5.un.1, .int .i64 x5.un.2.1, .int .i64 x5.un.2.2.1, v5]), (b3, [.int .i64 p4.1, .int .i64 p4.2.1, .int .i64 p4.2.2.1, .int .i64 p4.2.2.2]), (b2, [.int .i64 p1.un.1, .int .i64 p1.un.2.1, .int .i64 p1.un.2.2.1, v2]), (b1, [.int .i64 p0.un.1, .int .i64 p0.un.2.1, .int .i64 p0.un.2.2.1, v1])]) (Z' := [row v5 31 BJ x5.un.2.2.2]) (List.Sublist.refl _) (List.Sublist.cons_cons _ (List.nil_sublist _))
   exact ⟨_, H, F.re ⟨rfl, Aa, Aa, Aa, Aa, trivial⟩, W⟩
  have H := AX (Bl hb) H
  rw [hb] at F
  clear hb
  iterate 2 refine E9 (R := []) F Aa (Af F Aa Aa Aa Aa) Aa Aa (yC fun M Z hN hZ => Ai F Aa) Aa Aa fun a F => ?_
  refine BG Aa ?_
  refine Fv (Af F Aa Aa Aa Aa) ?_
  obtain ⟨x18, h18, H⟩ := Am H
  refine ls F W Aa (AU (v := Value.int .i64 x18) F SM Aa (fun w W => Lb any w p5 _ h18)) fun a w F W => ?_
  refine AC (N2 := []) (NZ2 := []) (N3 := [(some 1, b4, [.int .i64 x5.un.1, .int .i64 x5.un.2.1, .int .i64 x5.un.2.2.1, v5]), (some 3, b1, [.int .i64 p0.un.1, .int .i64 p0.un.2.1, .int .i64 p0.un.2.2.1, v1]), (some 7, b4, [.int .i64 x5.un.1, .int .i64 x5.un.2.1, .int .i64 x5.un.2.2.1, v5]), (some 9, b1, [.int .i64 p0.un.1, .int .i64 p0.un.2.1, .int .i64 p0.un.2.2.1, v1]), (some 14, b4, [.int .i64 x5.un.1, .int .i64 x5.un.2.1, .int .i64 x5.un.2.2.1, v5]), (some 16, b1, [.int .i64 p0.un.1, .int .i64 p0.un.2.1, .int .i64 p0.un.2.2.1, v1]), (some 23, b4, [.int .i64 x5.un.1, .int .i64 x5.un.2.1, .int .i64 x5.un.2.2.1, v5]), (some 22, b2, [.int .i64 p1.un.1, .int .i64 p1.un.2.1, .int .i64 p1.un.2.2.1, v2]), (some 26, b1, [.int .i64 p0.un.1, .int .i64 p0.un.2.1, .int .i64 p0.un.2.2.1, v1]), (some 26, b2, [.int .i64 p1.un.1, .int .i64 p1.un.2.1, .int .i64 p1.un.2.2.1, v2]), (some 34, b4, [.int .i64 x5.un.1, .int .i64 x5.un.2.1, .int .i64 x5.un.2.2.1, v5]), (some 34, b3, [.int .i64 p4.1, .int .i64 p4.2.1, .int .i64 p4.2.2.1, .int .i64 p4.2.2.2]), (some 39, b1, [.int .i64 p0.un.1, .int .i64 p0.un.2.1, .int .i64 p0.un.2.2.1, v1]), (some 39, b3, [.int .i64 p4.1, .int .i64 p4.2.1, .int .i64 p4.2.2.1, .int .i64 p4.2.2.2])]) (NZ3 := []) W Aa Aa (Ab (fun h => Ac (by kernel_rfl) h) (Ab (fun h => Ac (by kernel_rfl) h) (Ab (fun h => Ac (by kernel_rfl) h) (Ab (fun h => Ac (by kernel_rfl) h) (Ab (fun h => Ac (by kernel_rfl) h) (Ab (fun h => Ac (by kernel_rfl) h) (Ab (fun h => Ac (by kernel_rfl) h) (Ab (fun h => Ac (by kernel_rfl) h) (Ab (fun h => Ac (by kernel_rfl) h) (Ab (fun h => Ac (by kernel_rfl) h) (Ab (fun h => Ac (by kernel_rfl) h) (Ab (fun h => Ac (by kernel_rfl) h) (Ab (fun h => Ac (by kernel_rfl) h) (Ab (fun h => Ac (by kernel_rfl) h) Al)))))))))))))) Al ?_
  refine BG Aa ?_
  refine Fv (Af F Aa Aa Aa Aa) ?_
  refine ls F W Aa (AU (v := Value.int .i64 (CC p5)) F Si Aa (fun w W => Ju any w p5 _ Aa)) fun a w F W => ?_
  refine AC (N2 := [(some 54, b3, [.int .i64 p4.1, .int .i64 p4.2.1, .int .i64 p4.2.2.1, .int .i64 p4.2.2.2]), (some 59, b3, [.int .i64 p4.1, .int .i64 p4.2.1, .int .i64 p4.2.2.1, .int .i64 p4.2.2.2])]) (NZ2 := []) (N3 := [(some 1, b4, [.int .i64 x5.un.1, .int .i64 x5.un.2.1, .int .i64 x5.un.2.2.1, v5]), (some 3, b1, [.int .i64 p0.un.1, .int .i64 p0.un.2.1, .int .i64 p0.un.2.2.1, v1]), (some 7, b4, [.int .i64 x5.un.1, .int .i64 x5.un.2.1, .int .i64 x5.un.2.2.1, v5]), (some 9, b1, [.int .i64 p0.un.1, .int .i64 p0.un.2.1, .int .i64 p0.un.2.2.1, v1]), (some 14, b4, [.int .i64 x5.un.1, .int .i64 x5.un.2.1, .int .i64 x5.un.2.2.1, v5]), (some 16, b1, [.int .i64 p0.un.1, .int .i64 p0.un.2.1, .int .i64 p0.un.2.2.1, v1]), (some 23, b4, [.int .i64 x5.un.1, .int .i64 x5.un.2.1, .int .i64 x5.un.2.2.1, v5]), (some 22, b2, [.int .i64 p1.un.1, .int .i64 p1.un.2.1, .int .i64 p1.un.2.2.1, v2]), (some 26, b1, [.int .i64 p0.un.1, .int .i64 p0.un.2.1, .int .i64 p0.un.2.2.1, v1]), (some 26, b2, [.int .i64 p1.un.1, .int .i64 p1.un.2.1, .int .i64 p1.un.2.2.1, v2]), (some 34, b4, [.int .i64 x5.un.1, .int .i64 x5.un.2.1, .int .i64 x5.un.2.2.1, v5]), (some 34, b3, [.int .i64 p4.1, .int .i64 p4.2.1, .int .i64 p4.2.2.1, .int .i64 p4.2.2.2]), (some 39, b1, [.int .i64 p0.un.1, .int .i64 p0.un.2.1, .int .i64 p0.un.2.2.1, v1]), (some 39, b3, [.int .i64 p4.1, .int .i64 p4.2.1, .int .i64 p4.2.2.1, .int .i64 p4.2.2.2]), (some 54, b3, [.int .i64 p4.1, .int .i64 p4.2.1, .int .i64 p4.2.2.1, .int .i64 p4.2.2.2]), (some 59, b3, [.int .i64 p4.1, .int .i64 p4.2.1, .int .i64 p4.2.2.1, .int .i64 p4.2.2.2])]) (NZ3 := []) W Aa Aa (Ab (fun h => Ac (by kernel_rfl) h) (Ab (fun h => Ac (by kernel_rfl) h) (Ab (fun h => Ac (by kernel_rfl) h) (Ab (fun h => Ac (by kernel_rfl) h) (Ab (fun h => Ac (by kernel_rfl) h) (Ab (fun h => Ac (by kernel_rfl) h) (Ab (fun h => Ac (by kernel_rfl) h) (Ab (fun h => Ac (by kernel_rfl) h) (Ab (fun h => Ac (by kernel_rfl) h) (Ab (fun h => Ac (by kernel_rfl) h) (Ab (fun h => Ac (by kernel_rfl) h) (Ab (fun h => Ac (by kernel_rfl) h) (Ab (fun h => Ac (by kernel_rfl) h) (Ab (fun h => Ac (by kernel_rfl) h) (Ab (fun _ => (.tail _ (.head _))) (Ab (fun _ => (.tail _ (.head _))) Al)))))))))))))))) Al ?_
  refine E9 (R := []) F Aa (Af F Aa Aa Aa Aa) Aa Aa (yC fun M Z hN hZ => E7 F Aa Aa) Aa Aa fun a F => ?_
  refine A6 (R := []) F Aa Aa (yC fun M Z hN hZ => As F Aa Aa Aa) Aa Aa fun a F => ?_
  refine A6 (R := []) F Aa Aa (yC fun M Z hN hZ => Ai F Aa) Aa Aa fun a F => ?_
  rcases Bool.eq_false_or_eq_true (decide (x18 ≠ (CC p5))) with hb | hb
  ·
   have H := AW (Bm hb) H
   rw [hb] at F
   clear hb
   iterate 8 refine BA F Aa (AH F Aa Aa Aa Aa Aa) Aa Aa Aa fun a F => ?_
   refine BG Aa ?_
   refine CD F Aa Aa Aa Aa Aa Aa Aa fun a F => ?_
   refine AC (N2 := []) (NZ2 := []) (N3 := [(some 1, b4, [.int .i64 x5.un.1, .int .i64 x5.un.2.1, .int .i64 x5.un.2.2.1, v5]), (some 3, b1, [.int .i64 p0.un.1, .int .i64 p0.un.2.1, .int .i64 p0.un.2.2.1, v1]), (some 7, b4, [.int .i64 x5.un.1, .int .i64 x5.un.2.1, .int .i64 x5.un.2.2.1, v5]), (some 9, b1, [.int .i64 p0.un.1, .int .i64 p0.un.2.1, .int .i64 p0.un.2.2.1, v1]), (some 14, b4, [.int .i64 x5.un.1, .int .i64 x5.un.2.1, .int .i64 x5.un.2.2.1, v5]), (some 16, b1, [.int .i64 p0.un.1, .int .i64 p0.un.2.1, .int .i64 p0.un.2.2.1, v1]), (some 23, b4, [.int .i64 x5.un.1, .int .i64 x5.un.2.1, .int .i64 x5.un.2.2.1, v5]), (some 22, b2, [.int .i64 p1.un.1, .int .i64 p1.un.2.1, .int .i64 p1.un.2.2.1, v2]), (some 26, b1, [.int .i64 p0.un.1, .int .i64 p0.un.2.1, .int .i64 p0.un.2.2.1, v1]), (some 26, b2, [.int .i64 p1.un.1, .int .i64 p1.un.2.1, .int .i64 p1.un.2.2.1, v2]), (some 34, b4, [.int .i64 x5.un.1, .int .i64 x5.un.2.1, .int .i64 x5.un.2.2.1, v5]), (some 34, b3, [.int .i64 p4.1, .int .i64 p4.2.1, .int .i64 p4.2.2.1, .int .i64 p4.2.2.2]), (some 39, b1, [.int .i64 p0.un.1, .int .i64 p0.un.2.1, .int .i64 p0.un.2.2.1, v1]), (some 39, b3, [.int .i64 p4.1, .int .i64 p4.2.1, .int .i64 p4.2.2.1, .int .i64 p4.2.2.2]), (some 54, b3, [.int .i64 p4.1, .int .i64 p4.2.1, .int .i64 p4.2.2.1, .int .i64 p4.2.2.2]), (some 59, b3, [.int .i64 p4.1, .int .i64 p4.2.1, .int .i64 p4.2.2.1, .int .i64 p4.2.2.2])]) (NZ3 := []) W Aa Aa (Ab (fun h => Ac (by kernel_rfl) h) (Ab (fun h => Ac (by kernel_rfl) h) (Ab (fun h => Ac (by kernel_rfl) h) (Ab (fun h => Ac (by kernel_rfl) h) (Ab (fun h => Ac (by kernel_rfl) h) (Ab (fun h => Ac (by kernel_rfl) h) (Ab (fun h => Ac (by kernel_rfl) h) (Ab (fun h => Ac (by kernel_rfl) h) (Ab (fun h => Ac (by kernel_rfl) h) (Ab (fun h => Ac (by kernel_rfl) h) (Ab (fun h => Ac (by kernel_rfl) h) (Ab (fun h => Ac (by kernel_rfl) h) (Ab (fun h => Ac (by kernel_rfl) h) (Ab (fun h => Ac (by kernel_rfl) h) (Ab (fun h => Ac (by kernel_rfl) h) (Ab (fun _ => (.tail _ (.head _))) Al)))))))))))))))) Al ?_
   refine BG Aa ?_
   refine CD F Aa Aa Aa Aa Aa Aa Aa fun a F => ?_
   refine AC (N2 := []) (NZ2 := []) (N3 := [(some 1, b4, [.int .i64 x5.un.1, .int .i64 x5.un.2.1, .int .i64 x5.un.2.2.1, v5]), (some 3, b1, [.int .i64 p0.un.1, .int .i64 p0.un.2.1, .int .i64 p0.un.2.2.1, v1]), (some 7, b4, [.int .i64 x5.un.1, .int .i64 x5.un.2.1, .int .i64 x5.un.2.2.1, v5]), (some 9, b1, [.int .i64 p0.un.1, .int .i64 p0.un.2.1, .int .i64 p0.un.2.2.1, v1]), (some 14, b4, [.int .i64 x5.un.1, .int .i64 x5.un.2.1, .int .i64 x5.un.2.2.1, v5]), (some 16, b1, [.int .i64 p0.un.1, .int .i64 p0.un.2.1, .int .i64 p0.un.2.2.1, v1]), (some 23, b4, [.int .i64 x5.un.1, .int .i64 x5.un.2.1, .int .i64 x5.un.2.2.1, v5]), (some 22, b2, [.int .i64 p1.un.1, .int .i64 p1.un.2.1, .int .i64 p1.un.2.2.1, v2]), (some 26, b1, [.int .i64 p0.un.1, .int .i64 p0.un.2.1, .int .i64 p0.un.2.2.1, v1]), (some 26, b2, [.int .i64 p1.un.1, .int .i64 p1.un.2.1, .int .i64 p1.un.2.2.1, v2]), (some 34, b4, [.int .i64 x5.un.1, .int .i64 x5.un.2.1, .int .i64 x5.un.2.2.1, v5]), (some 34, b3, [.int .i64 p4.1, .int .i64 p4.2.1, .int .i64 p4.2.2.1, .int .i64 p4.2.2.2]), (some 39, b1, [.int .i64 p0.un.1, .int .i64 p0.un.2.1, .int .i64 p0.un.2.2.1, v1]), (some 39, b3, [.int .i64 p4.1, .int .i64 p4.2.1, .int .i64 p4.2.2.1, .int .i64 p4.2.2.2]), (some 54, b3, [.int .i64 p4.1, .int .i64 p4.2.1, .int .i64 p4.2.2.1, .int .i64 p4.2.2.2]), (some 59, b3, [.int .i64 p4.1, .int .i64 p4.2.1, .int .i64 p4.2.2.1, .int .i64 p4.2.2.2])]) (NZ3 := []) W Aa Aa (Ab (fun h => Ac (by kernel_rfl) h) (Ab (fun h => Ac (by kernel_rfl) h) (Ab (fun h => Ac (by kernel_rfl) h) (Ab (fun h => Ac (by kernel_rfl) h) (Ab (fun h => Ac (by kernel_rfl) h) (Ab (fun h => Ac (by kernel_rfl) h) (Ab (fun h => Ac (by kernel_rfl) h) (Ab (fun h => Ac (by kernel_rfl) h) (Ab (fun h => Ac (by kernel_rfl) h) (Ab (fun h => Ac (by kernel_rfl) h) (Ab (fun h => Ac (by kernel_rfl) h) (Ab (fun h => Ac (by kernel_rfl) h) (Ab (fun h => Ac (by kernel_rfl) h) (Ab (fun h => Ac (by kernel_rfl) h) (Ab (fun h => Ac (by kernel_rfl) h) (Ab (fun h => Ac (by kernel_rfl) h) Al)))))))))))))))) Al ?_
   refine BA F Aa (AH F Aa Aa Aa Aa Aa) Aa Aa Aa fun a F => ?_
   refine A6 (R := []) F Aa Aa (yC fun M Z hN hZ => Au F Aa Aa Aa) Aa Aa fun a F => ?_
   refine DS (Ad ?_)
   have W := W.frontZ (i := 1) Aa Aa
   have W := W.frontM (i := 3) Aa Aa
   have W := W.frontM (i := 3) Aa Aa
   have W := W.frontM (i := 3) Aa Aa
   have W := W.frontM (i := 3) Aa Aa
   have W := W.sub (M' := [(b4, [.int .i64 x5.un.1, .int .i64 x5.un.2.1, .int .i64 x5.un.2.2.1, v5]), (b3, [.int .i64 p4.1, .int .i64 p4.2.1, .int .i64 p4.2.2.1, .int .i64 p4.2.2.2]), (b2, [.int .i64 p1.un.1, .int .i64 p1.un.2.1, .int .i64 p1.un.2.2.1, v2]), (b1, [.int .i64 p0.un.1, .int .i64 p0.un.2.1, .int .i64 p0.un.2.2.1, v1])]) (Z' := [row v5 31 BJ x5.un.2.2.2]) (List.Sublist.refl _) (List.Sublist.cons_cons _ (List.nil_sublist _))
   exact ⟨_, H, F.re ⟨rfl, Aa, Aa, Aa, Aa, trivial⟩, W⟩
  have H := AX (Bl hb) H
  rw [hb] at F
  clear hb
  iterate 3 refine E9 (R := []) F Aa (Af F Aa Aa Aa Aa) Aa Aa (yC fun M Z hN hZ => Ai F Aa) Aa Aa fun a F => ?_
  refine E9 (R := [54]) F Aa (Af F Aa Aa Aa Aa) Aa Aa (yC fun M Z hN hZ => B6 (cs := [.int .i64 p4.1, .int .i64 p4.2.1, .int .i64 p4.2.2.1, .int .i64 p4.2.2.2]) (v := Value.agg #[.int .i64 p4.1, .int .i64 p4.2.1, .int .i64 p4.2.2.1, .int .i64 p4.2.2.2]) F Aa (hN ((some 54), b3, [.int .i64 p4.1, .int .i64 p4.2.1, .int .i64 p4.2.2.1, .int .i64 p4.2.2.2]) (.tail _ (.tail _ (.tail _ (.tail _ (.tail _ (.tail _ (.tail _ (.tail _ (.tail _ (.tail _ (.tail _ (.tail _ (.tail _ (.tail _ (.head _))))))))))))))) Aa) Qh Aa) (by kernel_rfl) Aa fun a F => ?_
  iterate 3 refine E9 (R := []) F Aa (Af F Aa Aa Aa Aa) Aa Aa (yC fun M Z hN hZ => Ai F Aa) Aa Aa fun a F => ?_
  refine E9 (R := [59]) F Aa (Af F Aa Aa Aa Aa) Aa Aa (yC fun M Z hN hZ => B6 (cs := [.int .i64 p4.1, .int .i64 p4.2.1, .int .i64 p4.2.2.1, .int .i64 p4.2.2.2]) (v := Value.agg #[.int .i64 p4.1, .int .i64 p4.2.1, .int .i64 p4.2.2.1, .int .i64 p4.2.2.2]) F Aa (hN ((some 59), b3, [.int .i64 p4.1, .int .i64 p4.2.1, .int .i64 p4.2.2.1, .int .i64 p4.2.2.2]) (.tail _ (.tail _ (.tail _ (.tail _ (.tail _ (.tail _ (.tail _ (.tail _ (.tail _ (.tail _ (.tail _ (.tail _ (.tail _ (.tail _ (.tail _ (.head _)))))))))))))))) Aa) Qh Aa) (by kernel_rfl) Aa fun a F => ?_
  refine BG Aa ?_
  refine Fv (Af F Aa Aa Aa Aa) ?_
  obtain ⟨x19, h19, H⟩ := Am H
  refine ls F W Aa (AU (v := Value.int .i64 x19) F SR Aa (fun w W => KW any w p5 p2 p3 p4 _ h19)) fun a w F W => ?_
  refine AC (N2 := []) (NZ2 := []) (N3 := [(some 1, b4, [.int .i64 x5.un.1, .int .i64 x5.un.2.1, .int .i64 x5.un.2.2.1, v5]), (some 3, b1, [.int .i64 p0.un.1, .int .i64 p0.un.2.1, .int .i64 p0.un.2.2.1, v1]), (some 7, b4, [.int .i64 x5.un.1, .int .i64 x5.un.2.1, .int .i64 x5.un.2.2.1, v5]), (some 9, b1, [.int .i64 p0.un.1, .int .i64 p0.un.2.1, .int .i64 p0.un.2.2.1, v1]), (some 14, b4, [.int .i64 x5.un.1, .int .i64 x5.un.2.1, .int .i64 x5.un.2.2.1, v5]), (some 16, b1, [.int .i64 p0.un.1, .int .i64 p0.un.2.1, .int .i64 p0.un.2.2.1, v1]), (some 23, b4, [.int .i64 x5.un.1, .int .i64 x5.un.2.1, .int .i64 x5.un.2.2.1, v5]), (some 22, b2, [.int .i64 p1.un.1, .int .i64 p1.un.2.1, .int .i64 p1.un.2.2.1, v2]), (some 26, b1, [.int .i64 p0.un.1, .int .i64 p0.un.2.1, .int .i64 p0.un.2.2.1, v1]), (some 26, b2, [.int .i64 p1.un.1, .int .i64 p1.un.2.1, .int .i64 p1.un.2.2.1, v2]), (some 34, b4, [.int .i64 x5.un.1, .int .i64 x5.un.2.1, .int .i64 x5.un.2.2.1, v5]), (some 34, b3, [.int .i64 p4.1, .int .i64 p4.2.1, .int .i64 p4.2.2.1, .int .i64 p4.2.2.2]), (some 39, b1, [.int .i64 p0.un.1, .int .i64 p0.un.2.1, .int .i64 p0.un.2.2.1, v1]), (some 39, b3, [.int .i64 p4.1, .int .i64 p4.2.1, .int .i64 p4.2.2.1, .int .i64 p4.2.2.2]), (some 54, b3, [.int .i64 p4.1, .int .i64 p4.2.1, .int .i64 p4.2.2.1, .int .i64 p4.2.2.2]), (some 59, b3, [.int .i64 p4.1, .int .i64 p4.2.1, .int .i64 p4.2.2.1, .int .i64 p4.2.2.2])]) (NZ3 := []) W Aa Aa (Ab (fun h => Ac (by kernel_rfl) h) (Ab (fun h => Ac (by kernel_rfl) h) (Ab (fun h => Ac (by kernel_rfl) h) (Ab (fun h => Ac (by kernel_rfl) h) (Ab (fun h => Ac (by kernel_rfl) h) (Ab (fun h => Ac (by kernel_rfl) h) (Ab (fun h => Ac (by kernel_rfl) h) (Ab (fun h => Ac (by kernel_rfl) h) (Ab (fun h => Ac (by kernel_rfl) h) (Ab (fun h => Ac (by kernel_rfl) h) (Ab (fun h => Ac (by kernel_rfl) h) (Ab (fun h => Ac (by kernel_rfl) h) (Ab (fun h => Ac (by kernel_rfl) h) (Ab (fun h => Ac (by kernel_rfl) h) (Ab (fun h => Ac (by kernel_rfl) h) (Ab (fun _ => (.tail _ (.head _))) Al)))))))))))))))) Al ?_
  refine BG Aa ?_
  refine Fv (Af F Aa Aa Aa Aa) ?_
  obtain ⟨x20, h20, H⟩ := Am H
  refine ls F W Aa (AU (v := Value.int .i64 x20) F SL Aa (fun w W => Mc any w p5 p2 p3 p4 _ h20)) fun a w F W => ?_
  refine AC (N2 := []) (NZ2 := []) (N3 := [(some 1, b4, [.int .i64 x5.un.1, .int .i64 x5.un.2.1, .int .i64 x5.un.2.2.1, v5]), (some 3, b1, [.int .i64 p0.un.1, .int .i64 p0.un.2.1, .int .i64 p0.un.2.2.1, v1]), (some 7, b4, [.int .i64 x5.un.1, .int .i64 x5.un.2.1, .int .i64 x5.un.2.2.1, v5]), (some 9, b1, [.int .i64 p0.un.1, .int .i64 p0.un.2.1, .int .i64 p0.un.2.2.1, v1]), (some 14, b4, [.int .i64 x5.un.1, .int .i64 x5.un.2.1, .int .i64 x5.un.2.2.1, v5]), (some 16, b1, [.int .i64 p0.un.1, .int .i64 p0.un.2.1, .int .i64 p0.un.2.2.1, v1]), (some 23, b4, [.int .i64 x5.un.1, .int .i64 x5.un.2.1, .int .i64 x5.un.2.2.1, v5]), (some 22, b2, [.int .i64 p1.un.1, .int .i64 p1.un.2.1, .int .i64 p1.un.2.2.1, v2]), (some 26, b1, [.int .i64 p0.un.1, .int .i64 p0.un.2.1, .int .i64 p0.un.2.2.1, v1]), (some 26, b2, [.int .i64 p1.un.1, .int .i64 p1.un.2.1, .int .i64 p1.un.2.2.1, v2]), (some 34, b4, [.int .i64 x5.un.1, .int .i64 x5.un.2.1, .int .i64 x5.un.2.2.1, v5]), (some 34, b3, [.int .i64 p4.1, .int .i64 p4.2.1, .int .i64 p4.2.2.1, .int .i64 p4.2.2.2]), (some 39, b1, [.int .i64 p0.un.1, .int .i64 p0.un.2.1, .int .i64 p0.un.2.2.1, v1]), (some 39, b3, [.int .i64 p4.1, .int .i64 p4.2.1, .int .i64 p4.2.2.1, .int .i64 p4.2.2.2]), (some 54, b3, [.int .i64 p4.1, .int .i64 p4.2.1, .int .i64 p4.2.2.1, .int .i64 p4.2.2.2]), (some 59, b3, [.int .i64 p4.1, .int .i64 p4.2.1, .int .i64 p4.2.2.1, .int .i64 p4.2.2.2])]) (NZ3 := []) W Aa Aa (Ab (fun h => Ac (by kernel_rfl) h) (Ab (fun h => Ac (by kernel_rfl) h) (Ab (fun h => Ac (by kernel_rfl) h) (Ab (fun h => Ac (by kernel_rfl) h) (Ab (fun h => Ac (by kernel_rfl) h) (Ab (fun h => Ac (by kernel_rfl) h) (Ab (fun h => Ac (by kernel_rfl) h) (Ab (fun h => Ac (by kernel_rfl) h) (Ab (fun h => Ac (by kernel_rfl) h) (Ab (fun h => Ac (by kernel_rfl) h) (Ab (fun h => Ac (by kernel_rfl) h) (Ab (fun h => Ac (by kernel_rfl) h) (Ab (fun h => Ac (by kernel_rfl) h) (Ab (fun h => Ac (by kernel_rfl) h) (Ab (fun h => Ac (by kernel_rfl) h) (Ab (fun h => Ac (by kernel_rfl) h) Al)))))))))))))))) Al ?_
  refine E9 (R := []) F Aa (Af F Aa Aa Aa Aa) Aa Aa (yC fun M Z hN hZ => E7 F Aa Aa) Aa Aa fun a F => ?_
  refine A6 (R := []) F Aa Aa (yC fun M Z hN hZ => As F Aa Aa Aa) Aa Aa fun a F => ?_
  refine DS (Ad ?_)
  have W := W.frontZ (i := 1) Aa Aa
  have W := W.frontM (i := 3) Aa Aa
  have W := W.frontM (i := 3) Aa Aa
  have W := W.frontM (i := 3) Aa Aa
  have W := W.frontM (i := 3) Aa Aa
  have W := W.sub (M' := [(b4, [.int .i64 x5.un.1, .int .i64 x5.un.2.1, .int .i64 x5.un.2.2.1, v5]), (b3, [.int .i64 p4.1, .int .i64 p4.2.1, .int .i64 p4.2.2.1, .int .i64 p4.2.2.2]), (b2, [.int .i64 p1.un.1, .int .i64 p1.un.2.1, .int .i64 p1.un.2.2.1, v2]), (b1, [.int .i64 p0.un.1, .int .i64 p0.un.2.1, .int .i64 p0.un.2.2.1, v1])]) (Z' := [row v5 31 BJ x5.un.2.2.2]) (List.Sublist.refl _) (List.Sublist.cons_cons _ (List.nil_sublist _))
  exact ⟨_, H, F.re ⟨rfl, Aa, Aa, Aa, Aa, trivial⟩, W⟩
 rintro a w ⟨x6, hj, F, W⟩
 have hj := AM hj
 subst hj
 have H := K2
 clear G2 K2
 refine Ay F Aa (fun hb => ?_) fun hb => ?_
 ·
  have H := AW hb H
  rw [hb] at F
  clear hb
  refine Aj (Ae ?_)
  refine ls F W Aa (Ah F Aa).q fun a w F W => ?_
  refine Ag (Ad (Az (AR ?_)))
  have H := AM H
  subst H
  refine AQ (.inl Aa) F W Aa (AD F Aa) ?_
  exact ⟨rfl, W.done⟩
 have H := AX (by rw [hb]; decide) H
 rw [hb] at F
 clear hb
 refine Aw (Ad (Aj (Aj (Ae ?_))))
 refine ls F W Aa (Aq (v := Value.agg #[.int .i64 p0.un.1, .int .i64 p0.un.2.1, .int .i64 p0.un.2.2.1, v1]) 3 F Aa Aa FC Aa).q fun a w F W => ?_
 obtain ⟨x21, h21, H⟩ := Am H
 refine ls F W Aa (AU (v := Value.bool x21) F H9 Aa (fun w W => JL any w (v1) p0 _ h21 (((AP C7 h1 (Av h_v1)) : EC _ _ _ _ _ _) w W).nx)) fun a w F W => ?_
 refine ls F W Aa (ET F Aa).q fun a w F W => ?_
 refine Ag (Ad ?_)
 refine Ay F Aa (fun hb => ?_) fun hb => ?_
 ·
  have H := AW hb H
  rw [hb] at F
  clear hb
  refine Aj (Ae ?_)
  obtain ⟨x22, h22, H⟩ := Am H
  refine ls F W Aa (AU (v := Value.bool x22) F H6 Aa (fun w W => HG any w _ h22 (hG.go0 W))) fun a w F W => ?_
  refine ls F W Aa (Ah F Aa).q fun a w F W => ?_
  refine Ag (Ad (Az (AR ?_)))
  have H := AM H
  subst H
  refine AQ (.inl Aa) F W Aa (AD F Aa) ?_
  exact ⟨rfl, W.done⟩
 have H := AX (by rw [hb]; decide) H
 rw [hb] at F
 clear hb
 refine Aw (Ad ?_)
 obtain ⟨o3, G3, K3⟩ := Am H
 refine AO (fun a w => ∃ x23 : Bool, some (x23) = some o3 ∧ Fr 116 [] [(12, .bool x23)] a ∧ Stw ⟨Y, [], w0⟩ [(b4, [.int .i64 x5.un.1, .int .i64 x5.un.2.1, .int .i64 x5.un.2.2.1, v5]), (b3, [.int .i64 p4.1, .int .i64 p4.2.1, .int .i64 p4.2.2.1, .int .i64 p4.2.2.2]), (b2, [.int .i64 p1.un.1, .int .i64 p1.un.2.1, .int .i64 p1.un.2.2.1, v2]), (b1, [.int .i64 p0.un.1, .int .i64 p0.un.2.1, .int .i64 p0.un.2.2.1, v1])] [row v5 31 BJ x5.un.2.2.2] w) ?_ ?_
 ·
  have H := G3
  clear G3 K3
  refine Eb [(true, 0), (true, 3), (false, 1), (false, 2), (false, 4), (false, 5), (true, 6), (true, 7), (true, 8), (true, 10), (true, 11), (false, 9), (false, 12), (false, 13), (true, 14), (true, 15), (true, 16), (true, 18), (false, 17), (false, 19), (true, 20), (true, 21), (true, 22), (false, 23), (true, 24), (false, 25)] (CN ⟨Y, [], w0⟩ [(some 1, b4, [.int .i64 x5.un.1, .int .i64 x5.un.2.1, .int .i64 x5.un.2.2.1, v5]), (some 4, b1, [.int .i64 p0.un.1, .int .i64 p0.un.2.1, .int .i64 p0.un.2.2.1, v1])] []) (fun ch a d v w h => by cases d <;> exact h) MO (by kernel_rfl) W (fun w W => ⟨_, _, W, (Ab (fun _ => (.head _)) (Ab (fun _ => (.tail _ (.tail _ (.tail _ (.head _))))) Al)), Al⟩) fun w W => ?_
  refine A6 (R := [1]) F Aa Aa (yC fun M Z hN hZ => B6 (cs := [.int .i64 x5.un.1, .int .i64 x5.un.2.1, .int .i64 x5.un.2.2.1, v5]) (v := Value.agg #[.int .i64 x5.un.1, .int .i64 x5.un.2.1, .int .i64 x5.un.2.2.1, v5]) F Aa (hN ((some 1), b4, [.int .i64 x5.un.1, .int .i64 x5.un.2.1, .int .i64 x5.un.2.2.1, v5]) (.head _) Aa) EA Aa) (by kernel_rfl) Aa fun a F => ?_
  refine A6 (R := [4]) F Aa Aa (yC fun M Z hN hZ => B6 (cs := [.int .i64 p0.un.1, .int .i64 p0.un.2.1, .int .i64 p0.un.2.2.1, v1]) (v := Value.agg #[.int .i64 p0.un.1, .int .i64 p0.un.2.1, .int .i64 p0.un.2.2.1, v1]) F Aa (hN ((some 4), b1, [.int .i64 p0.un.1, .int .i64 p0.un.2.1, .int .i64 p0.un.2.2.1, v1]) (.tail _ (.head _)) Aa) FC Aa) (by kernel_rfl) Aa fun a F => ?_
  refine BG Aa ?_
  obtain ⟨x24, h23, H⟩ := Am H
  refine BD (Ml := []) (Zl := []) (M := [(b4, [.int .i64 x5.un.1, .int .i64 x5.un.2.1, .int .i64 x5.un.2.2.1, v5]), (b3, [.int .i64 p4.1, .int .i64 p4.2.1, .int .i64 p4.2.2.1, .int .i64 p4.2.2.2]), (b2, [.int .i64 p1.un.1, .int .i64 p1.un.2.1, .int .i64 p1.un.2.2.1, v2]), (b1, [.int .i64 p0.un.1, .int .i64 p0.un.2.1, .int .i64 p0.un.2.2.1, v1])]) (Z := [row v5 31 BJ x5.un.2.2.2]) (β := Value) (rv := fun x => .agg #[.int .i64 x24.un.1, .int .i64 x24.un.2.1, .int .i64 x24.un.2.2.1, x]) (MM := fun x => []) (ZZ := fun x => [row x 31 BJ x24.un.2.2.2]) F W RP Aa Aa (fun hL => JB _ w (v5) x5 _ h23 ((Ap 0 Aa) w W).nx) fun x a w F W => ?_
  obtain ⟨v7, rfl⟩ : ∃ y, y = x := ⟨x, rfl⟩
  have W : Stw ⟨Y, [], w0⟩ [(b4, [.int .i64 x5.un.1, .int .i64 x5.un.2.1, .int .i64 x5.un.2.2.1, v5]), (b3, [.int .i64 p4.1, .int .i64 p4.2.1, .int .i64 p4.2.2.1, .int .i64 p4.2.2.2]), (b2, [.int .i64 p1.un.1, .int .i64 p1.un.2.1, .int .i64 p1.un.2.2.1, v2]), (b1, [.int .i64 p0.un.1, .int .i64 p0.un.2.1, .int .i64 p0.un.2.2.1, v1])] [row v7 31 BJ x24.un.2.2.2, row v5 31 BJ x5.un.2.2.2] w := W
  refine AC (N2 := []) (NZ2 := []) (N3 := [(some 1, b4, [.int .i64 x5.un.1, .int .i64 x5.un.2.1, .int .i64 x5.un.2.2.1, v5]), (some 4, b1, [.int .i64 p0.un.1, .int .i64 p0.un.2.1, .int .i64 p0.un.2.2.1, v1])]) (NZ3 := []) W Aa Aa (Ab (fun h => Ac (by kernel_rfl) h) (Ab (fun _ => (.tail _ (.tail _ (.tail _ (.head _))))) Al)) Al ?_
  refine BG Aa ?_
  obtain ⟨x25, h24, H⟩ := Am H
  refine BD (Ml := []) (Zl := []) (M := [(b4, [.int .i64 x5.un.1, .int .i64 x5.un.2.1, .int .i64 x5.un.2.2.1, v5]), (b3, [.int .i64 p4.1, .int .i64 p4.2.1, .int .i64 p4.2.2.1, .int .i64 p4.2.2.2]), (b2, [.int .i64 p1.un.1, .int .i64 p1.un.2.1, .int .i64 p1.un.2.2.1, v2]), (b1, [.int .i64 p0.un.1, .int .i64 p0.un.2.1, .int .i64 p0.un.2.2.1, v1])]) (Z := [row v7 31 BJ x24.un.2.2.2, row v5 31 BJ x5.un.2.2.2]) (β := Value) (rv := fun x => .agg #[.int .i64 x25.un.1, .int .i64 x25.un.2.1, .int .i64 x25.un.2.2.1, x]) (MM := fun x => []) (ZZ := fun x => [row x 24 CJ x25.un.2.2.2]) F W SK Aa Aa (fun hL => MU _ w (v7) x24 _ h24 ((Ap 0 Aa) w W).nx) fun x a w F W => ?_
  obtain ⟨v8, rfl⟩ : ∃ y, y = x := ⟨x, rfl⟩
  have W : Stw ⟨Y, [], w0⟩ [(b4, [.int .i64 x5.un.1, .int .i64 x5.un.2.1, .int .i64 x5.un.2.2.1, v5]), (b3, [.int .i64 p4.1, .int .i64 p4.2.1, .int .i64 p4.2.2.1, .int .i64 p4.2.2.2]), (b2, [.int .i64 p1.un.1, .int .i64 p1.un.2.1, .int .i64 p1.un.2.2.1, v2]), (b1, [.int .i64 p0.un.1, .int .i64 p0.un.2.1, .int .i64 p0.un.2.2.1, v1])] [row v8 24 CJ x25.un.2.2.2, row v7 31 BJ x24.un.2.2.2, row v5 31 BJ x5.un.2.2.2] w := W
  refine AC (N2 := []) (NZ2 := []) (N3 := [(some 1, b4, [.int .i64 x5.un.1, .int .i64 x5.un.2.1, .int .i64 x5.un.2.2.1, v5]), (some 4, b1, [.int .i64 p0.un.1, .int .i64 p0.un.2.1, .int .i64 p0.un.2.2.1, v1])]) (NZ3 := []) W Aa Aa (Ab (fun h => Ac (by kernel_rfl) h) (Ab (fun _ => (.tail _ (.tail _ (.tail _ (.head _))))) Al)) Al ?_
  refine BG Aa ?_
  obtain ⟨x26, h25, H⟩ := Am H
  refine BD (Ml := []) (Zl := []) (M := [(b4, [.int .i64 x5.un.1, .int .i64 x5.un.2.1, .int .i64 x5.un.2.2.1, v5]), (b3, [.int .i64 p4.1, .int .i64 p4.2.1, .int .i64 p4.2.2.1, .int .i64 p4.2.2.2]), (b2, [.int .i64 p1.un.1, .int .i64 p1.un.2.1, .int .i64 p1.un.2.2.1, v2]), (b1, [.int .i64 p0.un.1, .int .i64 p0.un.2.1, .int .i64 p0.un.2.2.1, v1])]) (Z := [row v8 24 CJ x25.un.2.2.2, row v7 31 BJ x24.un.2.2.2, row v5 31 BJ x5.un.2.2.2]) (β := Value) (rv := fun x => .agg #[.int .i64 x26.un.1, .int .i64 x26.un.2.1, .int .i64 x26.un.2.2.1, x]) (MM := fun x => []) (ZZ := fun x => [Hi x CJ x26.un.2.2.2]) F W R2 Aa Aa (fun hL => NY _ w (v1) p0 _ h25 (Sl.hide C7 h1 (W.old s_v1))) fun x a w F W => ?_
  obtain ⟨v9, rfl⟩ : ∃ y, y = x := ⟨x, rfl⟩
  have W : Stw ⟨Y, [], w0⟩ [(b4, [.int .i64 x5.un.1, .int .i64 x5.un.2.1, .int .i64 x5.un.2.2.1, v5]), (b3, [.int .i64 p4.1, .int .i64 p4.2.1, .int .i64 p4.2.2.1, .int .i64 p4.2.2.2]), (b2, [.int .i64 p1.un.1, .int .i64 p1.un.2.1, .int .i64 p1.un.2.2.1, v2]), (b1, [.int .i64 p0.un.1, .int .i64 p0.un.2.1, .int .i64 p0.un.2.2.1, v1])] [Hi v9 CJ x26.un.2.2.2, row v8 24 CJ x25.un.2.2.2, row v7 31 BJ x24.un.2.2.2, row v5 31 BJ x5.un.2.2.2] w := W
  refine AC (N2 := []) (NZ2 := []) (N3 := [(some 1, b4, [.int .i64 x5.un.1, .int .i64 x5.un.2.1, .int .i64 x5.un.2.2.1, v5]), (some 4, b1, [.int .i64 p0.un.1, .int .i64 p0.un.2.1, .int .i64 p0.un.2.2.1, v1])]) (NZ3 := []) W Aa Aa (Ab (fun h => Ac (by kernel_rfl) h) (Ab (fun h => Ac (by kernel_rfl) h) Al)) Al ?_
  refine BG Aa ?_
  obtain ⟨x27, h26, H⟩ := Am H
  refine ls F W Aa (AU (v := Value.bool x27) F Ss Aa (fun w W => Kp any w (v8) (v9) x25 x26 _ h26 (((Ap 1 Aa) : EC _ _ _ _ _ _) w W).nx (((QL 0 Aa) : EC _ _ _ _ _ _) w W).nx)) fun a w F W => ?_
  refine AC (N2 := [(some 9, b4, [.int .i64 x5.un.1, .int .i64 x5.un.2.1, .int .i64 x5.un.2.2.1, v5]), (some 12, b1, [.int .i64 p0.un.1, .int .i64 p0.un.2.1, .int .i64 p0.un.2.2.1, v1])]) (NZ2 := []) (N3 := [(some 1, b4, [.int .i64 x5.un.1, .int .i64 x5.un.2.1, .int .i64 x5.un.2.2.1, v5]), (some 4, b1, [.int .i64 p0.un.1, .int .i64 p0.un.2.1, .int .i64 p0.un.2.2.1, v1]), (some 9, b4, [.int .i64 x5.un.1, .int .i64 x5.un.2.1, .int .i64 x5.un.2.2.1, v5]), (some 12, b1, [.int .i64 p0.un.1, .int .i64 p0.un.2.1, .int .i64 p0.un.2.2.1, v1])]) (NZ3 := []) W Aa Aa (Ab (fun h => Ac (by kernel_rfl) h) (Ab (fun h => Ac (by kernel_rfl) h) (Ab (fun _ => (.head _)) (Ab (fun _ => (.tail _ (.tail _ (.tail _ (.head _))))) Al)))) Al ?_
  refine A6 (R := []) F Aa Aa (yC fun M Z hN hZ => Ai F Aa) Aa Aa fun a F => ?_
  rcases Bool.eq_false_or_eq_true x27 with hb | hb
  ·
   have H := AW hb H
   rw [hb] at F
   clear hb
   refine E9 (R := [9]) F Aa (Af F Aa Aa Aa Aa) Aa Aa (yC fun M Z hN hZ => B6 (cs := [.int .i64 x5.un.1, .int .i64 x5.un.2.1, .int .i64 x5.un.2.2.1, v5]) (v := Value.agg #[.int .i64 x5.un.1, .int .i64 x5.un.2.1, .int .i64 x5.un.2.2.1, v5]) F Aa (hN ((some 9), b4, [.int .i64 x5.un.1, .int .i64 x5.un.2.1, .int .i64 x5.un.2.2.1, v5]) (.tail _ (.tail _ (.head _))) Aa) EA Aa) (by kernel_rfl) Aa fun a F => ?_
   refine E9 (R := []) F Aa (Af F Aa Aa Aa Aa) Aa Aa (yC fun M Z hN hZ => Ai F Aa) Aa Aa fun a F => ?_
   refine E9 (R := [12]) F Aa (Af F Aa Aa Aa Aa) Aa Aa (yC fun M Z hN hZ => B6 (cs := [.int .i64 p0.un.1, .int .i64 p0.un.2.1, .int .i64 p0.un.2.2.1, v1]) (v := Value.agg #[.int .i64 p0.un.1, .int .i64 p0.un.2.1, .int .i64 p0.un.2.2.1, v1]) F Aa (hN ((some 12), b1, [.int .i64 p0.un.1, .int .i64 p0.un.2.1, .int .i64 p0.un.2.2.1, v1]) (.tail _ (.tail _ (.tail _ (.head _)))) Aa) FC Aa) (by kernel_rfl) Aa fun a F => ?_
   refine E9 (R := []) F Aa (Af F Aa Aa Aa Aa) Aa Aa (yC fun M Z hN hZ => Ai F Aa) Aa Aa fun a F => ?_
   refine BG Aa ?_
   refine Fv (Af F Aa Aa Aa Aa) ?_
   obtain ⟨x28, h27, H⟩ := Am H
   refine BD (Ml := []) (Zl := []) (M := [(b4, [.int .i64 x5.un.1, .int .i64 x5.un.2.1, .int .i64 x5.un.2.2.1, v5]), (b3, [.int .i64 p4.1, .int .i64 p4.2.1, .int .i64 p4.2.2.1, .int .i64 p4.2.2.2]), (b2, [.int .i64 p1.un.1, .int .i64 p1.un.2.1, .int .i64 p1.un.2.2.1, v2]), (b1, [.int .i64 p0.un.1, .int .i64 p0.un.2.1, .int .i64 p0.un.2.2.1, v1])]) (Z := [Hi v9 CJ x26.un.2.2.2, row v8 24 CJ x25.un.2.2.2, row v7 31 BJ x24.un.2.2.2, row v5 31 BJ x5.un.2.2.2]) (β := Value) (rv := fun x => x) (MM := fun x => []) (ZZ := fun x => [row x 3 (Rp.int .i64) x28]) F W S5 Aa Aa (fun hL => LI _ w (v5) x5 p5 _ h27 ((Ap 3 Aa) w W).nx) fun x a w F W => ?_
   obtain ⟨v10, rfl⟩ : ∃ y, y = x := ⟨x, rfl⟩
   have W : Stw ⟨Y, [], w0⟩ [(b4, [.int .i64 x5.un.1, .int .i64 x5.un.2.1, .int .i64 x5.un.2.2.1, v5]), (b3, [.int .i64 p4.1, .int .i64 p4.2.1, .int .i64 p4.2.2.1, .int .i64 p4.2.2.2]), (b2, [.int .i64 p1.un.1, .int .i64 p1.un.2.1, .int .i64 p1.un.2.2.1, v2]), (b1, [.int .i64 p0.un.1, .int .i64 p0.un.2.1, .int .i64 p0.un.2.2.1, v1])] [row v10 3 (Rp.int .i64) x28, Hi v9 CJ x26.un.2.2.2, row v8 24 CJ x25.un.2.2.2, row v7 31 BJ x24.un.2.2.2, row v5 31 BJ x5.un.2.2.2] w := W
   refine AC (N2 := []) (NZ2 := []) (N3 := [(some 1, b4, [.int .i64 x5.un.1, .int .i64 x5.un.2.1, .int .i64 x5.un.2.2.1, v5]), (some 4, b1, [.int .i64 p0.un.1, .int .i64 p0.un.2.1, .int .i64 p0.un.2.2.1, v1]), (some 9, b4, [.int .i64 x5.un.1, .int .i64 x5.un.2.1, .int .i64 x5.un.2.2.1, v5]), (some 12, b1, [.int .i64 p0.un.1, .int .i64 p0.un.2.1, .int .i64 p0.un.2.2.1, v1])]) (NZ3 := []) W Aa Aa (Ab (fun h => Ac (by kernel_rfl) h) (Ab (fun h => Ac (by kernel_rfl) h) (Ab (fun h => Ac (by kernel_rfl) h) (Ab (fun _ => (.tail _ (.tail _ (.tail _ (.head _))))) Al)))) Al ?_
   refine BG Aa ?_
   refine Fv (Af F Aa Aa Aa Aa) ?_
   obtain ⟨x29, h28, H⟩ := Am H
   refine BD (Ml := []) (Zl := []) (M := [(b4, [.int .i64 x5.un.1, .int .i64 x5.un.2.1, .int .i64 x5.un.2.2.1, v5]), (b3, [.int .i64 p4.1, .int .i64 p4.2.1, .int .i64 p4.2.2.1, .int .i64 p4.2.2.2]), (b2, [.int .i64 p1.un.1, .int .i64 p1.un.2.1, .int .i64 p1.un.2.2.1, v2]), (b1, [.int .i64 p0.un.1, .int .i64 p0.un.2.1, .int .i64 p0.un.2.2.1, v1])]) (Z := [row v10 3 (Rp.int .i64) x28, Hi v9 CJ x26.un.2.2.2, row v8 24 CJ x25.un.2.2.2, row v7 31 BJ x24.un.2.2.2, row v5 31 BJ x5.un.2.2.2]) (β := Value) (rv := fun x => x) (MM := fun x => []) (ZZ := fun x => [row x 3 (Rp.int .i64) x29]) F W S9 Aa Aa (fun hL => MT _ w (v1) p0 p5 _ h28 ((AP C7 h1 (Av h_v1)) w W).nx) fun x a w F W => ?_
   obtain ⟨v11, rfl⟩ : ∃ y, y = x := ⟨x, rfl⟩
   have W : Stw ⟨Y, [], w0⟩ [(b4, [.int .i64 x5.un.1, .int .i64 x5.un.2.1, .int .i64 x5.un.2.2.1, v5]), (b3, [.int .i64 p4.1, .int .i64 p4.2.1, .int .i64 p4.2.2.1, .int .i64 p4.2.2.2]), (b2, [.int .i64 p1.un.1, .int .i64 p1.un.2.1, .int .i64 p1.un.2.2.1, v2]), (b1, [.int .i64 p0.un.1, .int .i64 p0.un.2.1, .int .i64 p0.un.2.2.1, v1])] [row v11 3 (Rp.int .i64) x29, row v10 3 (Rp.int .i64) x28, Hi v9 CJ x26.un.2.2.2, row v8 24 CJ x25.un.2.2.2, row v7 31 BJ x24.un.2.2.2, row v5 31 BJ x5.un.2.2.2] w := W
   refine AC (N2 := []) (NZ2 := []) (N3 := [(some 1, b4, [.int .i64 x5.un.1, .int .i64 x5.un.2.1, .int .i64 x5.un.2.2.1, v5]), (some 4, b1, [.int .i64 p0.un.1, .int .i64 p0.un.2.1, .int .i64 p0.un.2.2.1, v1]), (some 9, b4, [.int .i64 x5.un.1, .int .i64 x5.un.2.1, .int .i64 x5.un.2.2.1, v5]), (some 12, b1, [.int .i64 p0.un.1, .int .i64 p0.un.2.1, .int .i64 p0.un.2.2.1, v1])]) (NZ3 := []) W Aa Aa (Ab (fun h => Ac (by kernel_rfl) h) (Ab (fun h => Ac (by kernel_rfl) h) (Ab (fun h => Ac (by kernel_rfl) h) (Ab (fun h => Ac (by kernel_rfl) h) Al)))) Al ?_
   refine BG Aa ?_
   refine Fv (Af F Aa Aa Aa Aa) ?_
   obtain ⟨x30, h29, H⟩ := Am H
   refine ls F W Aa (AU (v := Value.bool x30) F S8 Aa (fun w W => NW any w (v10) (v11) x28 x29 _ h29 (((Ap 1 Aa) : EC _ _ _ _ _ _) w W).nx (((Ap 0 Aa) : EC _ _ _ _ _ _) w W).nx)) fun a w F W => ?_
   refine AC (N2 := [(some 17, b4, [.int .i64 x5.un.1, .int .i64 x5.un.2.1, .int .i64 x5.un.2.2.1, v5]), (some 19, b1, [.int .i64 p0.un.1, .int .i64 p0.un.2.1, .int .i64 p0.un.2.2.1, v1])]) (NZ2 := []) (N3 := [(some 1, b4, [.int .i64 x5.un.1, .int .i64 x5.un.2.1, .int .i64 x5.un.2.2.1, v5]), (some 4, b1, [.int .i64 p0.un.1, .int .i64 p0.un.2.1, .int .i64 p0.un.2.2.1, v1]), (some 9, b4, [.int .i64 x5.un.1, .int .i64 x5.un.2.1, .int .i64 x5.un.2.2.1, v5]), (some 12, b1, [.int .i64 p0.un.1, .int .i64 p0.un.2.1, .int .i64 p0.un.2.2.1, v1]), (some 17, b4, [.int .i64 x5.un.1, .int .i64 x5.un.2.1, .int .i64 x5.un.2.2.1, v5]), (some 19, b1, [.int .i64 p0.un.1, .int .i64 p0.un.2.1, .int .i64 p0.un.2.2.1, v1])]) (NZ3 := []) W Aa Aa (Ab (fun h => Ac (by kernel_rfl) h) (Ab (fun h => Ac (by kernel_rfl) h) (Ab (fun h => Ac (by kernel_rfl) h) (Ab (fun h => Ac (by kernel_rfl) h) (Ab (fun _ => (.head _)) (Ab (fun _ => (.tail _ (.tail _ (.tail _ (.head _))))) Al)))))) Al ?_
   refine A6 (R := []) F Aa Aa (yC fun M Z hN hZ => Au F Aa Aa Aa) Aa Aa fun a F => ?_
   refine A6 (R := []) F Aa Aa (yC fun M Z hN hZ => Ai F Aa) Aa Aa fun a F => ?_
   rcases Bool.eq_false_or_eq_true x30 with hb | hb
   ·
    have H := AW hb H
    rw [hb] at F
    clear hb
    refine E9 (R := [17]) F Aa (Af F Aa Aa Aa Aa) Aa Aa (yC fun M Z hN hZ => B6 (cs := [.int .i64 x5.un.1, .int .i64 x5.un.2.1, .int .i64 x5.un.2.2.1, v5]) (v := Value.agg #[.int .i64 x5.un.1, .int .i64 x5.un.2.1, .int .i64 x5.un.2.2.1, v5]) F Aa (hN ((some 17), b4, [.int .i64 x5.un.1, .int .i64 x5.un.2.1, .int .i64 x5.un.2.2.1, v5]) (.tail _ (.tail _ (.tail _ (.tail _ (.head _))))) Aa) EA Aa) (by kernel_rfl) Aa fun a F => ?_
    refine E9 (R := [19]) F Aa (Af F Aa Aa Aa Aa) Aa Aa (yC fun M Z hN hZ => B6 (cs := [.int .i64 p0.un.1, .int .i64 p0.un.2.1, .int .i64 p0.un.2.2.1, v1]) (v := Value.agg #[.int .i64 p0.un.1, .int .i64 p0.un.2.1, .int .i64 p0.un.2.2.1, v1]) F Aa (hN ((some 19), b1, [.int .i64 p0.un.1, .int .i64 p0.un.2.1, .int .i64 p0.un.2.2.1, v1]) (.tail _ (.tail _ (.tail _ (.tail _ (.tail _ (.head _)))))) Aa) FC Aa) (by kernel_rfl) Aa fun a F => ?_
    refine BG Aa ?_
    refine Fv (Af F Aa Aa Aa Aa) ?_
    obtain ⟨x31, h30, H⟩ := Am H
    refine ls F W Aa (AU (v := Value.string (bs x31)) F R5 Aa (fun w W => HV any w (v5) x5 _ h30 (((Ap 5 Aa) : EC _ _ _ _ _ _) w W).nx (hG.go0 W))) fun a w F W => ?_
    refine AC (N2 := []) (NZ2 := []) (N3 := [(some 1, b4, [.int .i64 x5.un.1, .int .i64 x5.un.2.1, .int .i64 x5.un.2.2.1, v5]), (some 4, b1, [.int .i64 p0.un.1, .int .i64 p0.un.2.1, .int .i64 p0.un.2.2.1, v1]), (some 9, b4, [.int .i64 x5.un.1, .int .i64 x5.un.2.1, .int .i64 x5.un.2.2.1, v5]), (some 12, b1, [.int .i64 p0.un.1, .int .i64 p0.un.2.1, .int .i64 p0.un.2.2.1, v1]), (some 17, b4, [.int .i64 x5.un.1, .int .i64 x5.un.2.1, .int .i64 x5.un.2.2.1, v5]), (some 19, b1, [.int .i64 p0.un.1, .int .i64 p0.un.2.1, .int .i64 p0.un.2.2.1, v1])]) (NZ3 := []) W Aa Aa (Ab (fun h => Ac (by kernel_rfl) h) (Ab (fun h => Ac (by kernel_rfl) h) (Ab (fun h => Ac (by kernel_rfl) h) (Ab (fun h => Ac (by kernel_rfl) h) (Ab (fun h => Ac (by kernel_rfl) h) (Ab (fun _ => (.tail _ (.tail _ (.tail _ (.head _))))) Al)))))) Al ?_
    refine BG Aa ?_
    refine Fv (Af F Aa Aa Aa Aa) ?_
    obtain ⟨x32, h31, H⟩ := Am H
    refine ls F W Aa (AU (v := Value.string (bs x32)) F SF Aa (fun w W => Oj any w (v1) p0 _ h31 (((AP C7 h1 (Av h_v1)) : EC _ _ _ _ _ _) w W).nx)) fun a w F W => ?_
    refine AC (N2 := []) (NZ2 := []) (N3 := [(some 1, b4, [.int .i64 x5.un.1, .int .i64 x5.un.2.1, .int .i64 x5.un.2.2.1, v5]), (some 4, b1, [.int .i64 p0.un.1, .int .i64 p0.un.2.1, .int .i64 p0.un.2.2.1, v1]), (some 9, b4, [.int .i64 x5.un.1, .int .i64 x5.un.2.1, .int .i64 x5.un.2.2.1, v5]), (some 12, b1, [.int .i64 p0.un.1, .int .i64 p0.un.2.1, .int .i64 p0.un.2.2.1, v1]), (some 17, b4, [.int .i64 x5.un.1, .int .i64 x5.un.2.1, .int .i64 x5.un.2.2.1, v5]), (some 19, b1, [.int .i64 p0.un.1, .int .i64 p0.un.2.1, .int .i64 p0.un.2.2.1, v1])]) (NZ3 := []) W Aa Aa (Ab (fun h => Ac (by kernel_rfl) h) (Ab (fun h => Ac (by kernel_rfl) h) (Ab (fun h => Ac (by kernel_rfl) h) (Ab (fun h => Ac (by kernel_rfl) h) (Ab (fun h => Ac (by kernel_rfl) h) (Ab (fun h => Ac (by kernel_rfl) h) Al)))))) Al ?_
    refine E9 (R := []) F Aa (Af F Aa Aa Aa Aa) Aa Aa (yC fun M Z hN hZ => P1 (l := x31) (m := x32) F Aa Aa) Aa Aa fun a F => ?_
    refine A6 (R := []) F Aa Aa (yC fun M Z hN hZ => Au F Aa Aa Aa) Aa Aa fun a F => ?_
    refine A6 (R := []) F Aa Aa (yC fun M Z hN hZ => Ai F Aa) Aa Aa fun a F => ?_
    rcases Bool.eq_false_or_eq_true (decide (x31 = x32)) with hb | hb
    ·
     have H := AW (Bm hb) H
     rw [hb] at F
     clear hb
     refine BG Aa ?_
     refine Fv (Af F Aa Aa Aa Aa) ?_
     obtain ⟨x33, h32, H⟩ := Am H
     refine ls F W Aa (AU (v := Value.bool x33) F H6 Aa (fun w W => HG any w _ h32 (hG.go0 W))) fun a w F W => ?_
     refine AC (N2 := []) (NZ2 := []) (N3 := [(some 1, b4, [.int .i64 x5.un.1, .int .i64 x5.un.2.1, .int .i64 x5.un.2.2.1, v5]), (some 4, b1, [.int .i64 p0.un.1, .int .i64 p0.un.2.1, .int .i64 p0.un.2.2.1, v1]), (some 9, b4, [.int .i64 x5.un.1, .int .i64 x5.un.2.1, .int .i64 x5.un.2.2.1, v5]), (some 12, b1, [.int .i64 p0.un.1, .int .i64 p0.un.2.1, .int .i64 p0.un.2.2.1, v1]), (some 17, b4, [.int .i64 x5.un.1, .int .i64 x5.un.2.1, .int .i64 x5.un.2.2.1, v5]), (some 19, b1, [.int .i64 p0.un.1, .int .i64 p0.un.2.1, .int .i64 p0.un.2.2.1, v1])]) (NZ3 := []) W Aa Aa (Ab (fun h => Ac (by kernel_rfl) h) (Ab (fun h => Ac (by kernel_rfl) h) (Ab (fun h => Ac (by kernel_rfl) h) (Ab (fun h => Ac (by kernel_rfl) h) (Ab (fun h => Ac (by kernel_rfl) h) (Ab (fun h => Ac (by kernel_rfl) h) Al)))))) Al ?_
     refine A6 (R := []) F Aa Aa (yC fun M Z hN hZ => Au F Aa Aa Aa) Aa Aa fun a F => ?_
     refine BG Aa ?_
     refine ls F W Aa (Ah F Aa).q fun a w F W => ?_
     refine AC (N2 := []) (NZ2 := []) (N3 := [(some 1, b4, [.int .i64 x5.un.1, .int .i64 x5.un.2.1, .int .i64 x5.un.2.2.1, v5]), (some 4, b1, [.int .i64 p0.un.1, .int .i64 p0.un.2.1, .int .i64 p0.un.2.2.1, v1]), (some 9, b4, [.int .i64 x5.un.1, .int .i64 x5.un.2.1, .int .i64 x5.un.2.2.1, v5]), (some 12, b1, [.int .i64 p0.un.1, .int .i64 p0.un.2.1, .int .i64 p0.un.2.2.1, v1]), (some 17, b4, [.int .i64 x5.un.1, .int .i64 x5.un.2.1, .int .i64 x5.un.2.2.1, v5]), (some 19, b1, [.int .i64 p0.un.1, .int .i64 p0.un.2.1, .int .i64 p0.un.2.2.1, v1])]) (NZ3 := []) W Aa Aa (Ab (fun h => Ac (by kernel_rfl) h) (Ab (fun h => Ac (by kernel_rfl) h) (Ab (fun h => Ac (by kernel_rfl) h) (Ab (fun h => Ac (by kernel_rfl) h) (Ab (fun h => Ac (by kernel_rfl) h) (Ab (fun h => Ac (by kernel_rfl) h) Al)))))) Al ?_
     refine DS (Ad ?_)
     have W := W.frontZ (i := 5) Aa Aa
     have W := W.frontM (i := 3) Aa Aa
     have W := W.frontM (i := 3) Aa Aa
     have W := W.frontM (i := 3) Aa Aa
     have W := W.frontM (i := 3) Aa Aa
     have W := W.sub (M' := [(b4, [.int .i64 x5.un.1, .int .i64 x5.un.2.1, .int .i64 x5.un.2.2.1, v5]), (b3, [.int .i64 p4.1, .int .i64 p4.2.1, .int .i64 p4.2.2.1, .int .i64 p4.2.2.2]), (b2, [.int .i64 p1.un.1, .int .i64 p1.un.2.1, .int .i64 p1.un.2.2.1, v2]), (b1, [.int .i64 p0.un.1, .int .i64 p0.un.2.1, .int .i64 p0.un.2.2.1, v1])]) (Z' := [row v5 31 BJ x5.un.2.2.2]) (List.Sublist.refl _) (List.Sublist.cons_cons _ (List.nil_sublist _))
     exact ⟨_, H, F.re ⟨rfl, trivial⟩, W⟩
    have H := AX (Bl hb) H
    rw [hb] at F
    clear hb
    refine BG Aa ?_
    refine CD F Aa Aa Aa Aa Aa Aa Aa fun a F => ?_
    refine AC (N2 := []) (NZ2 := []) (N3 := [(some 1, b4, [.int .i64 x5.un.1, .int .i64 x5.un.2.1, .int .i64 x5.un.2.2.1, v5]), (some 4, b1, [.int .i64 p0.un.1, .int .i64 p0.un.2.1, .int .i64 p0.un.2.2.1, v1]), (some 9, b4, [.int .i64 x5.un.1, .int .i64 x5.un.2.1, .int .i64 x5.un.2.2.1, v5]), (some 12, b1, [.int .i64 p0.un.1, .int .i64 p0.un.2.1, .int .i64 p0.un.2.2.1, v1]), (some 17, b4, [.int .i64 x5.un.1, .int .i64 x5.un.2.1, .int .i64 x5.un.2.2.1, v5]), (some 19, b1, [.int .i64 p0.un.1, .int .i64 p0.un.2.1, .int .i64 p0.un.2.2.1, v1])]) (NZ3 := []) W Aa Aa (Ab (fun h => Ac (by kernel_rfl) h) (Ab (fun h => Ac (by kernel_rfl) h) (Ab (fun h => Ac (by kernel_rfl) h) (Ab (fun h => Ac (by kernel_rfl) h) (Ab (fun h => Ac (by kernel_rfl) h) (Ab (fun h => Ac (by kernel_rfl) h) Al)))))) Al ?_
    refine A6 (R := []) F Aa Aa (yC fun M Z hN hZ => As F Aa Aa Aa) Aa Aa fun a F => ?_
    refine BG Aa ?_
    refine ls F W Aa (Ah F Aa).q fun a w F W => ?_
    refine AC (N2 := []) (NZ2 := []) (N3 := [(some 1, b4, [.int .i64 x5.un.1, .int .i64 x5.un.2.1, .int .i64 x5.un.2.2.1, v5]), (some 4, b1, [.int .i64 p0.un.1, .int .i64 p0.un.2.1, .int .i64 p0.un.2.2.1, v1]), (some 9, b4, [.int .i64 x5.un.1, .int .i64 x5.un.2.1, .int .i64 x5.un.2.2.1, v5]), (some 12, b1, [.int .i64 p0.un.1, .int .i64 p0.un.2.1, .int .i64 p0.un.2.2.1, v1]), (some 17, b4, [.int .i64 x5.un.1, .int .i64 x5.un.2.1, .int .i64 x5.un.2.2.1, v5]), (some 19, b1, [.int .i64 p0.un.1, .int .i64 p0.un.2.1, .int .i64 p0.un.2.2.1, v1])]) (NZ3 := []) W Aa Aa (Ab (fun h => Ac (by kernel_rfl) h) (Ab (fun h => Ac (by kernel_rfl) h) (Ab (fun h => Ac (by kernel_rfl) h) (Ab (fun h => Ac (by kernel_rfl) h) (Ab (fun h => Ac (by kernel_rfl) h) (Ab (fun h => Ac (by kernel_rfl) h) Al)))))) Al ?_
    refine DS (Ad ?_)
    have W := W.frontZ (i := 5) Aa Aa
    have W := W.frontM (i := 3) Aa Aa
    have W := W.frontM (i := 3) Aa Aa
    have W := W.frontM (i := 3) Aa Aa
    have W := W.frontM (i := 3) Aa Aa
    have W := W.sub (M' := [(b4, [.int .i64 x5.un.1, .int .i64 x5.un.2.1, .int .i64 x5.un.2.2.1, v5]), (b3, [.int .i64 p4.1, .int .i64 p4.2.1, .int .i64 p4.2.2.1, .int .i64 p4.2.2.2]), (b2, [.int .i64 p1.un.1, .int .i64 p1.un.2.1, .int .i64 p1.un.2.2.1, v2]), (b1, [.int .i64 p0.un.1, .int .i64 p0.un.2.1, .int .i64 p0.un.2.2.1, v1])]) (Z' := [row v5 31 BJ x5.un.2.2.2]) (List.Sublist.refl _) (List.Sublist.cons_cons _ (List.nil_sublist _))
    exact ⟨_, H, F.re ⟨rfl, trivial⟩, W⟩
   have H := AX (by rw [hb]; decide) H
   rw [hb] at F
   clear hb
   iterate 2 refine BA F Aa (AH F Aa Aa Aa Aa Aa) Aa Aa Aa fun a F => ?_
   refine BG Aa ?_
   refine CD F Aa Aa Aa Aa Aa Aa Aa fun a F => ?_
   refine AC (N2 := []) (NZ2 := []) (N3 := [(some 1, b4, [.int .i64 x5.un.1, .int .i64 x5.un.2.1, .int .i64 x5.un.2.2.1, v5]), (some 4, b1, [.int .i64 p0.un.1, .int .i64 p0.un.2.1, .int .i64 p0.un.2.2.1, v1]), (some 9, b4, [.int .i64 x5.un.1, .int .i64 x5.un.2.1, .int .i64 x5.un.2.2.1, v5]), (some 12, b1, [.int .i64 p0.un.1, .int .i64 p0.un.2.1, .int .i64 p0.un.2.2.1, v1]), (some 17, b4, [.int .i64 x5.un.1, .int .i64 x5.un.2.1, .int .i64 x5.un.2.2.1, v5]), (some 19, b1, [.int .i64 p0.un.1, .int .i64 p0.un.2.1, .int .i64 p0.un.2.2.1, v1])]) (NZ3 := []) W Aa Aa (Ab (fun h => Ac (by kernel_rfl) h) (Ab (fun h => Ac (by kernel_rfl) h) (Ab (fun h => Ac (by kernel_rfl) h) (Ab (fun h => Ac (by kernel_rfl) h) (Ab (fun h => Ac (by kernel_rfl) h) (Ab (fun _ => (.tail _ (.tail _ (.tail _ (.head _))))) Al)))))) Al ?_
   refine BG Aa ?_
   refine CD F Aa Aa Aa Aa Aa Aa Aa fun a F => ?_
   refine AC (N2 := []) (NZ2 := []) (N3 := [(some 1, b4, [.int .i64 x5.un.1, .int .i64 x5.un.2.1, .int .i64 x5.un.2.2.1, v5]), (some 4, b1, [.int .i64 p0.un.1, .int .i64 p0.un.2.1, .int .i64 p0.un.2.2.1, v1]), (some 9, b4, [.int .i64 x5.un.1, .int .i64 x5.un.2.1, .int .i64 x5.un.2.2.1, v5]), (some 12, b1, [.int .i64 p0.un.1, .int .i64 p0.un.2.1, .int .i64 p0.un.2.2.1, v1]), (some 17, b4, [.int .i64 x5.un.1, .int .i64 x5.un.2.1, .int .i64 x5.un.2.2.1, v5]), (some 19, b1, [.int .i64 p0.un.1, .int .i64 p0.un.2.1, .int .i64 p0.un.2.2.1, v1])]) (NZ3 := []) W Aa Aa (Ab (fun h => Ac (by kernel_rfl) h) (Ab (fun h => Ac (by kernel_rfl) h) (Ab (fun h => Ac (by kernel_rfl) h) (Ab (fun h => Ac (by kernel_rfl) h) (Ab (fun h => Ac (by kernel_rfl) h) (Ab (fun h => Ac (by kernel_rfl) h) Al)))))) Al ?_
   refine BA F Aa (AH F Aa Aa Aa Aa Aa) Aa Aa Aa fun a F => ?_
   refine A6 (R := []) F Aa Aa (yC fun M Z hN hZ => As F Aa Aa Aa) Aa Aa fun a F => ?_
   refine A6 (R := []) F Aa Aa (yC fun M Z hN hZ => Ai F Aa) Aa Aa fun a F => ?_
   refine BG Aa ?_
   refine CD F Aa Aa Aa Aa Aa Aa Aa fun a F => ?_
   refine AC (N2 := []) (NZ2 := []) (N3 := [(some 1, b4, [.int .i64 x5.un.1, .int .i64 x5.un.2.1, .int .i64 x5.un.2.2.1, v5]), (some 4, b1, [.int .i64 p0.un.1, .int .i64 p0.un.2.1, .int .i64 p0.un.2.2.1, v1]), (some 9, b4, [.int .i64 x5.un.1, .int .i64 x5.un.2.1, .int .i64 x5.un.2.2.1, v5]), (some 12, b1, [.int .i64 p0.un.1, .int .i64 p0.un.2.1, .int .i64 p0.un.2.2.1, v1]), (some 17, b4, [.int .i64 x5.un.1, .int .i64 x5.un.2.1, .int .i64 x5.un.2.2.1, v5]), (some 19, b1, [.int .i64 p0.un.1, .int .i64 p0.un.2.1, .int .i64 p0.un.2.2.1, v1])]) (NZ3 := []) W Aa Aa (Ab (fun h => Ac (by kernel_rfl) h) (Ab (fun h => Ac (by kernel_rfl) h) (Ab (fun h => Ac (by kernel_rfl) h) (Ab (fun h => Ac (by kernel_rfl) h) (Ab (fun h => Ac (by kernel_rfl) h) (Ab (fun h => Ac (by kernel_rfl) h) Al)))))) Al ?_
   refine A6 (R := []) F Aa Aa (yC fun M Z hN hZ => As F Aa Aa Aa) Aa Aa fun a F => ?_
   refine BG Aa ?_
   refine ls F W Aa (Ah F Aa).q fun a w F W => ?_
   refine AC (N2 := []) (NZ2 := []) (N3 := [(some 1, b4, [.int .i64 x5.un.1, .int .i64 x5.un.2.1, .int .i64 x5.un.2.2.1, v5]), (some 4, b1, [.int .i64 p0.un.1, .int .i64 p0.un.2.1, .int .i64 p0.un.2.2.1, v1]), (some 9, b4, [.int .i64 x5.un.1, .int .i64 x5.un.2.1, .int .i64 x5.un.2.2.1, v5]), (some 12, b1, [.int .i64 p0.un.1, .int .i64 p0.un.2.1, .int .i64 p0.un.2.2.1, v1]), (some 17, b4, [.int .i64 x5.un.1, .int .i64 x5.un.2.1, .int .i64 x5.un.2.2.1, v5]), (some 19, b1, [.int .i64 p0.un.1, .int .i64 p0.un.2.1, .int .i64 p0.un.2.2.1, v1])]) (NZ3 := []) W Aa Aa (Ab (fun h => Ac (by kernel_rfl) h) (Ab (fun h => Ac (by kernel_rfl) h) (Ab (fun h => Ac (by kernel_rfl) h) (Ab (fun h => Ac (by kernel_rfl) h) (Ab (fun h => Ac (by kernel_rfl) h) (Ab (fun h => Ac (by kernel_rfl) h) Al)))))) Al ?_
   refine DS (Ad ?_)
   have W := W.frontZ (i := 5) Aa Aa
   have W := W.frontM (i := 3) Aa Aa
   have W := W.frontM (i := 3) Aa Aa
   have W := W.frontM (i := 3) Aa Aa
   have W := W.frontM (i := 3) Aa Aa
   have W := W.sub (M' := [(b4, [.int .i64 x5.un.1, .int .i64 x5.un.2.1, .int .i64 x5.un.2.2.1, v5]), (b3, [.int .i64 p4.1, .int .i64 p4.2.1, .int .i64 p4.2.2.1, .int .i64 p4.2.2.2]), (b2, [.int .i64 p1.un.1, .int .i64 p1.un.2.1, .int .i64 p1.un.2.2.1, v2]), (b1, [.int .i64 p0.un.1, .int .i64 p0.un.2.1, .int .i64 p0.un.2.2.1, v1])]) (Z' := [row v5 31 BJ x5.un.2.2.2]) (List.Sublist.refl _) (List.Sublist.cons_cons _ (List.nil_sublist _))
   exact ⟨_, H, F.re ⟨rfl, trivial⟩, W⟩
  have H := AX (by rw [hb]; decide) H
  rw [hb] at F
  clear hb
  iterate 4 refine BA F Aa (AH F Aa Aa Aa Aa Aa) Aa Aa Aa fun a F => ?_
  refine BG Aa ?_
  refine CD F Aa Aa Aa Aa Aa Aa Aa fun a F => ?_
  refine AC (N2 := []) (NZ2 := []) (N3 := [(some 1, b4, [.int .i64 x5.un.1, .int .i64 x5.un.2.1, .int .i64 x5.un.2.2.1, v5]), (some 4, b1, [.int .i64 p0.un.1, .int .i64 p0.un.2.1, .int .i64 p0.un.2.2.1, v1]), (some 9, b4, [.int .i64 x5.un.1, .int .i64 x5.un.2.1, .int .i64 x5.un.2.2.1, v5]), (some 12, b1, [.int .i64 p0.un.1, .int .i64 p0.un.2.1, .int .i64 p0.un.2.2.1, v1])]) (NZ3 := []) W Aa Aa (Ab (fun h => Ac (by kernel_rfl) h) (Ab (fun h => Ac (by kernel_rfl) h) (Ab (fun h => Ac (by kernel_rfl) h) (Ab (fun _ => (.tail _ (.tail _ (.tail _ (.head _))))) Al)))) Al ?_
  refine BG Aa ?_
  refine CD F Aa Aa Aa Aa Aa Aa Aa fun a F => ?_
  refine AC (N2 := []) (NZ2 := []) (N3 := [(some 1, b4, [.int .i64 x5.un.1, .int .i64 x5.un.2.1, .int .i64 x5.un.2.2.1, v5]), (some 4, b1, [.int .i64 p0.un.1, .int .i64 p0.un.2.1, .int .i64 p0.un.2.2.1, v1]), (some 9, b4, [.int .i64 x5.un.1, .int .i64 x5.un.2.1, .int .i64 x5.un.2.2.1, v5]), (some 12, b1, [.int .i64 p0.un.1, .int .i64 p0.un.2.1, .int .i64 p0.un.2.2.1, v1])]) (NZ3 := []) W Aa Aa (Ab (fun h => Ac (by kernel_rfl) h) (Ab (fun h => Ac (by kernel_rfl) h) (Ab (fun h => Ac (by kernel_rfl) h) (Ab (fun h => Ac (by kernel_rfl) h) Al)))) Al ?_
  refine BG Aa ?_
  refine CD F Aa Aa Aa Aa Aa Aa Aa fun a F => ?_
  refine AC (N2 := []) (NZ2 := []) (N3 := [(some 1, b4, [.int .i64 x5.un.1, .int .i64 x5.un.2.1, .int .i64 x5.un.2.2.1, v5]), (some 4, b1, [.int .i64 p0.un.1, .int .i64 p0.un.2.1, .int .i64 p0.un.2.2.1, v1]), (some 9, b4, [.int .i64 x5.un.1, .int .i64 x5.un.2.1, .int .i64 x5.un.2.2.1, v5]), (some 12, b1, [.int .i64 p0.un.1, .int .i64 p0.un.2.1, .int .i64 p0.un.2.2.1, v1])]) (NZ3 := []) W Aa Aa (Ab (fun h => Ac (by kernel_rfl) h) (Ab (fun h => Ac (by kernel_rfl) h) (Ab (fun h => Ac (by kernel_rfl) h) (Ab (fun h => Ac (by kernel_rfl) h) Al)))) Al ?_
  refine A6 (R := []) F Aa Aa (yC fun M Z hN hZ => As F Aa Aa Aa) Aa Aa fun a F => ?_
  refine A6 (R := []) F Aa Aa (yC fun M Z hN hZ => Ai F Aa) Aa Aa fun a F => ?_
  iterate 2 refine BA F Aa (AH F Aa Aa Aa Aa Aa) Aa Aa Aa fun a F => ?_
  refine BG Aa ?_
  refine CD F Aa Aa Aa Aa Aa Aa Aa fun a F => ?_
  refine AC (N2 := []) (NZ2 := []) (N3 := [(some 1, b4, [.int .i64 x5.un.1, .int .i64 x5.un.2.1, .int .i64 x5.un.2.2.1, v5]), (some 4, b1, [.int .i64 p0.un.1, .int .i64 p0.un.2.1, .int .i64 p0.un.2.2.1, v1]), (some 9, b4, [.int .i64 x5.un.1, .int .i64 x5.un.2.1, .int .i64 x5.un.2.2.1, v5]), (some 12, b1, [.int .i64 p0.un.1, .int .i64 p0.un.2.1, .int .i64 p0.un.2.2.1, v1])]) (NZ3 := []) W Aa Aa (Ab (fun h => Ac (by kernel_rfl) h) (Ab (fun h => Ac (by kernel_rfl) h) (Ab (fun h => Ac (by kernel_rfl) h) (Ab (fun h => Ac (by kernel_rfl) h) Al)))) Al ?_
  refine BG Aa ?_
  refine CD F Aa Aa Aa Aa Aa Aa Aa fun a F => ?_
  refine AC (N2 := []) (NZ2 := []) (N3 := [(some 1, b4, [.int .i64 x5.un.1, .int .i64 x5.un.2.1, .int .i64 x5.un.2.2.1, v5]), (some 4, b1, [.int .i64 p0.un.1, .int .i64 p0.un.2.1, .int .i64 p0.un.2.2.1, v1]), (some 9, b4, [.int .i64 x5.un.1, .int .i64 x5.un.2.1, .int .i64 x5.un.2.2.1, v5]), (some 12, b1, [.int .i64 p0.un.1, .int .i64 p0.un.2.1, .int .i64 p0.un.2.2.1, v1])]) (NZ3 := []) W Aa Aa (Ab (fun h => Ac (by kernel_rfl) h) (Ab (fun h => Ac (by kernel_rfl) h) (Ab (fun h => Ac (by kernel_rfl) h) (Ab (fun h => Ac (by kernel_rfl) h) Al)))) Al ?_
  refine BA F Aa (AH F Aa Aa Aa Aa Aa) Aa Aa Aa fun a F => ?_
  refine A6 (R := []) F Aa Aa (yC fun M Z hN hZ => As F Aa Aa Aa) Aa Aa fun a F => ?_
  refine A6 (R := []) F Aa Aa (yC fun M Z hN hZ => Ai F Aa) Aa Aa fun a F => ?_
  refine BG Aa ?_
  refine CD F Aa Aa Aa Aa Aa Aa Aa fun a F => ?_
  refine AC (N2 := []) (NZ2 := []) (N3 := [(some 1, b4, [.int .i64 x5.un.1, .int .i64 x5.un.2.1, .int .i64 x5.un.2.2.1, v5]), (some 4, b1, [.int .i64 p0.un.1, .int .i64 p0.un.2.1, .int .i64 p0.un.2.2.1, v1]), (some 9, b4, [.int .i64 x5.un.1, .int .i64 x5.un.2.1, .int .i64 x5.un.2.2.1, v5]), (some 12, b1, [.int .i64 p0.un.1, .int .i64 p0.un.2.1, .int .i64 p0.un.2.2.1, v1])]) (NZ3 := []) W Aa Aa (Ab (fun h => Ac (by kernel_rfl) h) (Ab (fun h => Ac (by kernel_rfl) h) (Ab (fun h => Ac (by kernel_rfl) h) (Ab (fun h => Ac (by kernel_rfl) h) Al)))) Al ?_
  refine A6 (R := []) F Aa Aa (yC fun M Z hN hZ => As F Aa Aa Aa) Aa Aa fun a F => ?_
  refine BG Aa ?_
  refine ls F W Aa (Ah F Aa).q fun a w F W => ?_
  refine AC (N2 := []) (NZ2 := []) (N3 := [(some 1, b4, [.int .i64 x5.un.1, .int .i64 x5.un.2.1, .int .i64 x5.un.2.2.1, v5]), (some 4, b1, [.int .i64 p0.un.1, .int .i64 p0.un.2.1, .int .i64 p0.un.2.2.1, v1]), (some 9, b4, [.int .i64 x5.un.1, .int .i64 x5.un.2.1, .int .i64 x5.un.2.2.1, v5]), (some 12, b1, [.int .i64 p0.un.1, .int .i64 p0.un.2.1, .int .i64 p0.un.2.2.1, v1])]) (NZ3 := []) W Aa Aa (Ab (fun h => Ac (by kernel_rfl) h) (Ab (fun h => Ac (by kernel_rfl) h) (Ab (fun h => Ac (by kernel_rfl) h) (Ab (fun h => Ac (by kernel_rfl) h) Al)))) Al ?_
  refine DS (Ad ?_)
  have W := W.frontZ (i := 3) Aa Aa
  have W := W.frontM (i := 3) Aa Aa
  have W := W.frontM (i := 3) Aa Aa
  have W := W.frontM (i := 3) Aa Aa
  have W := W.frontM (i := 3) Aa Aa
  have W := W.sub (M' := [(b4, [.int .i64 x5.un.1, .int .i64 x5.un.2.1, .int .i64 x5.un.2.2.1, v5]), (b3, [.int .i64 p4.1, .int .i64 p4.2.1, .int .i64 p4.2.2.1, .int .i64 p4.2.2.2]), (b2, [.int .i64 p1.un.1, .int .i64 p1.un.2.1, .int .i64 p1.un.2.2.1, v2]), (b1, [.int .i64 p0.un.1, .int .i64 p0.un.2.1, .int .i64 p0.un.2.2.1, v1])]) (Z' := [row v5 31 BJ x5.un.2.2.2]) (List.Sublist.refl _) (List.Sublist.cons_cons _ (List.nil_sublist _))
  exact ⟨_, H, F.re ⟨rfl, trivial⟩, W⟩
 rintro a w ⟨x23, hj, F, W⟩
 have hj := AM hj
 subst hj
 have H := K3
 clear G3 K3
 refine Az ?_
 have H := AM H
 subst H
 refine AQ (.inl Aa) F W Aa (AD F Aa) ?_
 exact ⟨rfl, W.done⟩
end Go.Proofs.YtepfcpffbabgmaaDoor
