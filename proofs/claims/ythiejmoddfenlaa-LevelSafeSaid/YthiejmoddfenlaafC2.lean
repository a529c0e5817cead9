/- The functions of layer 23, HB. Conditions: none. -/
import Derived.Test.YthiejmoddfenlaafC1
namespace Go.Proofs.Ythiejmoddfenlaa
open Go Go.RowKit
set_option linter.unusedVariables false
set_option linter.unusedSimpArgs false
set_option maxRecDepth 20000
theorem Rf : Has Try.prog 13 := ⟨fun args w => Al Try.func13 rfl (by decide) args w⟩
noncomputable def GU (p0 : Int × (List (Int × Int × Int × Int × Int × Int)) × (List (Int × Int))) (p1 : List (List Int)) (p2 : List (List Int)) (p3 : Int) (p4 : List Int) : Option Bool := ((Hy p0 p1).bind fun x2 => (if (!x2) = true then some true else (Hy p0 p2).bind fun x3 => (if (!x3) = true then some true else (if 20 < (p4.length : Int) then some true else (Id p0 p1).bind fun x4 => (if (!x4) = true then some true else (Id p0 p2).bind fun x5 => some (!x5)))))).bind fun x1 => (if x1 = true then (GN).bind fun x6 => some x6 else (EL p0 p1 p2).bind fun x7 => (if x7.2 = 0 then (D4 p1 x7.1 p3 p4).bind fun x9 => (EP p0 x9).bind fun x10 => (if x10 = true then (D4 p1 x7.1 p0.1 ([] : List Int)).bind fun x11 => (Ii x11 p2).bind fun x12 => (if x12 = true then (D4 p1 x7.1 0 ([] : List Int)).bind fun x13 => (Ii x13 p1).bind fun x14 => (if x14 = true then (GN).bind fun x15 => some x15 else some false) else some false) else some false) else some false).bind fun x8 => some x8)
theorem Ke (Y : Nat → Prop) (w0 : World) (v1 : Value) (v2 : Value) (v3 : Value) (v4 : Value) (v5 : Value) (p0 : Int × (List (Int × Int × Int × Int × Int × Int)) × (List (Int × Int))) (p1 : List (List Int)) (p2 : List (List Int)) (p3 : Int) (p4 : List Int) (r : Bool) (H : GU p0 p1 p2 p3 p4 = some r) (h_v1 : Sl w0 (NX []) Hi v1 p0.2.1) (h_v2 : Sl w0 (NX []) GE v2 p0.2.2) (s_v3 : Sl w0 Y (Rp.slice (Rp.int .i64)) v3 p1) (h_v4 : Sl w0 (NX []) (Rp.slice (Rp.int .i64)) v4 p2) (h_v5 : Sl w0 (NX []) (Rp.int .i64) v5 p4) :
    Calls Try.prog 3 #[.agg #[.int .i64 p0.1, v1, v2], v3, v4, .int .i64 p3, v5] w0 fun e w' => e = .returned (.bool r) ∧ Below w0.heap.size w0 w' := by
 refine enter Try.func3 Aa Try.ntmps3 Aa fun a F => ?_
 have W := Stw.start Y w0
 obtain ⟨v6, h1, s_v3⟩ := s_v3.ex Di
 obtain ⟨v7, h2, h_v4⟩ := h_v4.ex Di
 have h_v3 := W.nx s_v3
 unfold GU at H
 refine Ah (Ac ?_)
 refine E0 (cs := [.int .i64 p0.1, v1, v2]) F W Aa Aa Aa fun b1 a w F W => ?_
 refine ls F W Aa (Af F Aa).q fun a w F W => ?_
 refine Ae (Ab (Ah ?_))
 obtain ⟨o1, G1, K1⟩ := Ai H
 refine AM (fun a w => ∃ x1 : Bool, some (x1) = some o1 ∧ Fr 78 [] [(1, v3), (2, v4), (3, .int .i64 p3), (4, v5), (5, .pointer (some ⟨b1, 0, none⟩)), (10, .bool false), (39, .bool x1)] a ∧ Stw ⟨Y, [], w0⟩ [(b1, [.int .i64 p0.1, v1, v2])] [] w) ?_ ?_
 ·
  have H := G1
  clear G1 K1
  refine Ac ?_
  refine ls F W Aa (Az (v := Value.agg #[.int .i64 p0.1, v1, v2]) 0 F Aa Aa Jh Aa).q fun a w F W => ?_
  refine ls F W Aa (Ad F Aa).q fun a w F W => ?_
  obtain ⟨x2, h3, H⟩ := Ai H
  refine ls F W Aa (B0 (v := Value.bool x2) F H7 Aa (fun w W => Kd any w (v1) (v2) (v3) p0 p1 _ h3 (((Am h_v1) : DP _ _ _ _ _ _) w W).nx (((Am h_v2) : DP _ _ _ _ _ _) w W).nx (((BR Di h1 (Am h_v3)) : DP _ _ _ _ _ _) w W).nx)) fun a w F W => ?_
  refine ls F W Aa (Ek F Aa).q fun a w F W => ?_
  refine ls F W Aa (Ad F Aa).q fun a w F W => ?_
  rcases Bool.eq_false_or_eq_true (!x2) with hb | hb
  ·
   have H := AY hb H
   rw [hb] at F
   clear hb
   iterate 4 refine Dc F Aa Aa Aa Aa Aa Aa Aa fun a F => ?_
   refine ls F W Aa (As F Aa Aa Aa).q fun a w F W => ?_
   refine ls F W Aa (Ad F Aa).q fun a w F W => ?_
   iterate 3 refine Dc F Aa Aa Aa Aa Aa Aa Aa fun a F => ?_
   refine ls F W Aa (As F Aa Aa Aa).q fun a w F W => ?_
   refine ls F W Aa (Ad F Aa).q fun a w F W => ?_
   iterate 4 refine Dc F Aa Aa Aa Aa Aa Aa Aa fun a F => ?_
   refine ls F W Aa (As F Aa Aa Aa).q fun a w F W => ?_
   refine ls F W Aa (Ad F Aa).q fun a w F W => ?_
   iterate 4 refine Dc F Aa Aa Aa Aa Aa Aa Aa fun a F => ?_
   refine ls F W Aa (As F Aa Aa Aa).q fun a w F W => ?_
   refine Ae (Ab ?_)
   exact ⟨_, H, F.re ⟨rfl, Aa, Aa, Aa, Aa, Aa, Aa, trivial⟩, W⟩
  have H := AX (by rw [hb]; decide) H
  rw [hb] at F
  clear hb
  refine AP F W (Ag F Aa Aa Aa Aa) Aa (Ak Aa) (Az (v := Value.agg #[.int .i64 p0.1, v1, v2]) 0 F Aa Aa Jh Aa).q fun a w F W => ?_
  refine AP F W (Ag F Aa Aa Aa Aa) Aa (Ak Aa) (Ad F Aa).q fun a w F W => ?_
  refine Iv (Ag F Aa Aa Aa Aa) ?_
  obtain ⟨x3, h4, H⟩ := Ai H
  refine ls F W Aa (B0 (v := Value.bool x3) F H7 Aa (fun w W => Kd any w (v1) (v2) (v4) p0 p2 _ h4 (((Am h_v1) : DP _ _ _ _ _ _) w W).nx (((Am h_v2) : DP _ _ _ _ _ _) w W).nx (((BR Di h2 (Am h_v4)) : DP _ _ _ _ _ _) w W).nx)) fun a w F W => ?_
  refine AP F W (Ag F Aa Aa Aa Aa) Aa (Ak Aa) (Ek F Aa).q fun a w F W => ?_
  refine ls F W Aa (Ay F Aa Aa Aa).q fun a w F W => ?_
  refine ls F W Aa (Ad F Aa).q fun a w F W => ?_
  rcases Bool.eq_false_or_eq_true (!x3) with hb | hb
  ·
   have H := AY hb H
   rw [hb] at F
   clear hb
   iterate 3 refine Dc F Aa Aa Aa Aa Aa Aa Aa fun a F => ?_
   refine ls F W Aa (As F Aa Aa Aa).q fun a w F W => ?_
   refine ls F W Aa (Ad F Aa).q fun a w F W => ?_
   iterate 4 refine Dc F Aa Aa Aa Aa Aa Aa Aa fun a F => ?_
   refine ls F W Aa (As F Aa Aa Aa).q fun a w F W => ?_
   refine ls F W Aa (Ad F Aa).q fun a w F W => ?_
   iterate 4 refine Dc F Aa Aa Aa Aa Aa Aa Aa fun a F => ?_
   refine ls F W Aa (As F Aa Aa Aa).q fun a w F W => ?_
   refine Ae (Ab ?_)
   exact ⟨_, H, F.re ⟨rfl, Aa, Aa, Aa, Aa, Aa, Aa, trivial⟩, W⟩
  have H := AX (by rw [hb]; decide) H
  rw [hb] at F
  clear hb
  refine AP F W (Ag F Aa Aa Aa Aa) Aa (Ak Aa) (Ad F Aa).q fun a w F W => ?_
  refine AP F W (Ag F Aa Aa Aa Aa) Aa (Ak Aa) (B4 (r := (Rp.int .i64)) (l := p4) Hw Aa F Aa (Am h_v5)).q fun a w F W => ?_
  refine AP F W (Ag F Aa Aa Aa Aa) Aa (Ak Aa) (Gv F Aa Aa).q fun a w F W => ?_
  refine ls F W Aa (Ay F Aa Aa Aa).q fun a w F W => ?_
  refine ls F W Aa (Ad F Aa).q fun a w F W => ?_
  rcases Bool.eq_false_or_eq_true (decide (20 < (p4.length : Int))) with hb | hb
  ·
   have H := AY (BI hb) H
   rw [hb] at F
   clear hb
   iterate 4 refine Dc F Aa Aa Aa Aa Aa Aa Aa fun a F => ?_
   refine ls F W Aa (As F Aa Aa Aa).q fun a w F W => ?_
   refine ls F W Aa (Ad F Aa).q fun a w F W => ?_
   iterate 4 refine Dc F Aa Aa Aa Aa Aa Aa Aa fun a F => ?_
   refine ls F W Aa (As F Aa Aa Aa).q fun a w F W => ?_
   refine Ae (Ab ?_)
   exact ⟨_, H, F.re ⟨rfl, Aa, Aa, Aa, Aa, Aa, Aa, trivial⟩, W⟩
  have H := AX (BJ hb) H
  rw [hb] at F
  clear hb
  refine AP F W (Ag F Aa Aa Aa Aa) Aa (Ak Aa) (Az (v := Value.agg #[.int .i64 p0.1, v1, v2]) 0 F Aa Aa Jh Aa).q fun a w F W => ?_
  refine AP F W (Ag F Aa Aa Aa Aa) Aa (Ak Aa) (Ad F Aa).q fun a w F W => ?_
  refine Iv (Ag F Aa Aa Aa Aa) ?_
  obtain ⟨x4, h5, H⟩ := Ai H
  refine ls F W Aa (B0 (v := Value.bool x4) F H8 Aa (fun w W => KZ any w (v1) (v2) (v3) p0 p1 _ h5 (((Am h_v1) : DP _ _ _ _ _ _) w W).nx (((Am h_v2) : DP _ _ _ _ _ _) w W).nx (((BR Di h1 (Am h_v3)) : DP _ _ _ _ _ _) w W).nx)) fun a w F W => ?_
  refine AP F W (Ag F Aa Aa Aa Aa) Aa (Ak Aa) (Ek F Aa).q fun a w F W => ?_
  refine ls F W Aa (Ay F Aa Aa Aa).q fun a w F W => ?_
  refine ls F W Aa (Ad F Aa).q fun a w F W => ?_
  rcases Bool.eq_false_or_eq_true (!x4) with hb | hb
  ·
   have H := AY hb H
   rw [hb] at F
   clear hb
   iterate 4 refine Dc F Aa Aa Aa Aa Aa Aa Aa fun a F => ?_
   refine ls F W Aa (As F Aa Aa Aa).q fun a w F W => ?_
   refine Ae (Ab ?_)
   exact ⟨_, H, F.re ⟨rfl, Aa, Aa, Aa, Aa, Aa, Aa, trivial⟩, W⟩
  have H := AX (by rw [hb]; decide) H
  rw [hb] at F
  clear hb
  refine AP F W (Ag F Aa Aa Aa Aa) Aa (Ak Aa) (Az (v := Value.agg #[.int .i64 p0.1, v1, v2]) 0 F Aa Aa Jh Aa).q fun a w F W => ?_
  refine AP F W (Ag F Aa Aa Aa Aa) Aa (Ak Aa) (Ad F Aa).q fun a w F W => ?_
  refine Iv (Ag F Aa Aa Aa Aa) ?_
  obtain ⟨x5, h6, H⟩ := Ai H
  refine ls F W Aa (B0 (v := Value.bool x5) F H8 Aa (fun w W => KZ any w (v1) (v2) (v4) p0 p2 _ h6 (((Am h_v1) : DP _ _ _ _ _ _) w W).nx (((Am h_v2) : DP _ _ _ _ _ _) w W).nx (((BR Di h2 (Am h_v4)) : DP _ _ _ _ _ _) w W).nx)) fun a w F W => ?_
  refine AP F W (Ag F Aa Aa Aa Aa) Aa (Ak Aa) (Ek F Aa).q fun a w F W => ?_
  refine ls F W Aa (Ay F Aa Aa Aa).q fun a w F W => ?_
  refine Ae (Ab ?_)
  exact ⟨_, H, F.re ⟨rfl, Aa, Aa, Aa, Aa, Aa, Aa, trivial⟩, W⟩
 rintro a w ⟨x1, hj, F, W⟩
 have hj := A2 hj
 subst hj
 have H := K1
 clear G1 K1
 refine AA F Aa (fun hb => ?_) fun hb => ?_
 ·
  have H := AY hb H
  rw [hb] at F
  clear hb
  refine Ah (Ac ?_)
  obtain ⟨x6, h7, H⟩ := Ai H
  refine ls F W Aa (B0 (v := Value.bool x6) F H9 Aa (fun w W => JY any w _ h7)) fun a w F W => ?_
  refine ls F W Aa (Af F Aa).q fun a w F W => ?_
  refine Ae (Ab (AH (AL ?_)))
  have H := A2 H
  subst H
  refine BN (.inl Aa) F W Aa (Aw F Aa) ?_
  exact ⟨rfl, W.done⟩
 have H := AX (by rw [hb]; decide) H
 rw [hb] at F
 clear hb
 refine Av (Ab (Ah (Ac ?_)))
 refine ls F W Aa (Az (v := Value.agg #[.int .i64 p0.1, v1, v2]) 0 F Aa Aa Jh Aa).q fun a w F W => ?_
 iterate 2 refine ls F W Aa (Ad F Aa).q fun a w F W => ?_
 obtain ⟨x7, h8, H⟩ := Ai H
 refine B1 (Ml := []) (Zl := []) (M := [(b1, [.int .i64 p0.1, v1, v2])]) (Z := []) (β := Value) (rv := fun x => .tuple #[x, .int .i64 x7.2]) (MM := fun x => []) (ZZ := fun x => [row x 62 Be x7.1]) F W Rl Aa Aa (fun hL => Ja _ w (v1) (v2) (v3) (v4) p0 p1 p2 _ h8 ((Am h_v1) w W).nx ((Am h_v2) w W).nx ((BR Di h1 (Am h_v3)) w W).nx ((BR Di h2 (Am h_v4)) w W).nx) fun x a w F W => ?_
 obtain ⟨v8, rfl⟩ : ∃ y, y = x := ⟨x, rfl⟩
 have W : Stw ⟨Y, [], w0⟩ [(b1, [.int .i64 p0.1, v1, v2])] [row v8 62 Be x7.1] w := W
 refine ls F W Aa (Ad F Aa).q fun a w F W => ?_
 refine ls F W Aa (BE (v := v8) F Aa Aa).q fun a w F W => ?_
 refine ls F W Aa (BE (v := Value.int .i64 x7.2) F Aa Aa).q fun a w F W => ?_
 iterate 2 refine ls F W Aa (Af F Aa).q fun a w F W => ?_
 refine Ae (Ab ?_)
 obtain ⟨o2, G2, K2⟩ := Ai H
 refine AM (fun a w => ∃ x8 : Bool, some (x8) = some o2 ∧ Fr 78 [] [(10, .bool x8)] a ∧ Stw ⟨Y, [], w0⟩ [(b1, [.int .i64 p0.1, v1, v2])] [] w) ?_ ?_
 ·
  have H := G2
  clear G2 K2
  refine Gj [(true, 0), (true, 1), (true, 2), (true, 3), (true, 4), (true, 5), (true, 6), (true, 7), (false, 8), (false, 9), (true, 10), (true, 11), (true, 12), (true, 13), (true, 14), (true, 15), (true, 17), (false, 16), (false, 18), (true, 19), (true, 20), (true, 21), (true, 22), (true, 24), (false, 23), (false, 25), (true, 26), (true, 27), (false, 28), (true, 29), (false, 30)] (CN ⟨Y, [], w0⟩ [(some 9, b1, [.int .i64 p0.1, v1, v2])] []) (fun ch a d v w h => by cases d <;> exact h) MO (by kernel_rfl) W (fun w W => ⟨_, _, W, (all_cons (fun _ => (.head _)) AE), AE⟩) fun w W => ?_
  refine BQ (R := []) F Aa Aa (yC fun M Z hN hZ => Ad F Aa) Aa Aa fun a F => ?_
  refine BQ (R := []) F Aa Aa (yC fun M Z hN hZ => DV F Aa Aa) Aa Aa fun a F => ?_
  refine BQ (R := []) F Aa Aa (yC fun M Z hN hZ => Ad F Aa) Aa Aa fun a F => ?_
  rcases Bool.eq_false_or_eq_true (decide (x7.2 = 0)) with hb | hb
  ·
   have H := AY (BI hb) H
   rw [hb] at F
   clear hb
   refine Nk (R := [9]) F Aa (Ag F Aa Aa Aa Aa) Aa Aa (yC fun M Z hN hZ => Ms (cs := [.int .i64 p0.1, v1, v2]) (v := Value.agg #[.int .i64 p0.1, v1, v2]) F Aa (hN ((some 9), b1, [.int .i64 p0.1, v1, v2]) (.head _) Aa) Jh Aa) (by kernel_rfl) Aa fun a F => ?_
   iterate 4 refine Nk (R := []) F Aa (Ag F Aa Aa Aa Aa) Aa Aa (yC fun M Z hN hZ => Ad F Aa) Aa Aa fun a F => ?_
   refine Em Aa ?_
   refine Iv (Ag F Aa Aa Aa Aa) ?_
   obtain ⟨x9, h9, H⟩ := Ai H
   refine B1 (Ml := []) (Zl := []) (M := [(b1, [.int .i64 p0.1, v1, v2])]) (Z := [row v8 62 Be x7.1]) (β := Value) (rv := fun x => x) (MM := fun x => []) (ZZ := fun x => [row x 28 (Rp.slice (Rp.int .i64)) x9]) F W Q5 Aa Aa (fun hL => Iy _ w (v3) (v8) (v5) p1 x7.1 p3 p4 _ h9 (Sl.hide Di h1 (W.old s_v3)) ((An 0 Aa) w W).nx ((Am h_v5) w W).nx) fun x a w F W => ?_
   obtain ⟨v9, rfl⟩ : ∃ y, y = x := ⟨x, rfl⟩
   have W : Stw ⟨Y, [], w0⟩ [(b1, [.int .i64 p0.1, v1, v2])] [row v9 28 (Rp.slice (Rp.int .i64)) x9, row v8 62 Be x7.1] w := W
   refine BU (N2 := []) (NZ2 := []) (N3 := [(some 9, b1, [.int .i64 p0.1, v1, v2])]) (NZ3 := []) W Aa Aa (all_cons (fun _ => (.head _)) AE) AE ?_
   refine Em Aa ?_
   refine Iv (Ag F Aa Aa Aa Aa) ?_
   obtain ⟨x10, h10, H⟩ := Ai H
   refine ls F W Aa (B0 (v := Value.bool x10) F QR Aa (fun w W => Im any w (v1) (v2) (v9) p0 x9 _ h10 (((Am h_v1) : DP _ _ _ _ _ _) w W).nx (((Am h_v2) : DP _ _ _ _ _ _) w W).nx (((An 0 Aa) : DP _ _ _ _ _ _) w W).nx)) fun a w F W => ?_
   refine BU (N2 := [(some 16, b1, [.int .i64 p0.1, v1, v2])]) (NZ2 := []) (N3 := [(some 9, b1, [.int .i64 p0.1, v1, v2]), (some 16, b1, [.int .i64 p0.1, v1, v2])]) (NZ3 := []) W Aa Aa (all_cons (fun h => A4 (by kernel_rfl) h) (all_cons (fun _ => (.head _)) AE)) AE ?_
   refine BQ (R := []) F Aa Aa (yC fun M Z hN hZ => As F Aa Aa Aa) Aa Aa fun a F => ?_
   refine BQ (R := []) F Aa Aa (yC fun M Z hN hZ => Ad F Aa) Aa Aa fun a F => ?_
   rcases Bool.eq_false_or_eq_true x10 with hb | hb
   ·
    have H := AY hb H
    rw [hb] at F
    clear hb
    iterate 2 refine Nk (R := []) F Aa (Ag F Aa Aa Aa Aa) Aa Aa (yC fun M Z hN hZ => Ad F Aa) Aa Aa fun a F => ?_
    refine Nk (R := []) F Aa (Ag F Aa Aa Aa Aa) Aa Aa (yC fun M Z hN hZ => Aj Eu Aa Aa Aa T3 F Aa 0 Aa) Aa Aa fun a F => ?_
    refine Nk (R := [16]) F Aa (Ag F Aa Aa Aa Aa) Aa Aa (yC fun M Z hN hZ => Ms (cs := [.int .i64 p0.1, v1, v2]) (v := Value.int .i64 p0.1) F Aa (hN ((some 16), b1, [.int .i64 p0.1, v1, v2]) (.tail _ (.head _)) Aa) T3 Aa) (by kernel_rfl) Aa fun a F => ?_
    refine Nk (R := []) F Aa (Ag F Aa Aa Aa Aa) Aa Aa (yC fun M Z hN hZ => Ad F Aa) Aa Aa fun a F => ?_
    refine Em Aa ?_
    refine Iv (Ag F Aa Aa Aa Aa) ?_
    obtain ⟨x11, h11, H⟩ := Ai H
    refine B1 (Ml := []) (Zl := []) (M := [(b1, [.int .i64 p0.1, v1, v2])]) (Z := [row v9 28 (Rp.slice (Rp.int .i64)) x9, row v8 62 Be x7.1]) (β := Value) (rv := fun x => x) (MM := fun x => []) (ZZ := fun x => [row x 28 (Rp.slice (Rp.int .i64)) x11]) F W Q5 Aa Aa (fun hL => Iy _ w (v3) (v8) (Value.slice none 0 0) p1 x7.1 p0.1 ([] : List Int) _ h11 (Sl.hide Di h1 (W.old s_v3)) ((An 1 Aa) w W).nx Sl.nil) fun x a w F W => ?_
    obtain ⟨v10, rfl⟩ : ∃ y, y = x := ⟨x, rfl⟩
    have W : Stw ⟨Y, [], w0⟩ [(b1, [.int .i64 p0.1, v1, v2])] [row v10 28 (Rp.slice (Rp.int .i64)) x11, row v9 28 (Rp.slice (Rp.int .i64)) x9, row v8 62 Be x7.1] w := W
    refine BU (N2 := []) (NZ2 := []) (N3 := [(some 9, b1, [.int .i64 p0.1, v1, v2]), (some 16, b1, [.int .i64 p0.1, v1, v2])]) (NZ3 := []) W Aa Aa (all_cons (fun h => A4 (by kernel_rfl) h) (all_cons (fun h => A4 (by kernel_rfl) h) AE)) AE ?_
    refine Em Aa ?_
    refine Iv (Ag F Aa Aa Aa Aa) ?_
    obtain ⟨x12, h12, H⟩ := Ai H
    refine ls F W Aa (B0 (v := Value.bool x12) F Rf Aa (fun w W => KD any w (v10) (v4) x11 p2 _ h12 (((An 0 Aa) : DP _ _ _ _ _ _) w W).nx (((BR Di h2 (Am h_v4)) : DP _ _ _ _ _ _) w W).nx)) fun a w F W => ?_
    refine BU (N2 := []) (NZ2 := []) (N3 := [(some 9, b1, [.int .i64 p0.1, v1, v2]), (some 16, b1, [.int .i64 p0.1, v1, v2])]) (NZ3 := []) W Aa Aa (all_cons (fun h => A4 (by kernel_rfl) h) (all_cons (fun h => A4 (by kernel_rfl) h) AE)) AE ?_
    refine BQ (R := []) F Aa Aa (yC fun M Z hN hZ => As F Aa Aa Aa) Aa Aa fun a F => ?_
    refine BQ (R := []) F Aa Aa (yC fun M Z hN hZ => Ad F Aa) Aa Aa fun a F => ?_
    rcases Bool.eq_false_or_eq_true x12 with hb | hb
    ·
     have H := AY hb H
     rw [hb] at F
     clear hb
     iterate 3 refine Nk (R := []) F Aa (Ag F Aa Aa Aa Aa) Aa Aa (yC fun M Z hN hZ => Ad F Aa) Aa Aa fun a F => ?_
     refine Em Aa ?_
     refine Iv (Ag F Aa Aa Aa Aa) ?_
     obtain ⟨x13, h13, H⟩ := Ai H
     refine B1 (Ml := []) (Zl := []) (M := [(b1, [.int .i64 p0.1, v1, v2])]) (Z := [row v10 28 (Rp.slice (Rp.int .i64)) x11, row v9 28 (Rp.slice (Rp.int .i64)) x9, row v8 62 Be x7.1]) (β := Value) (rv := fun x => x) (MM := fun x => []) (ZZ := fun x => [row x 28 (Rp.slice (Rp.int .i64)) x13]) F W Q5 Aa Aa (fun hL => Iy _ w (v3) (v8) (Value.slice none 0 0) p1 x7.1 0 ([] : List Int) _ h13 (Sl.hide Di h1 (W.old s_v3)) ((An 2 Aa) w W).nx Sl.nil) fun x a w F W => ?_
     obtain ⟨v11, rfl⟩ : ∃ y, y = x := ⟨x, rfl⟩
     have W : Stw ⟨Y, [], w0⟩ [(b1, [.int .i64 p0.1, v1, v2])] [row v11 28 (Rp.slice (Rp.int .i64)) x13, row v10 28 (Rp.slice (Rp.int .i64)) x11, row v9 28 (Rp.slice (Rp.int .i64)) x9, row v8 62 Be x7.1] w := W
     refine BU (N2 := []) (NZ2 := []) (N3 := [(some 9, b1, [.int .i64 p0.1, v1, v2]), (some 16, b1, [.int .i64 p0.1, v1, v2])]) (NZ3 := []) W Aa Aa (all_cons (fun h => A4 (by kernel_rfl) h) (all_cons (fun h => A4 (by kernel_rfl) h) AE)) AE ?_
     refine Em Aa ?_
     refine Iv (Ag F Aa Aa Aa Aa) ?_
     obtain ⟨x14, h14, H⟩ := Ai H
     refine ls F W Aa (B0 (v := Value.bool x14) F Rf Aa (fun w W => KD any w (v11) (v3) x13 p1 _ h14 (((An 0 Aa) : DP _ _ _ _ _ _) w W).nx (((BR Di h1 (Am h_v3)) : DP _ _ _ _ _ _) w W).nx)) fun a w F W => ?_
     refine BU (N2 := []) (NZ2 := []) (N3 := [(some 9, b1, [.int .i64 p0.1, v1, v2]), (some 16, b1, [.int .i64 p0.1, v1, v2])]) (NZ3 := []) W Aa Aa (all_cons (fun h => A4 (by kernel_rfl) h) (all_cons (fun h => A4 (by kernel_rfl) h) AE)) AE ?_
     refine BQ (R := []) F Aa Aa (yC fun M Z hN hZ => As F Aa Aa Aa) Aa Aa fun a F => ?_
     refine BQ (R := []) F Aa Aa (yC fun M Z hN hZ => Ad F Aa) Aa Aa fun a F => ?_
     rcases Bool.eq_false_or_eq_true x14 with hb | hb
     ·
      have H := AY hb H
      rw [hb] at F
      clear hb
      refine Em Aa ?_
      refine Iv (Ag F Aa Aa Aa Aa) ?_
      obtain ⟨x15, h15, H⟩ := Ai H
      refine ls F W Aa (B0 (v := Value.bool x15) F H9 Aa (fun w W => JY any w _ h15)) fun a w F W => ?_
      refine BU (N2 := []) (NZ2 := []) (N3 := [(some 9, b1, [.int .i64 p0.1, v1, v2]), (some 16, b1, [.int .i64 p0.1, v1, v2])]) (NZ3 := []) W Aa Aa (all_cons (fun h => A4 (by kernel_rfl) h) (all_cons (fun h => A4 (by kernel_rfl) h) AE)) AE ?_
      refine BQ (R := []) F Aa Aa (yC fun M Z hN hZ => As F Aa Aa Aa) Aa Aa fun a F => ?_
      refine Em Aa ?_
      refine ls F W Aa (Af F Aa).q fun a w F W => ?_
      refine BU (N2 := []) (NZ2 := []) (N3 := [(some 9, b1, [.int .i64 p0.1, v1, v2]), (some 16, b1, [.int .i64 p0.1, v1, v2])]) (NZ3 := []) W Aa Aa (all_cons (fun h => A4 (by kernel_rfl) h) (all_cons (fun h => A4 (by kernel_rfl) h) AE)) AE ?_
      refine GF (Ab ?_)
      have W := W.sub (M' := [(b1, [.int .i64 p0.1, v1, v2])]) (Z' := []) (List.Sublist.refl _) (List.nil_sublist _)
      exact ⟨_, H, F.re ⟨rfl, trivial⟩, W⟩
     have H := AX (by rw [hb]; decide) H
     rw [hb] at F
     clear hb
     refine Em Aa ?_
     refine Dc F Aa Aa Aa Aa Aa Aa Aa fun a F => ?_
     refine BU (N2 := []) (NZ2 := []) (N3 := [(some 9, b1, [.int .i64 p0.1, v1, v2]), (some 16, b1, [.int .i64 p0.1, v1, v2])]) (NZ3 := []) W Aa Aa (all_cons (fun h => A4 (by kernel_rfl) h) (all_cons (fun h => A4 (by kernel_rfl) h) AE)) AE ?_
     refine BQ (R := []) F Aa Aa (yC fun M Z hN hZ => Ay F Aa Aa Aa) Aa Aa fun a F => ?_
     refine Em Aa ?_
     refine ls F W Aa (Af F Aa).q fun a w F W => ?_
     refine BU (N2 := []) (NZ2 := []) (N3 := [(some 9, b1, [.int .i64 p0.1, v1, v2]), (some 16, b1, [.int .i64 p0.1, v1, v2])]) (NZ3 := []) W Aa Aa (all_cons (fun h => A4 (by kernel_rfl) h) (all_cons (fun h => A4 (by kernel_rfl) h) AE)) AE ?_
     refine GF (Ab ?_)
     have W := W.sub (M' := [(b1, [.int .i64 p0.1, v1, v2])]) (Z' := []) (List.Sublist.refl _) (List.nil_sublist _)
     exact ⟨_, H, F.re ⟨rfl, trivial⟩, W⟩
    have H := AX (by rw [hb]; decide) H
    rw [hb] at F
    clear hb
    iterate 3 refine I3 F Aa (Cx F Aa Aa Aa Aa Aa) Aa Aa Aa fun a F => ?_
    refine Em Aa ?_
    refine Dc F Aa Aa Aa Aa Aa Aa Aa fun a F => ?_
    refine BU (N2 := []) (NZ2 := []) (N3 := [(some 9, b1, [.int .i64 p0.1, v1, v2]), (some 16, b1, [.int .i64 p0.1, v1, v2])]) (NZ3 := []) W Aa Aa (all_cons (fun h => A4 (by kernel_rfl) h) (all_cons (fun h => A4 (by kernel_rfl) h) AE)) AE ?_
    refine Em Aa ?_
    refine Dc F Aa Aa Aa Aa Aa Aa Aa fun a F => ?_
    refine BU (N2 := []) (NZ2 := []) (N3 := [(some 9, b1, [.int .i64 p0.1, v1, v2]), (some 16, b1, [.int .i64 p0.1, v1, v2])]) (NZ3 := []) W Aa Aa (all_cons (fun h => A4 (by kernel_rfl) h) (all_cons (fun h => A4 (by kernel_rfl) h) AE)) AE ?_
    refine BQ (R := []) F Aa Aa (yC fun M Z hN hZ => Ay F Aa Aa Aa) Aa Aa fun a F => ?_
    refine BQ (R := []) F Aa Aa (yC fun M Z hN hZ => Ad F Aa) Aa Aa fun a F => ?_
    refine Em Aa ?_
    refine Dc F Aa Aa Aa Aa Aa Aa Aa fun a F => ?_
    refine BU (N2 := []) (NZ2 := []) (N3 := [(some 9, b1, [.int .i64 p0.1, v1, v2]), (some 16, b1, [.int .i64 p0.1, v1, v2])]) (NZ3 := []) W Aa Aa (all_cons (fun h => A4 (by kernel_rfl) h) (all_cons (fun h => A4 (by kernel_rfl) h) AE)) AE ?_
    refine BQ (R := []) F Aa Aa (yC fun M Z hN hZ => Ay F Aa Aa Aa) Aa Aa fun a F => ?_
    refine Em Aa ?_
    refine ls F W Aa (Af F Aa).q fun a w F W => ?_
    refine BU (N2 := []) (NZ2 := []) (N3 := [(some 9, b1, [.int .i64 p0.1, v1, v2]), (some 16, b1, [.int .i64 p0.1, v1, v2])]) (NZ3 := []) W Aa Aa (all_cons (fun h => A4 (by kernel_rfl) h) (all_cons (fun h => A4 (by kernel_rfl) h) AE)) AE ?_
    refine GF (Ab ?_)
    have W := W.sub (M' := [(b1, [.int .i64 p0.1, v1, v2])]) (Z' := []) (List.Sublist.refl _) (List.nil_sublist _)
    exact ⟨_, H, F.re ⟨rfl, trivial⟩, W⟩
   have H := AX (by rw [hb]; decide) H
   rw [hb] at F
   clear hb
   iterate 5 refine I3 F Aa (Cx F Aa Aa Aa Aa Aa) Aa Aa Aa fun a F => ?_
   refine Em Aa ?_
   refine Dc F Aa Aa Aa Aa Aa Aa Aa fun a F => ?_
   refine BU (N2 := []) (NZ2 := []) (N3 := [(some 9, b1, [.int .i64 p0.1, v1, v2]), (some 16, b1, [.int .i64 p0.1, v1, v2])]) (NZ3 := []) W Aa Aa (all_cons (fun h => A4 (by kernel_rfl) h) (all_cons (fun h => A4 (by kernel_rfl) h) AE)) AE ?_
   refine Em Aa ?_
   refine Dc F Aa Aa Aa Aa Aa Aa Aa fun a F => ?_
   refine BU (N2 := []) (NZ2 := []) (N3 := [(some 9, b1, [.int .i64 p0.1, v1, v2]), (some 16, b1, [.int .i64 p0.1, v1, v2])]) (NZ3 := []) W Aa Aa (all_cons (fun h => A4 (by kernel_rfl) h) (all_cons (fun h => A4 (by kernel_rfl) h) AE)) AE ?_
   refine BQ (R := []) F Aa Aa (yC fun M Z hN hZ => Ay F Aa Aa Aa) Aa Aa fun a F => ?_
   refine BQ (R := []) F Aa Aa (yC fun M Z hN hZ => Ad F Aa) Aa Aa fun a F => ?_
   iterate 3 refine I3 F Aa (Cx F Aa Aa Aa Aa Aa) Aa Aa Aa fun a F => ?_
   refine Em Aa ?_
   refine Dc F Aa Aa Aa Aa Aa Aa Aa fun a F => ?_
   refine BU (N2 := []) (NZ2 := []) (N3 := [(some 9, b1, [.int .i64 p0.1, v1, v2]), (some 16, b1, [.int .i64 p0.1, v1, v2])]) (NZ3 := []) W Aa Aa (all_cons (fun h => A4 (by kernel_rfl) h) (all_cons (fun h => A4 (by kernel_rfl) h) AE)) AE ?_
   refine Em Aa ?_
   refine Dc F Aa Aa Aa Aa Aa Aa Aa fun a F => ?_
   refine BU (N2 := []) (NZ2 := []) (N3 := [(some 9, b1, [.int .i64 p0.1, v1, v2]), (some 16, b1, [.int .i64 p0.1, v1, v2])]) (NZ3 := []) W Aa Aa (all_cons (fun h => A4 (by kernel_rfl) h) (all_cons (fun h => A4 (by kernel_rfl) h) AE)) AE ?_
   refine BQ (R := []) F Aa Aa (yC fun M Z hN hZ => Ay F Aa Aa Aa) Aa Aa fun a F => ?_
   refine BQ (R := []) F Aa Aa (yC fun M Z hN hZ => Ad F Aa) Aa Aa fun a F => ?_
   refine Em Aa ?_
   refine Dc F Aa Aa Aa Aa Aa Aa Aa fun a F => ?_
   refine BU (N2 := []) (NZ2 := []) (N3 := [(some 9, b1, [.int .i64 p0.1, v1, v2]), (some 16, b1, [.int .i64 p0.1, v1, v2])]) (NZ3 := []) W Aa Aa (all_cons (fun h => A4 (by kernel_rfl) h) (all_cons (fun h => A4 (by kernel_rfl) h) AE)) AE ?_
   refine BQ (R := []) F Aa Aa (yC fun M Z hN hZ => Ay F Aa Aa Aa) Aa Aa fun a F => ?_
   refine Em Aa ?_
   refine ls F W Aa (Af F Aa).q fun a w F W => ?_
   refine BU (N2 := []) (NZ2 := []) (N3 := [(some 9, b1, [.int .i64 p0.1, v1, v2]), (some 16, b1, [.int .i64 p0.1, v1, v2])]) (NZ3 := []) W Aa Aa (all_cons (fun h => A4 (by kernel_rfl) h) (all_cons (fun h => A4 (by kernel_rfl) h) AE)) AE ?_
   refine GF (Ab ?_)
   have W := W.sub (M' := [(b1, [.int .i64 p0.1, v1, v2])]) (Z' := []) (List.Sublist.refl _) (List.nil_sublist _)
   exact ⟨_, H, F.re ⟨rfl, trivial⟩, W⟩
  have H := AX (BJ hb) H
  rw [hb] at F
  clear hb
  iterate 5 refine I3 F Aa (Cx F Aa Aa Aa Aa Aa) Aa Aa Aa fun a F => ?_
  refine Em Aa ?_
  refine Dc F Aa Aa Aa Aa Aa Aa Aa fun a F => ?_
  refine BU (N2 := []) (NZ2 := []) (N3 := [(some 9, b1, [.int .i64 p0.1, v1, v2])]) (NZ3 := []) W Aa Aa (all_cons (fun _ => (.head _)) AE) AE ?_
  refine Em Aa ?_
  refine Dc F Aa Aa Aa Aa Aa Aa Aa fun a F => ?_
  refine BU (N2 := []) (NZ2 := []) (N3 := [(some 9, b1, [.int .i64 p0.1, v1, v2])]) (NZ3 := []) W Aa Aa (all_cons (fun h => A4 (by kernel_rfl) h) AE) AE ?_
  refine BQ (R := []) F Aa Aa (yC fun M Z hN hZ => Ay F Aa Aa Aa) Aa Aa fun a F => ?_
  refine BQ (R := []) F Aa Aa (yC fun M Z hN hZ => Ad F Aa) Aa Aa fun a F => ?_
  iterate 5 refine I3 F Aa (Cx F Aa Aa Aa Aa Aa) Aa Aa Aa fun a F => ?_
  refine Em Aa ?_
  refine Dc F Aa Aa Aa Aa Aa Aa Aa fun a F => ?_
  refine BU (N2 := []) (NZ2 := []) (N3 := [(some 9, b1, [.int .i64 p0.1, v1, v2])]) (NZ3 := []) W Aa Aa (all_cons (fun h => A4 (by kernel_rfl) h) AE) AE ?_
  refine Em Aa ?_
  refine Dc F Aa Aa Aa Aa Aa Aa Aa fun a F => ?_
  refine BU (N2 := []) (NZ2 := []) (N3 := [(some 9, b1, [.int .i64 p0.1, v1, v2])]) (NZ3 := []) W Aa Aa (all_cons (fun h => A4 (by kernel_rfl) h) AE) AE ?_
  refine BQ (R := []) F Aa Aa (yC fun M Z hN hZ => Ay F Aa Aa Aa) Aa Aa fun a F => ?_
  refine BQ (R := []) F Aa Aa (yC fun M Z hN hZ => Ad F Aa) Aa Aa fun a F => ?_
  iterate 3 refine I3 F Aa (Cx F Aa Aa Aa Aa Aa) Aa Aa Aa fun a F => ?_
  refine Em Aa ?_
  refine Dc F Aa Aa Aa Aa Aa Aa Aa fun a F => ?_
  refine BU (N2 := []) (NZ2 := []) (N3 := [(some 9, b1, [.int .i64 p0.1, v1, v2])]) (NZ3 := []) W Aa Aa (all_cons (fun h => A4 (by kernel_rfl) h) AE) AE ?_
  refine Em Aa ?_
  refine Dc F Aa Aa Aa Aa Aa Aa Aa fun a F => ?_
  refine BU (N2 := []) (NZ2 := []) (N3 := [(some 9, b1, [.int .i64 p0.1, v1, v2])]) (NZ3 := []) W Aa Aa (all_cons (fun h => A4 (by kernel_rfl) h) AE) AE ?_
  refine BQ (R := []) F Aa Aa (yC fun M Z hN hZ => Ay F Aa Aa Aa) Aa Aa fun a F => ?_
  refine BQ (R := []) F Aa Aa (yC fun M Z hN hZ => Ad F Aa) Aa Aa fun a F => ?_
  refine Em Aa ?_
  refine Dc F Aa Aa Aa Aa Aa Aa Aa fun a F => ?_
  refine BU (N2 := []) (NZ2 := []) (N3 := [(some 9, b1, [.int .i64 p0.1, v1, v2])]) (NZ3 := []) W Aa Aa (all_cons (fun h => A4 (by kernel_rfl) h) AE) AE ?_
  refine BQ (R := []) F Aa Aa (yC fun M Z hN hZ => Ay F Aa Aa Aa) Aa Aa fun a F => ?_
  refine Em Aa ?_
  refine ls F W Aa (Af F Aa).q fun a w F W => ?_
  refine BU (N2 := []) (NZ2 := []) (N3 := [(some 9, b1, [.int .i64 p0.1, v1, v2])]) (NZ3 := []) W Aa Aa (all_cons (fun h => A4 (by kernel_rfl) h) AE) AE ?_
  refine GF (Ab ?_)
  have W := W.sub (M' := [(b1, [.int .i64 p0.1, v1, v2])]) (Z' := []) (List.Sublist.refl _) (List.nil_sublist _)
  exact ⟨_, H, F.re ⟨rfl, trivial⟩, W⟩
 rintro a w ⟨x8, hj, F, W⟩
 have hj := A2 hj
 subst hj
 have H := K2
 clear G2 K2
 refine AH ?_
 have H := A2 H
 subst H
 refine BN (.inl Aa) F W Aa (Aw F Aa) ?_
 exact ⟨rfl, W.done⟩
end Go.Proofs.Ythiejmoddfenlaa
