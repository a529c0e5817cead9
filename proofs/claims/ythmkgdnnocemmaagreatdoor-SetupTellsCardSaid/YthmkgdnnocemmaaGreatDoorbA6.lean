/- The functions of layer 40, GQ. Conditions: none. -/
import Derived.Test.YthmkgdnnocemmaaGreatDoorbA5
namespace Go.Proofs.YthmkgdnnocemmaaGreatDoor
open Go Go.RowKit
set_option linter.unusedVariables false
set_option linter.unusedSimpArgs false
set_option maxRecDepth 20000
theorem Ua : type_of% Tryz.underlying4 := Tryz.underlying4
theorem Tm : Has Tryz.prog 11 := ⟨fun args w => Af Tryz.func11 rfl (by decide) args w⟩
noncomputable def EJ (p0 : (Int × (List (Int × Int × Int × Int × Int × Int)) × (List (Int × Int))) × List (List Int) × List Int × Int × Int × Int × Int × Int × Int) (p1 : (Int × (List (Int × Int × Int × Int × Int × Int)) × (List (Int × Int))) × List (List Int) × List Int × Int × Int × Int × Int × Int × Int) (p2 : List UInt8) : Option Bool := ((FT p0).bind fun x2 => (if (!x2) = true then some true else (FT p1).bind fun x3 => (if (!x3) = true then some true else some (decide (2000 < (p2.length : Int)))))).bind fun x1 => (if x1 = true then (E6).bind fun x4 => some x4 else (DF p2).bind fun x5 => (GD p2).bind fun x6 => ((D1 p0).bind fun x8 => (Hd p0).bind fun x9 => (if x8 = x9 then (Ea p0 p1).bind fun x10 => (GA p0 p1).bind fun x11 => (if x10 = x11 then (GA x5.1 x6.1).bind fun x12 => (if x12 = true then (if x5.2.1 = x6.2.1 then (if x5.2.2 = x6.2.2 then (E6).bind fun x13 => some x13 else some false) else some false) else some false) else some false) else some false)).bind fun x7 => some x7)
theorem IR (Y : Nat → Prop) (w0 : World) (v1 : Value) (v2 : Value) (v3 : Value) (v4 : Value) (v5 : Value) (v6 : Value) (v7 : Value) (v8 : Value) (p0 : (Int × (List (Int × Int × Int × Int × Int × Int)) × (List (Int × Int))) × List (List Int) × List Int × Int × Int × Int × Int × Int × Int) (p1 : (Int × (List (Int × Int × Int × Int × Int × Int)) × (List (Int × Int))) × List (List Int) × List Int × Int × Int × Int × Int × Int × Int) (p2 : List UInt8) (r : Bool) (H : EJ p0 p1 p2 = some r) (h_v1 : Sl w0 (NX []) AV v1 p0.1.2.1) (h_v2 : Sl w0 (NX []) A3 v2 p0.1.2.2) (h_v3 : Sl w0 (NX []) (Rp.slice (Rp.int .u64)) v3 p0.2.1) (h_v4 : Sl w0 (NX []) (Rp.int .i64) v4 p0.2.2.1) (h_v5 : Sl w0 (NX []) AV v5 p1.1.2.1) (h_v6 : Sl w0 (NX []) A3 v6 p1.1.2.2) (h_v7 : Sl w0 (NX []) (Rp.slice (Rp.int .u64)) v7 p1.2.1) (h_v8 : Sl w0 (NX []) (Rp.int .i64) v8 p1.2.2.1) (hG : Gk [] w0) :
    Calls Tryz.prog 3 #[.agg #[.int .i64 p0.1.1, v1, v2, v3, v4, .int .i64 p0.2.2.2.1, .int .i64 p0.2.2.2.2.1, .int .i64 p0.2.2.2.2.2.1, .int .i64 p0.2.2.2.2.2.2.1, .int .i64 p0.2.2.2.2.2.2.2.1, .int .i64 p0.2.2.2.2.2.2.2.2], .agg #[.int .i64 p1.1.1, v5, v6, v7, v8, .int .i64 p1.2.2.2.1, .int .i64 p1.2.2.2.2.1, .int .i64 p1.2.2.2.2.2.1, .int .i64 p1.2.2.2.2.2.2.1, .int .i64 p1.2.2.2.2.2.2.2.1, .int .i64 p1.2.2.2.2.2.2.2.2], .string (bs p2)] w0 fun e w' => e = .returned (.bool r) ∧ Below w0.heap.size w0 w' := by
 refine enter Tryz.func3 Aa Tryz.ntmps3 Aa fun a F => ?_
 have W := Stw.start Y w0
 obtain ⟨v9, h1, h_v3⟩ := h_v3.ex D4
 obtain ⟨v10, h2, h_v7⟩ := h_v7.ex D4
 unfold EJ at H
 refine vc tk 2 F W fun a w F W => ?_
 refine GU (cs := (BP p0 v1 v2 v3 v4)) F W Aa Aa Aa fun b1 a w F W => ?_
 refine GU (cs := (BP p1 v5 v6 v7 v8)) F W Aa Aa Aa fun b2 a w F W => ?_
 refine C5 tk 4 F W fun a w F W => ?_
 obtain ⟨o1, G1, K1⟩ := Ae H
 refine Aw (fun a w => ∃ x1 : Bool, some (x1) = some o1 ∧ Fr 71 [] [(2, .string (bs p2)), (3, .pointer (some ⟨b1, 0, none⟩)), (4, .pointer (some ⟨b2, 0, none⟩)), (6, .bool false), (25, .bool x1)] a ∧ Stw ⟨Y, [], w0⟩ [(b2, (BP p1 v5 v6 v7 v8)), (b1, (BP p0 v1 v2 v3 v4))] [] w) ?_ ?_
 ·
  have H := G1
  clear G1 K1
  refine Ib tk 2 [1] F W (ai fun a w F W => ?_)
  obtain ⟨x2, h3, H⟩ := Ae H
  refine ls F W Aa (AE (v := Value.bool x2) F H4 Aa (fun w W => I3 any w (v1) (v2) (v3) (v4) p0 _ h3 (((Ah h_v1) : CW _ _ _ _ _ _) w W).nx (((Ah h_v2) : CW _ _ _ _ _ _) w W).nx (((B9 D4 h1 (Ah h_v3)) : CW _ _ _ _ _ _) w W).nx (((Ah h_v4) : CW _ _ _ _ _ _) w W).nx)) fun a w F W => ?_
  refine vl tk 2 F W fun a w F W => ?_
  rcases Bool.eq_false_or_eq_true (!x2) with hb | hb
  ·
   have H := Cu hb H
   rw [hb] at F
   clear hb
   refine vl tk 10 F W fun a w F W => ?_
   refine Ac ?_
   have W := W.frontM (i := 1) Aa Aa
   have W := W.frontM (i := 1) Aa Aa
   exact ⟨_, H, F.ra Aa, W⟩
  have H := Ct (by rw [hb]; decide) H
  rw [hb] at F
  clear hb
  refine Cw F W (Ag F Aa Aa Aa Aa) Aa (Bi Aa) (DP (v := Value.agg #[.int .i64 p1.1.1, v5, v6, v7, v8, .int .i64 p1.2.2.2.1, .int .i64 p1.2.2.2.2.1, .int .i64 p1.2.2.2.2.2.1, .int .i64 p1.2.2.2.2.2.2.1, .int .i64 p1.2.2.2.2.2.2.2.1, .int .i64 p1.2.2.2.2.2.2.2.2]) 0 F Aa Aa ET Aa).q fun a w F W => ?_
  refine E5 (Ag F Aa Aa Aa Aa) ?_
  obtain ⟨x3, h4, H⟩ := Ae H
  refine ls F W Aa (AE (v := Value.bool x3) F H4 Aa (fun w W => I3 any w (v5) (v6) (v7) (v8) p1 _ h4 (((Ah h_v5) : CW _ _ _ _ _ _) w W).nx (((Ah h_v6) : CW _ _ _ _ _ _) w W).nx (((B9 D4 h2 (Ah h_v7)) : CW _ _ _ _ _ _) w W).nx (((Ah h_v8) : CW _ _ _ _ _ _) w W).nx)) fun a w F W => ?_
  refine vl tk 3 F W fun a w F W => ?_
  rcases Bool.eq_false_or_eq_true (!x3) with hb | hb
  ·
   have H := Cu hb H
   rw [hb] at F
   clear hb
   refine vl tk 5 F W fun a w F W => ?_
   refine Ac ?_
   have W := W.frontM (i := 1) Aa Aa
   have W := W.frontM (i := 1) Aa Aa
   exact ⟨_, H, F.ra Aa, W⟩
  have H := Ct (by rw [hb]; decide) H
  rw [hb] at F
  clear hb
  refine Cw F W (Ag F Aa Aa Aa Aa) Aa (Bi Aa) (Am F Aa).q fun a w F W => ?_
  refine Cw F W (Ag F Aa Aa Aa Aa) Aa (Bi Aa) (Eh (l := p2) Eu Aa F Aa).q fun a w F W => ?_
  refine vl tk 3 F W fun a w F W => ?_
  refine Ac ?_
  have W := W.frontM (i := 1) Aa Aa
  have W := W.frontM (i := 1) Aa Aa
  exact ⟨_, H, F.ra Aa, W⟩
 rintro a w ⟨x1, hj, F, W⟩
 have hj := AA hj
 subst hj
 have H := K1
 clear G1 K1
 refine B2 F Aa H (fun F H => ?_) fun F H => ?_
 ·
  refine vc tk 2 F W fun a w F W => ?_
  obtain ⟨x4, h5, H⟩ := Ae H
  refine ls F W Aa (AE (v := Value.bool x4) F H5 Aa (fun w W => I4 any w _ h5 (hG.go0 W))) fun a w F W => ?_
  refine vl tk 2 F W fun a w F W => ?_
  refine Ac (Ax (Az ?_))
  have H := AA H
  subst H
  refine BB (.inl Aa) F W Aa (Ao F Aa) ?_
  exact ⟨rfl, W.done⟩
 refine Ek tk 5 F W fun a w F W => ?_
 obtain ⟨x5, h6, H⟩ := Ae H
 refine AC (Ml := []) (Zl := []) (M := [(b2, (BP p1 v5 v6 v7 v8)), (b1, (BP p0 v1 v2 v3 v4))]) (Z := []) (β := Value × Value × Value × Value) (rv := fun x => .tuple #[.agg #[.int .i64 x5.1.1.1, x.1, x.2.1, x.2.2.1, x.2.2.2, .int .i64 x5.1.2.2.2.1, .int .i64 x5.1.2.2.2.2.1, .int .i64 x5.1.2.2.2.2.2.1, .int .i64 x5.1.2.2.2.2.2.2.1, .int .i64 x5.1.2.2.2.2.2.2.2.1, .int .i64 x5.1.2.2.2.2.2.2.2.2], .int .i64 x5.2.1, .int .i64 x5.2.2]) (MM := fun x => []) (ZZ := fun x => [row x.1 50 AV x5.1.1.2.1, row x.2.1 52 A3 x5.1.1.2.2, row x.2.2.1 40 (Rp.slice (Rp.int .u64)) x5.1.2.1, row x.2.2.2 3 (Rp.int .i64) x5.1.2.2.1]) F W H6 Aa Aa (fun hL => HP _ w p2 _ h6 (hG.go0 W)) fun x a w F W => ?_
 obtain ⟨v11, v12, v13, v14⟩ := x
 have W : Stw ⟨Y, [], w0⟩ [(b2, (BP p1 v5 v6 v7 v8)), (b1, (BP p0 v1 v2 v3 v4))] [row v11 50 AV x5.1.1.2.1, row v12 52 A3 x5.1.1.2.2, row v13 40 (Rp.slice (Rp.int .u64)) x5.1.2.1, row v14 3 (Rp.int .i64) x5.1.2.2.1] w := W
 refine ls F W Aa (Am F Aa).q fun a w F W => ?_
 refine ls F W Aa (Au (v := Value.agg #[.int .i64 x5.1.1.1, v11, v12, v13, v14, .int .i64 x5.1.2.2.2.1, .int .i64 x5.1.2.2.2.2.1, .int .i64 x5.1.2.2.2.2.2.1, .int .i64 x5.1.2.2.2.2.2.2.1, .int .i64 x5.1.2.2.2.2.2.2.2.1, .int .i64 x5.1.2.2.2.2.2.2.2.2]) F Aa Aa).q fun a w F W => ?_
 refine ls F W Aa (Au (v := Value.int .i64 x5.2.1) F Aa Aa).q fun a w F W => ?_
 refine ls F W Aa (Au (v := Value.int .i64 x5.2.2) F Aa Aa).q fun a w F W => ?_
 refine DI (cs := (Dr)) F W Aa P2 Aa fun b3 a w F W => ?_
 refine Bg (vs := (HO x5 v11 v12 v13 v14)) (M' := [(b3, (HO x5 v11 v12 v13 v14)), (b2, (BP p1 v5 v6 v7 v8)), (b1, (BP p0 v1 v2 v3 v4))]) 0 F W Aa Aa Aa ET Aa Aa Aa (Ai Aa (Ai (W.one (k := 0) Aa) (Ai (W.one (k := 1) Aa) (Ai (W.one (k := 2) Aa) (Ai (W.one (k := 3) Aa) (Ai Aa (Ai Aa (Ai Aa (Ai Aa (Ai Aa (Ai Aa ER))))))))))) Aa fun w W => ?_
 refine C5 tk 7 F W fun a w F W => ?_
 obtain ⟨x6, h7, H⟩ := Ae H
 refine AC (Ml := []) (Zl := []) (M := [(b3, (HO x5 v11 v12 v13 v14)), (b2, (BP p1 v5 v6 v7 v8)), (b1, (BP p0 v1 v2 v3 v4))]) (Z := [row v11 50 AV x5.1.1.2.1, row v12 52 A3 x5.1.1.2.2, row v13 40 (Rp.slice (Rp.int .u64)) x5.1.2.1, row v14 3 (Rp.int .i64) x5.1.2.2.1]) (β := Value × Value × Value × Value) (rv := fun x => .tuple #[.agg #[.int .i64 x6.1.1.1, x.1, x.2.1, x.2.2.1, x.2.2.2, .int .i64 x6.1.2.2.2.1, .int .i64 x6.1.2.2.2.2.1, .int .i64 x6.1.2.2.2.2.2.1, .int .i64 x6.1.2.2.2.2.2.2.1, .int .i64 x6.1.2.2.2.2.2.2.2.1, .int .i64 x6.1.2.2.2.2.2.2.2.2], .int .i64 x6.2.1, .int .i64 x6.2.2]) (MM := fun x => []) (ZZ := fun x => [row x.1 50 AV x6.1.1.2.1, row x.2.1 52 A3 x6.1.1.2.2, row x.2.2.1 40 (Rp.slice (Rp.int .u64)) x6.1.2.1, row x.2.2.2 3 (Rp.int .i64) x6.1.2.2.1]) F W H7 Aa Aa (fun hL => Mw _ w p2 _ h7) fun x a w F W => ?_
 obtain ⟨v15, v16, v17, v18⟩ := x
 have W : Stw ⟨Y, [], w0⟩ [(b3, (HO x5 v11 v12 v13 v14)), (b2, (BP p1 v5 v6 v7 v8)), (b1, (BP p0 v1 v2 v3 v4))] [row v15 50 AV x6.1.1.2.1, row v16 52 A3 x6.1.1.2.2, row v17 40 (Rp.slice (Rp.int .u64)) x6.1.2.1, row v18 3 (Rp.int .i64) x6.1.2.2.1, row v11 50 AV x5.1.1.2.1, row v12 52 A3 x5.1.1.2.2, row v13 40 (Rp.slice (Rp.int .u64)) x5.1.2.1, row v14 3 (Rp.int .i64) x5.1.2.2.1] w := W
 refine ls F W Aa (Am F Aa).q fun a w F W => ?_
 refine ls F W Aa (Au (v := Value.agg #[.int .i64 x6.1.1.1, v15, v16, v17, v18, .int .i64 x6.1.2.2.2.1, .int .i64 x6.1.2.2.2.2.1, .int .i64 x6.1.2.2.2.2.2.1, .int .i64 x6.1.2.2.2.2.2.2.1, .int .i64 x6.1.2.2.2.2.2.2.2.1, .int .i64 x6.1.2.2.2.2.2.2.2.2]) F Aa Aa).q fun a w F W => ?_
 refine ls F W Aa (Au (v := Value.int .i64 x6.2.1) F Aa Aa).q fun a w F W => ?_
 refine ls F W Aa (Au (v := Value.int .i64 x6.2.2) F Aa Aa).q fun a w F W => ?_
 refine DI (cs := (Dr)) F W Aa P2 Aa fun b4 a w F W => ?_
 refine Bg (vs := (HO x6 v15 v16 v17 v18)) (M' := [(b4, (HO x6 v15 v16 v17 v18)), (b3, (HO x5 v11 v12 v13 v14)), (b2, (BP p1 v5 v6 v7 v8)), (b1, (BP p0 v1 v2 v3 v4))]) 0 F W Aa Aa Aa ET Aa Aa Aa (Ai Aa (Ai (W.one (k := 0) Aa) (Ai (W.one (k := 1) Aa) (Ai (W.one (k := 2) Aa) (Ai (W.one (k := 3) Aa) (Ai Aa (Ai Aa (Ai Aa (Ai Aa (Ai Aa (Ai Aa ER))))))))))) Aa fun w W => ?_
 refine vl tk 3 F W fun a w F W => ?_
 refine Ac ?_
 obtain ⟨o2, G2, K2⟩ := Ae H
 refine Aw (fun a w => ∃ x7 : Bool, some (x7) = some o2 ∧ Fr 71 [] [(6, .bool x7)] a ∧ Stw ⟨Y, [], w0⟩ [(b4, (HO x6 v15 v16 v17 v18)), (b3, (HO x5 v11 v12 v13 v14)), (b2, (BP p1 v5 v6 v7 v8)), (b1, (BP p0 v1 v2 v3 v4))] [row v15 50 AV x6.1.1.2.1, row v16 52 A3 x6.1.1.2.2, row v17 40 (Rp.slice (Rp.int .u64)) x6.1.2.1, row v18 3 (Rp.int .i64) x6.1.2.2.1, row v11 50 AV x5.1.1.2.1, row v12 52 A3 x5.1.1.2.2, row v13 40 (Rp.slice (Rp.int .u64)) x5.1.2.1, row v14 3 (Rp.int .i64) x5.1.2.2.1] w) ?_ ?_
 ·
  have H := G2
  clear G2 K2
  refine DA W MO (by kernel_rfl) ?_
  refine qs F Aa (DP (v := Value.agg #[.int .i64 p0.1.1, v1, v2, v3, v4, .int .i64 p0.2.2.2.1, .int .i64 p0.2.2.2.2.1, .int .i64 p0.2.2.2.2.2.1, .int .i64 p0.2.2.2.2.2.2.1, .int .i64 p0.2.2.2.2.2.2.2.1, .int .i64 p0.2.2.2.2.2.2.2.2]) 3 F Aa Aa ET Aa).q fun a F => ?_
  obtain ⟨x8, h8, H⟩ := Ae H
  refine qs F Aa (AE (v := Value.string (bs x8)) F H8 Aa (fun w W => Iu any w (v1) (v2) (v3) (v4) p0 _ h8 (((Ah h_v1) : CW _ _ _ _ _ _) w W).nx (((Ah h_v2) : CW _ _ _ _ _ _) w W).nx (((B9 D4 h1 (Ah h_v3)) : CW _ _ _ _ _ _) w W).nx (((Ah h_v4) : CW _ _ _ _ _ _) w W).nx (hG.go0 W))) fun a F => ?_
  refine qs F Aa (DP (v := Value.agg #[.int .i64 p0.1.1, v1, v2, v3, v4, .int .i64 p0.2.2.2.1, .int .i64 p0.2.2.2.2.1, .int .i64 p0.2.2.2.2.2.1, .int .i64 p0.2.2.2.2.2.2.1, .int .i64 p0.2.2.2.2.2.2.2.1, .int .i64 p0.2.2.2.2.2.2.2.2]) 3 F Aa Aa ET Aa).q fun a F => ?_
  obtain ⟨x9, h9, H⟩ := Ae H
  refine qs F Aa (AE (v := Value.string (bs x9)) F H9 Aa (fun w W => MG any w (v1) (v2) (v3) (v4) p0 _ h9 (((Ah h_v1) : CW _ _ _ _ _ _) w W).nx (((Ah h_v2) : CW _ _ _ _ _ _) w W).nx (((B9 D4 h1 (Ah h_v3)) : CW _ _ _ _ _ _) w W).nx (((Ah h_v4) : CW _ _ _ _ _ _) w W).nx)) fun a F => ?_
  refine qs F Aa (JF (l := x8) (m := x9) F Aa Aa).q fun a F => ?_
  refine qs F Aa (Am F Aa).q fun a F => ?_
  rcases Bool.eq_false_or_eq_true (decide (x8 = x9)) with hb | hb
  ·
   have H := Cu (Dc hb) H
   rw [hb] at F
   clear hb
   refine HK F (Ag F Aa Aa Aa Aa) Aa (Bi Aa) (DP (v := Value.agg #[.int .i64 p0.1.1, v1, v2, v3, v4, .int .i64 p0.2.2.2.1, .int .i64 p0.2.2.2.2.1, .int .i64 p0.2.2.2.2.2.1, .int .i64 p0.2.2.2.2.2.2.1, .int .i64 p0.2.2.2.2.2.2.2.1, .int .i64 p0.2.2.2.2.2.2.2.2]) 3 F Aa Aa ET Aa).q fun a F => ?_
   refine HK F (Ag F Aa Aa Aa Aa) Aa (Bi Aa) (DP (v := Value.agg #[.int .i64 p1.1.1, v5, v6, v7, v8, .int .i64 p1.2.2.2.1, .int .i64 p1.2.2.2.2.1, .int .i64 p1.2.2.2.2.2.1, .int .i64 p1.2.2.2.2.2.2.1, .int .i64 p1.2.2.2.2.2.2.2.1, .int .i64 p1.2.2.2.2.2.2.2.2]) 2 F Aa Aa ET Aa).q fun a F => ?_
   obtain ⟨x10, h10, H⟩ := Ae H
   refine HK F (Ag F Aa Aa Aa Aa) Aa (Bi Aa) (AE (v := Value.bool x10) F S4 Aa (fun w W => IC any w (v1) (v2) (v3) (v4) (v5) (v6) (v7) (v8) p0 p1 _ h10 (((Ah h_v1) : CW _ _ _ _ _ _) w W).nx (((Ah h_v2) : CW _ _ _ _ _ _) w W).nx (((B9 D4 h1 (Ah h_v3)) : CW _ _ _ _ _ _) w W).nx (((Ah h_v4) : CW _ _ _ _ _ _) w W).nx (((Ah h_v5) : CW _ _ _ _ _ _) w W).nx (((Ah h_v6) : CW _ _ _ _ _ _) w W).nx (((B9 D4 h2 (Ah h_v7)) : CW _ _ _ _ _ _) w W).nx (((Ah h_v8) : CW _ _ _ _ _ _) w W).nx)) fun a F => ?_
   refine HK F (Ag F Aa Aa Aa Aa) Aa (Bi Aa) (DP (v := Value.agg #[.int .i64 p0.1.1, v1, v2, v3, v4, .int .i64 p0.2.2.2.1, .int .i64 p0.2.2.2.2.1, .int .i64 p0.2.2.2.2.2.1, .int .i64 p0.2.2.2.2.2.2.1, .int .i64 p0.2.2.2.2.2.2.2.1, .int .i64 p0.2.2.2.2.2.2.2.2]) 3 F Aa Aa ET Aa).q fun a F => ?_
   refine HK F (Ag F Aa Aa Aa Aa) Aa (Bi Aa) (DP (v := Value.agg #[.int .i64 p1.1.1, v5, v6, v7, v8, .int .i64 p1.2.2.2.1, .int .i64 p1.2.2.2.2.1, .int .i64 p1.2.2.2.2.2.1, .int .i64 p1.2.2.2.2.2.2.1, .int .i64 p1.2.2.2.2.2.2.2.1, .int .i64 p1.2.2.2.2.2.2.2.2]) 2 F Aa Aa ET Aa).q fun a F => ?_
   obtain ⟨x11, h11, H⟩ := Ae H
   refine HK F (Ag F Aa Aa Aa Aa) Aa (Bi Aa) (AE (v := Value.bool x11) F Tm Aa (fun w W => Jv any w (v1) (v2) (v3) (v4) (v5) (v6) (v7) (v8) p0 p1 _ h11 (((Ah h_v1) : CW _ _ _ _ _ _) w W).nx (((Ah h_v2) : CW _ _ _ _ _ _) w W).nx (((B9 D4 h1 (Ah h_v3)) : CW _ _ _ _ _ _) w W).nx (((Ah h_v4) : CW _ _ _ _ _ _) w W).nx (((Ah h_v5) : CW _ _ _ _ _ _) w W).nx (((Ah h_v6) : CW _ _ _ _ _ _) w W).nx (((B9 D4 h2 (Ah h_v7)) : CW _ _ _ _ _ _) w W).nx (((Ah h_v8) : CW _ _ _ _ _ _) w W).nx)) fun a F => ?_
   refine HK F (Ag F Aa Aa Aa Aa) Aa (Bi Aa) (Sc Ua F Aa Aa).q fun a F => ?_
   refine qs F Aa (Cn F Aa Aa Aa).q fun a F => ?_
   refine qs F Aa (Am F Aa).q fun a F => ?_
   rcases Bool.eq_false_or_eq_true (decide (x10 = x11)) with hb | hb
   ·
    have H := Cu (Dc hb) H
    rw [hb] at F
    clear hb
    refine HK F (Ag F Aa Aa Aa Aa) Aa (Bi Aa) (DP (v := Value.agg #[.int .i64 x5.1.1.1, v11, v12, v13, v14, .int .i64 x5.1.2.2.2.1, .int .i64 x5.1.2.2.2.2.1, .int .i64 x5.1.2.2.2.2.2.1, .int .i64 x5.1.2.2.2.2.2.2.1, .int .i64 x5.1.2.2.2.2.2.2.2.1, .int .i64 x5.1.2.2.2.2.2.2.2.2]) 1 F Aa Aa ET Aa).q fun a F => ?_
    refine HK F (Ag F Aa Aa Aa Aa) Aa (Bi Aa) (DP (v := Value.agg #[.int .i64 x6.1.1.1, v15, v16, v17, v18, .int .i64 x6.1.2.2.2.1, .int .i64 x6.1.2.2.2.2.1, .int .i64 x6.1.2.2.2.2.2.1, .int .i64 x6.1.2.2.2.2.2.2.1, .int .i64 x6.1.2.2.2.2.2.2.2.1, .int .i64 x6.1.2.2.2.2.2.2.2.2]) 0 F Aa Aa ET Aa).q fun a F => ?_
    obtain ⟨x12, h12, H⟩ := Ae H
    refine HK F (Ag F Aa Aa Aa Aa) Aa (Bi Aa) (AE (v := Value.bool x12) F Tm Aa (fun w W => Jv any w (v11) (v12) (v13) (v14) (v15) (v16) (v17) (v18) x5.1 x6.1 _ h12 (((Ap 4 Aa) : CW _ _ _ _ _ _) w W).nx (((Ap 5 Aa) : CW _ _ _ _ _ _) w W).nx (((Ap 6 Aa) : CW _ _ _ _ _ _) w W).nx (((Ap 7 Aa) : CW _ _ _ _ _ _) w W).nx (((Ap 0 Aa) : CW _ _ _ _ _ _) w W).nx (((Ap 1 Aa) : CW _ _ _ _ _ _) w W).nx (((Ap 2 Aa) : CW _ _ _ _ _ _) w W).nx (((Ap 3 Aa) : CW _ _ _ _ _ _) w W).nx)) fun a F => ?_
    refine qs F Aa (Cn F Aa Aa Aa).q fun a F => ?_
    refine qs F Aa (Am F Aa).q fun a F => ?_
    rcases Bool.eq_false_or_eq_true x12 with hb | hb
    ·
     have H := Cu hb H
     rw [hb] at F
     clear hb
     iterate 2 refine HK F (Ag F Aa Aa Aa Aa) Aa (Bi Aa) (Am F Aa).q fun a F => ?_
     refine HK F (Ag F Aa Aa Aa Aa) Aa (Bi Aa) (OI F Aa Aa).q fun a F => ?_
     refine qs F Aa (Cn F Aa Aa Aa).q fun a F => ?_
     refine qs F Aa (Am F Aa).q fun a F => ?_
     rcases Bool.eq_false_or_eq_true (decide (x5.2.1 = x6.2.1)) with hb | hb
     ·
      have H := Cu (Dc hb) H
      rw [hb] at F
      clear hb
      iterate 2 refine HK F (Ag F Aa Aa Aa Aa) Aa (Bi Aa) (Am F Aa).q fun a F => ?_
      refine HK F (Ag F Aa Aa Aa Aa) Aa (Bi Aa) (OI F Aa Aa).q fun a F => ?_
      refine qs F Aa (Cn F Aa Aa Aa).q fun a F => ?_
      refine qs F Aa (Am F Aa).q fun a F => ?_
      rcases Bool.eq_false_or_eq_true (decide (x5.2.2 = x6.2.2)) with hb | hb
      ·
       have H := Cu (Dc hb) H
       rw [hb] at F
       clear hb
       obtain ⟨x13, h13, H⟩ := Ae H
       refine HK F (Ag F Aa Aa Aa Aa) Aa (Bi Aa) (AE (v := Value.bool x13) F H5 Aa (fun w W => I4 any w _ h13 (hG.go0 W))) fun a F => ?_
       refine qs F Aa (Cn F Aa Aa Aa).q fun a F => ?_
       refine qs F Aa (Cc F Aa).q fun a F => ?_
       refine CE fun w W => ?_
       refine Ac ?_
       have W := W.frontZ (i := 7) Aa Aa
       have W := W.frontZ (i := 7) Aa Aa
       have W := W.frontZ (i := 7) Aa Aa
       have W := W.frontZ (i := 7) Aa Aa
       have W := W.frontZ (i := 7) Aa Aa
       have W := W.frontZ (i := 7) Aa Aa
       have W := W.frontZ (i := 7) Aa Aa
       have W := W.frontZ (i := 7) Aa Aa
       have W := W.frontM (i := 3) Aa Aa
       have W := W.frontM (i := 3) Aa Aa
       have W := W.frontM (i := 3) Aa Aa
       have W := W.frontM (i := 3) Aa Aa
       exact ⟨_, H, F.ra Aa, W⟩
      have H := Ct (Db hb) H
      rw [hb] at F
      clear hb
      refine DM F (AZ F Aa Aa Aa Aa Aa) Aa Aa fun a F => ?_
      refine qs F Aa (Cm F Aa Aa Aa).q fun a F => ?_
      refine qs F Aa (Cc F Aa).q fun a F => ?_
      refine CE fun w W => ?_
      refine Ac ?_
      have W := W.frontZ (i := 7) Aa Aa
      have W := W.frontZ (i := 7) Aa Aa
      have W := W.frontZ (i := 7) Aa Aa
      have W := W.frontZ (i := 7) Aa Aa
      have W := W.frontZ (i := 7) Aa Aa
      have W := W.frontZ (i := 7) Aa Aa
      have W := W.frontZ (i := 7) Aa Aa
      have W := W.frontZ (i := 7) Aa Aa
      have W := W.frontM (i := 3) Aa Aa
      have W := W.frontM (i := 3) Aa Aa
      have W := W.frontM (i := 3) Aa Aa
      have W := W.frontM (i := 3) Aa Aa
      exact ⟨_, H, F.ra Aa, W⟩
     have H := Ct (Db hb) H
     rw [hb] at F
     clear hb
     iterate 3 refine DM F (AZ F Aa Aa Aa Aa Aa) Aa Aa fun a F => ?_
     refine qs F Aa (Cm F Aa Aa Aa).q fun a F => ?_
     refine qs F Aa (Am F Aa).q fun a F => ?_
     refine DM F (AZ F Aa Aa Aa Aa Aa) Aa Aa fun a F => ?_
     refine qs F Aa (Cm F Aa Aa Aa).q fun a F => ?_
     refine qs F Aa (Cc F Aa).q fun a F => ?_
     refine CE fun w W => ?_
     refine Ac ?_
     have W := W.frontZ (i := 7) Aa Aa
     have W := W.frontZ (i := 7) Aa Aa
     have W := W.frontZ (i := 7) Aa Aa
     have W := W.frontZ (i := 7) Aa Aa
     have W := W.frontZ (i := 7) Aa Aa
     have W := W.frontZ (i := 7) Aa Aa
     have W := W.frontZ (i := 7) Aa Aa
     have W := W.frontZ (i := 7) Aa Aa
     have W := W.frontM (i := 3) Aa Aa
     have W := W.frontM (i := 3) Aa Aa
     have W := W.frontM (i := 3) Aa Aa
     have W := W.frontM (i := 3) Aa Aa
     exact ⟨_, H, F.ra Aa, W⟩
    have H := Ct (by rw [hb]; decide) H
    rw [hb] at F
    clear hb
    iterate 3 refine DM F (AZ F Aa Aa Aa Aa Aa) Aa Aa fun a F => ?_
    refine qs F Aa (Cm F Aa Aa Aa).q fun a F => ?_
    refine qs F Aa (Am F Aa).q fun a F => ?_
    iterate 3 refine DM F (AZ F Aa Aa Aa Aa Aa) Aa Aa fun a F => ?_
    refine qs F Aa (Cm F Aa Aa Aa).q fun a F => ?_
    refine qs F Aa (Am F Aa).q fun a F => ?_
    refine DM F (AZ F Aa Aa Aa Aa Aa) Aa Aa fun a F => ?_
    refine qs F Aa (Cm F Aa Aa Aa).q fun a F => ?_
    refine qs F Aa (Cc F Aa).q fun a F => ?_
    refine CE fun w W => ?_
    refine Ac ?_
    have W := W.frontZ (i := 7) Aa Aa
    have W := W.frontZ (i := 7) Aa Aa
    have W := W.frontZ (i := 7) Aa Aa
    have W := W.frontZ (i := 7) Aa Aa
    have W := W.frontZ (i := 7) Aa Aa
    have W := W.frontZ (i := 7) Aa Aa
    have W := W.frontZ (i := 7) Aa Aa
    have W := W.frontZ (i := 7) Aa Aa
    have W := W.frontM (i := 3) Aa Aa
    have W := W.frontM (i := 3) Aa Aa
    have W := W.frontM (i := 3) Aa Aa
    have W := W.frontM (i := 3) Aa Aa
    exact ⟨_, H, F.ra Aa, W⟩
   have H := Ct (Db hb) H
   rw [hb] at F
   clear hb
   iterate 3 refine DM F (AZ F Aa Aa Aa Aa Aa) Aa Aa fun a F => ?_
   refine qs F Aa (Cm F Aa Aa Aa).q fun a F => ?_
   refine qs F Aa (Am F Aa).q fun a F => ?_
   iterate 3 refine DM F (AZ F Aa Aa Aa Aa Aa) Aa Aa fun a F => ?_
   refine qs F Aa (Cm F Aa Aa Aa).q fun a F => ?_
   refine qs F Aa (Am F Aa).q fun a F => ?_
   iterate 3 refine DM F (AZ F Aa Aa Aa Aa Aa) Aa Aa fun a F => ?_
   refine qs F Aa (Cm F Aa Aa Aa).q fun a F => ?_
   refine qs F Aa (Am F Aa).q fun a F => ?_
   refine DM F (AZ F Aa Aa Aa Aa Aa) Aa Aa fun a F => ?_
   refine qs F Aa (Cm F Aa Aa Aa).q fun a F => ?_
   refine qs F Aa (Cc F Aa).q fun a F => ?_
   refine CE fun w W => ?_
   refine Ac ?_
   have W := W.frontZ (i := 7) Aa Aa
   have W := W.frontZ (i := 7) Aa Aa
   have W := W.frontZ (i := 7) Aa Aa
   have W := W.frontZ (i := 7) Aa Aa
   have W := W.frontZ (i := 7) Aa Aa
   have W := W.frontZ (i := 7) Aa Aa
   have W := W.frontZ (i := 7) Aa Aa
   have W := W.frontZ (i := 7) Aa Aa
   have W := W.frontM (i := 3) Aa Aa
   have W := W.frontM (i := 3) Aa Aa
   have W := W.frontM (i := 3) Aa Aa
   have W := W.frontM (i := 3) Aa Aa
   exact ⟨_, H, F.ra Aa, W⟩
  have H := Ct (Db hb) H
  rw [hb] at F
  clear hb
  iterate 7 refine DM F (AZ F Aa Aa Aa Aa Aa) Aa Aa fun a F => ?_
  refine qs F Aa (Cm F Aa Aa Aa).q fun a F => ?_
  refine qs F Aa (Am F Aa).q fun a F => ?_
  iterate 3 refine DM F (AZ F Aa Aa Aa Aa Aa) Aa Aa fun a F => ?_
  refine qs F Aa (Cm F Aa Aa Aa).q fun a F => ?_
  refine qs F Aa (Am F Aa).q fun a F => ?_
  iterate 3 refine DM F (AZ F Aa Aa Aa Aa Aa) Aa Aa fun a F => ?_
  refine qs F Aa (Cm F Aa Aa Aa).q fun a F => ?_
  refine qs F Aa (Am F Aa).q fun a F => ?_
  iterate 3 refine DM F (AZ F Aa Aa Aa Aa Aa) Aa Aa fun a F => ?_
  refine qs F Aa (Cm F Aa Aa Aa).q fun a F => ?_
  refine qs F Aa (Am F Aa).q fun a F => ?_
  refine DM F (AZ F Aa Aa Aa Aa Aa) Aa Aa fun a F => ?_
  refine qs F Aa (Cm F Aa Aa Aa).q fun a F => ?_
  refine qs F Aa (Cc F Aa).q fun a F => ?_
  refine CE fun w W => ?_
  refine Ac ?_
  have W := W.frontZ (i := 7) Aa Aa
  have W := W.frontZ (i := 7) Aa Aa
  have W := W.frontZ (i := 7) Aa Aa
  have W := W.frontZ (i := 7) Aa Aa
  have W := W.frontZ (i := 7) Aa Aa
  have W := W.frontZ (i := 7) Aa Aa
  have W := W.frontZ (i := 7) Aa Aa
  have W := W.frontZ (i := 7) Aa Aa
  have W := W.frontM (i := 3) Aa Aa
  have W := W.frontM (i := 3) Aa Aa
  have W := W.frontM (i := 3) Aa Aa
  have W := W.frontM (i := 3) Aa Aa
  exact ⟨_, H, F.ra Aa, W⟩
 rintro a w ⟨x7, hj, F, W⟩
 have hj := AA hj
 subst hj
 have H := K2
 clear G2 K2
 refine Ax ?_
 have H := AA H
 subst H
 refine BB (.inl Aa) F W Aa (Ao F Aa) ?_
 exact ⟨rfl, W.done⟩
end Go.Proofs.YthmkgdnnocemmaaGreatDoor
