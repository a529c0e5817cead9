/- The functions of layer 29, E5. Conditions: none. -/
import Derived.Test.YtlgjpoapclifbaaDoorcA10
namespace Go.Proofs.YtlgjpoapclifbaaDoor
open Go Go.RowKit
set_option linter.unusedVariables false
set_option linter.unusedSimpArgs false
set_option maxRecDepth 20000
abbrev FR (a0 : Nat) (a1 : Tr34) (a2 : Value) (a3 : Nat) (a4 : Tr37) (a5 : Value) (a6 : Value) : List (Nat × List Value) := [(a0, [.int .i64 a1.un.1, .int .i64 a1.un.2.1, .int .i64 a1.un.2.2.1, a2]), (a3, [.int .i64 a4.un.1, .int .i64 a4.un.2.1.un.1, .int .i64 a4.un.2.1.un.2.1, .int .i64 a4.un.2.1.un.2.2.1, a5, .int .i64 a4.un.2.2.1, .int .i64 a4.un.2.2.2.1, a6])]
noncomputable def Gh (p0 : Tr37) (p1 : Tr34) : Option Bool := KC (((GK (Tr37.of (p0.un.1, Tr34.of (p0.un.2.1.un.1, p0.un.2.1.un.2.1, p0.un.2.1.un.2.2.1, p0.un.2.1.un.2.2.2), p0.un.2.2.1, p0.un.2.2.2.1, p0.un.2.2.2.2))).bind fun x2 => (if x2 = true then (Kp (Tr37.of (p0.un.1, Tr34.of (p0.un.2.1.un.1, p0.un.2.1.un.2.1, p0.un.2.1.un.2.2.1, p0.un.2.1.un.2.2.2), p0.un.2.2.1, p0.un.2.2.2.1, p0.un.2.2.2.2))).bind fun x3 => some (decide ((x3.length : Int) ≤ 4000)) else some false)).bind fun x1 => (if x1 = true then (Kl (Tr37.of (p0.un.1, Tr34.of (p0.un.2.1.un.1, p0.un.2.1.un.2.1, p0.un.2.1.un.2.2.1, p0.un.2.1.un.2.2.2), p0.un.2.2.1, p0.un.2.2.2.1, p0.un.2.2.2.2))).bind fun x4 => (FG (Tr28.of (x4.un.1, Tr25.of (x4.un.2.1.un.1, x4.un.2.1.un.2.1, x4.un.2.1.un.2.2.1, x4.un.2.1.un.2.2.2), x4.un.2.2.1, x4.un.2.2.2.1, x4.un.2.2.2.2))).bind fun x5 => (DM x5).bind fun x6 => (if x6.2.2 ≠ 0 then some true else (if x6.2.1 ≠ 0 then some true else (Ib (Tr28.of (x6.1.un.1, Tr25.of (x6.1.un.2.1.un.1, x6.1.un.2.1.un.2.1, x6.1.un.2.1.un.2.2.1, x6.1.un.2.1.un.2.2.2), x6.1.un.2.2.1, x6.1.un.2.2.2.1, x6.1.un.2.2.2.2))).bind fun x8 => (KA (Tr37.of (x8.un.1, Tr34.of (x8.un.2.1.un.1, x8.un.2.1.un.2.1, x8.un.2.1.un.2.2.1, x8.un.2.1.un.2.2.2), x8.un.2.2.1, x8.un.2.2.2.1, x8.un.2.2.2.2)) (Tr37.of (p0.un.1, Tr34.of (p0.un.2.1.un.1, p0.un.2.1.un.2.1, p0.un.2.1.un.2.2.1, p0.un.2.1.un.2.2.2), p0.un.2.2.1, p0.un.2.2.2.1, p0.un.2.2.2.2))).bind fun x9 => some (!x9))).bind fun x7 => (if x7 = true then some (.inr false) else some (.inl ())) else some (.inl ()))) fun _ => KC (((FI p1).bind fun x11 => (if x11 = true then (HT p1).bind fun x12 => some (decide ((x12.length : Int) ≤ 4000)) else some false)).bind fun x10 => (if x10 = true then (I9 p1).bind fun x13 => (Ga x13).bind fun x14 => (Gc x14).bind fun x15 => (if x15.2.2 ≠ 0 then some true else (if x15.2.1 ≠ 0 then some true else (GY x15.1).bind fun x17 => (Ha x17 p1).bind fun x18 => some (!x18))).bind fun x16 => (if x16 = true then some (.inr false) else some (.inl ())) else some (.inl ()))) fun _ => (GL).bind fun x19 => some x19
theorem Lm (Y : Nat → Prop) (w0 : World) (v1 : Value) (v2 : Value) (v3 : Value) (p0 : Tr37) (p1 : Tr34) (r : Bool) (H : Gh p0 p1 = some r) (h_v1 : Sl w0 (NX []) CS v1 p0.un.2.1.un.2.2.2) (h_v2 : Sl w0 (NX []) Ff v2 p0.un.2.2.2.2) (h_v3 : Sl w0 (NX []) CS v3 p1.un.2.2.2) (hG : Gk [] w0) :
    Calls Tryd.prog 4 #[.agg #[.int .i64 p0.un.1, .int .i64 p0.un.2.1.un.1, .int .i64 p0.un.2.1.un.2.1, .int .i64 p0.un.2.1.un.2.2.1, v1, .int .i64 p0.un.2.2.1, .int .i64 p0.un.2.2.2.1, v2], .agg #[.int .i64 p1.un.1, .int .i64 p1.un.2.1, .int .i64 p1.un.2.2.1, v3]] w0 fun e w' => e = .returned (.bool r) ∧ Below w0.heap.size w0 w' := by
 refine enter Tryd.func4 Aa Tryd.ntmps4 Aa fun a F => ?_
 have W := Stw.start Y w0
 obtain ⟨v4, h1, h_v1⟩ := h_v1.ex CL
 obtain ⟨v5, h2, h_v2⟩ := h_v2.ex Fx
 obtain ⟨v6, h3, h_v3⟩ := h_v3.ex CL
 unfold Gh at H
 refine Ak (Ab ?_)
 refine D6 (cs := (Ce p0 v1 v2)) F W Aa Aa Aa fun b1 a w F W => ?_
 refine D6 (cs := (Du p1 v3)) F W Aa Aa Aa fun b2 a w F W => ?_
 refine ls F W Aa (Ag F Aa).q fun a w F W => ?_
 refine Ae (Ac ?_)
 obtain ⟨o1, G1, K1, L1⟩ := Rk H
 refine A1 (fun a w => some (Sum.inl ()) = some o1 ∧ Fr 70 [] [(3, .pointer (some ⟨b2, 0, none⟩)), (4, .bool false)] a ∧ Stw ⟨Y, [], w0⟩ (FR b2 p1 v3 b1 p0 v1 v2) [] w) ?_ ?_
 ·
  have H := G1
  clear G1 K1
  obtain ⟨o2, G2, K2⟩ := Aq H
  refine A1 (fun a w => ∃ x1 : Bool, some (x1) = some o2 ∧ Fr 70 [] [(2, .pointer (some ⟨b1, 0, none⟩)), (3, .pointer (some ⟨b2, 0, none⟩)), (4, .bool false), (18, .bool x1)] a ∧ Stw ⟨Y, [], w0⟩ (FR b2 p1 v3 b1 p0 v1 v2) [] w) ?_ ?_
  ·
   have H := G2
   clear G2 K2
   refine Ab ?_
   refine ls F W Aa (Av (v := Value.agg #[.int .i64 p0.un.1, .int .i64 p0.un.2.1.un.1, .int .i64 p0.un.2.1.un.2.1, .int .i64 p0.un.2.1.un.2.2.1, v1, .int .i64 p0.un.2.2.1, .int .i64 p0.un.2.2.2.1, v2]) 1 F Aa Aa MR Aa).q fun a w F W => ?_
   obtain ⟨x2, h4, H⟩ := Aq H
   refine ls F W Aa (A0 (v := Value.bool x2) F V4 Aa (fun w W => PE any w (v1) (v2) (Tr37.of (p0.un.1, Tr34.of (p0.un.2.1.un.1, p0.un.2.1.un.2.1, p0.un.2.1.un.2.2.1, p0.un.2.1.un.2.2.2), p0.un.2.2.1, p0.un.2.2.2.1, p0.un.2.2.2.2)) _ h4 (((AM CL h1 (Ay h_v1)) : DZ _ _ _ _ _ _) w W).nx (((AM Fx h2 (Ay h_v2)) : DZ _ _ _ _ _ _) w W).nx)) fun a w F W => ?_
   refine ls F W Aa (Ah F Aa).q fun a w F W => ?_
   rcases Bool.eq_false_or_eq_true x2 with hb | hb
   ·
    have H := AW hb H
    rw [hb] at F
    clear hb
    refine Au F W (Ad F Aa Aa Aa Aa) Aa (Al Aa) (Av (v := Value.agg #[.int .i64 p0.un.1, .int .i64 p0.un.2.1.un.1, .int .i64 p0.un.2.1.un.2.1, .int .i64 p0.un.2.1.un.2.2.1, v1, .int .i64 p0.un.2.2.1, .int .i64 p0.un.2.2.2.1, v2]) 1 F Aa Aa MR Aa).q fun a w F W => ?_
    refine Jc (Ad F Aa Aa Aa Aa) ?_
    obtain ⟨x3, h5, H⟩ := Aq H
    refine ls F W Aa (A0 (v := Value.string (bs x3)) F VO Aa (fun w W => P2 any w (v1) (v2) (Tr37.of (p0.un.1, Tr34.of (p0.un.2.1.un.1, p0.un.2.1.un.2.1, p0.un.2.1.un.2.2.1, p0.un.2.1.un.2.2.2), p0.un.2.2.1, p0.un.2.2.2.1, p0.un.2.2.2.2)) _ h5 (((AM CL h1 (Ay h_v1)) : DZ _ _ _ _ _ _) w W).nx (((AM Fx h2 (Ay h_v2)) : DZ _ _ _ _ _ _) w W).nx)) fun a w F W => ?_
    refine Au F W (Ad F Aa Aa Aa Aa) Aa (Al Aa) (FA (l := x3) KB Aa F Aa).q fun a w F W => ?_
    refine Au F W (Ad F Aa Aa Aa Aa) Aa (Al Aa) (HX F Aa Aa).q fun a w F W => ?_
    refine ls F W Aa (As F Aa Aa Aa).q fun a w F W => ?_
    refine Ae (Ac ?_)
    have W := W.frontM (i := 1) Aa Aa
    have W := W.frontM (i := 1) Aa Aa
    exact ⟨_, H, F.re ⟨rfl, Aa, Aa, Aa, trivial⟩, W⟩
   have H := AY (by rw [hb]; decide) H
   rw [hb] at F
   clear hb
   iterate 4 refine Cd F Aa Aa Aa Aa Aa Aa Aa fun a F => ?_
   refine ls F W Aa (Ap F Aa Aa Aa).q fun a w F W => ?_
   refine Ae (Ac ?_)
   have W := W.frontM (i := 1) Aa Aa
   have W := W.frontM (i := 1) Aa Aa
   exact ⟨_, H, F.re ⟨rfl, Aa, Aa, Aa, trivial⟩, W⟩
  rintro a w ⟨x1, hj, F, W⟩
  have hj := AK hj
  subst hj
  have H := K2
  clear G2 K2
  refine Az F Aa (fun hb => ?_) fun hb => ?_
  ·
   have H := AW hb H
   rw [hb] at F
   clear hb
   refine Ak (Ab ?_)
   refine ls F W Aa (Av (v := Value.agg #[.int .i64 p0.un.1, .int .i64 p0.un.2.1.un.1, .int .i64 p0.un.2.1.un.2.1, .int .i64 p0.un.2.1.un.2.2.1, v1, .int .i64 p0.un.2.2.1, .int .i64 p0.un.2.2.2.1, v2]) 1 F Aa Aa MR Aa).q fun a w F W => ?_
   obtain ⟨x4, h6, H⟩ := Aq H
   refine A2 (Ml := []) (Zl := []) (M := (FR b2 p1 v3 b1 p0 v1 v2)) (Z := []) (β := Value × Value) (rv := fun x => .agg #[.int .i64 x4.un.1, .int .i64 x4.un.2.1.un.1, .int .i64 x4.un.2.1.un.2.1, .int .i64 x4.un.2.1.un.2.2.1, x.1, .int .i64 x4.un.2.2.1, .int .i64 x4.un.2.2.2.1, x.2]) (MM := fun x => []) (ZZ := fun x => [row x.1 25 AR x4.un.2.1.un.2.2.2, row x.2 28 BD x4.un.2.2.2.2]) F W VY Aa Aa (fun hL => PX _ w (v1) (v2) (Tr37.of (p0.un.1, Tr34.of (p0.un.2.1.un.1, p0.un.2.1.un.2.1, p0.un.2.1.un.2.2.1, p0.un.2.1.un.2.2.2), p0.un.2.2.1, p0.un.2.2.2.1, p0.un.2.2.2.2)) _ h6 ((AM CL h1 (Ay h_v1)) w W).nx ((AM Fx h2 (Ay h_v2)) w W).nx) fun x a w F W => ?_
   obtain ⟨v7, v8⟩ := x
   have W : Stw ⟨Y, [], w0⟩ (FR b2 p1 v3 b1 p0 v1 v2) [row v7 25 AR x4.un.2.1.un.2.2.2, row v8 28 BD x4.un.2.2.2.2] w := W
   obtain ⟨x5, h7, H⟩ := Aq H
   refine ls F W Aa (A0 (v := Value.string (bs x5)) F U9 Aa (fun w W => JB any w (v7) (v8) (Tr28.of (x4.un.1, Tr25.of (x4.un.2.1.un.1, x4.un.2.1.un.2.1, x4.un.2.1.un.2.2.1, x4.un.2.1.un.2.2.2), x4.un.2.2.1, x4.un.2.2.2.1, x4.un.2.2.2.2)) _ h7 (((BP 0 Aa) : DZ _ _ _ _ _ _) w W).nx (((BP 1 Aa) : DZ _ _ _ _ _ _) w W).nx (hG.go0 W))) fun a w F W => ?_
   obtain ⟨x6, h8, H⟩ := Aq H
   refine A2 (Ml := []) (Zl := []) (M := (FR b2 p1 v3 b1 p0 v1 v2)) (Z := [row v7 25 AR x4.un.2.1.un.2.2.2, row v8 28 BD x4.un.2.2.2.2]) (β := Value × Value) (rv := fun x => .tuple #[.agg #[.int .i64 x6.1.un.1, .int .i64 x6.1.un.2.1.un.1, .int .i64 x6.1.un.2.1.un.2.1, .int .i64 x6.1.un.2.1.un.2.2.1, x.1, .int .i64 x6.1.un.2.2.1, .int .i64 x6.1.un.2.2.2.1, x.2], .int .i64 x6.2.1, .int .i64 x6.2.2]) (MM := fun x => []) (ZZ := fun x => [AU x.1 AR x6.1.un.2.1.un.2.2.2, AU x.2 BD x6.1.un.2.2.2.2]) F W H7 Aa Aa (fun hL => JC _ w x5 _ h8) fun x a w F W => ?_
   obtain ⟨v9, v10⟩ := x
   have W : Stw ⟨Y, [], w0⟩ (FR b2 p1 v3 b1 p0 v1 v2) [AU v9 AR x6.1.un.2.1.un.2.2.2, AU v10 BD x6.1.un.2.2.2.2, row v7 25 AR x4.un.2.1.un.2.2.2, row v8 28 BD x4.un.2.2.2.2] w := W
   refine ls F W Aa (Ah F Aa).q fun a w F W => ?_
   refine ls F W Aa (B3 (v := Value.agg #[.int .i64 x6.1.un.1, .int .i64 x6.1.un.2.1.un.1, .int .i64 x6.1.un.2.1.un.2.1, .int .i64 x6.1.un.2.1.un.2.2.1, v9, .int .i64 x6.1.un.2.2.1, .int .i64 x6.1.un.2.2.2.1, v10]) F Aa Aa).q fun a w F W => ?_
   refine ls F W Aa (B3 (v := Value.int .i64 x6.2.1) F Aa Aa).q fun a w F W => ?_
   refine ls F W Aa (B3 (v := Value.int .i64 x6.2.2) F Aa Aa).q fun a w F W => ?_
   refine Bi (cs := (BM)) F W Aa Lh Aa fun b3 a w F W => ?_
   refine AL (vs := (IE x6 v9 v10)) (M' := [(b3, (IE x6 v9 v10)), (b2, (Du p1 v3)), (b1, (Ce p0 v1 v2))]) 0 F W Aa Aa Aa FJ Aa Aa Aa (Ai Aa (Ai Aa (Ai Aa (Ai Aa (Ai (W.oneF (k := 0) Aa) (Ai Aa (Ai Aa (Ai (W.oneF (k := 1) Aa) Bp)))))))) Aa fun w W => ?_
   iterate 2 refine ls F W Aa (Ag F Aa).q fun a w F W => ?_
   refine Ae (Ac ?_)
   obtain ⟨o3, G3, K3⟩ := Aq H
   refine A1 (fun a w => ∃ x7 : Bool, some (x7) = some o3 ∧ Fr 70 [] [(3, .pointer (some ⟨b2, 0, none⟩)), (4, .bool false), (39, .bool x7)] a ∧ Stw ⟨Y, [], w0⟩ [(b3, (IE x6 v9 v10)), (b2, (Du p1 v3)), (b1, (Ce p0 v1 v2))] [AU v9 AR x6.1.un.2.1.un.2.2.2, AU v10 BD x6.1.un.2.2.2.2] w) ?_ ?_
   ·
    have H := G3
    clear G3 K3
    refine GW [(true, 0), (true, 1), (true, 2), (true, 3), (true, 4), (true, 5), (true, 6), (true, 7), (true, 9), (false, 8), (false, 10), (true, 11), (true, 12)] (CN ⟨Y, [], w0⟩ [(some 8, b3, [.int .i64 x6.1.un.1, .int .i64 x6.1.un.2.1.un.1, .int .i64 x6.1.un.2.1.un.2.1, .int .i64 x6.1.un.2.1.un.2.2.1, v9, .int .i64 x6.1.un.2.2.1, .int .i64 x6.1.un.2.2.2.1, v10]), (some 10, b1, [.int .i64 p0.un.1, .int .i64 p0.un.2.1.un.1, .int .i64 p0.un.2.1.un.2.1, .int .i64 p0.un.2.1.un.2.2.1, v1, .int .i64 p0.un.2.2.1, .int .i64 p0.un.2.2.2.1, v2])] []) (fun ch a d v w h => by cases d <;> exact h) MO (by kernel_rfl) W (fun w W => ⟨_, _, W, (Aw (fun _ => (.head _)) (Aw (fun _ => (.tail _ (.tail _ (.head _)))) AB)), AB⟩) fun w W => ?_
    refine CK (R := []) F Aa Aa (yC fun M Z hN hZ => Ah F Aa) Aa Aa fun a F => ?_
    refine CK (R := []) F Aa Aa (yC fun M Z hN hZ => Dp F Aa Aa) Aa Aa fun a F => ?_
    refine CK (R := []) F Aa Aa (yC fun M Z hN hZ => Ah F Aa) Aa Aa fun a F => ?_
    rcases Bool.eq_false_or_eq_true (decide (x6.2.2 ≠ 0)) with hb | hb
    ·
     have H := AW (Bw hb) H
     rw [hb] at F
     clear hb
     iterate 2 refine Gf F Aa (BK F Aa Aa Aa Aa Aa) Aa Aa Aa fun a F => ?_
     refine CK (R := []) F Aa Aa (yC fun M Z hN hZ => As F Aa Aa Aa) Aa Aa fun a F => ?_
     refine CK (R := []) F Aa Aa (yC fun M Z hN hZ => Ah F Aa) Aa Aa fun a F => ?_
     iterate 2 refine Gf F Aa (BK F Aa Aa Aa Aa Aa) Aa Aa Aa fun a F => ?_
     refine Fj Aa ?_
     refine Cd F Aa Aa Aa Aa Aa Aa Aa fun a F => ?_
     refine BZ (N2 := []) (NZ2 := []) (N3 := [(some 8, b3, [.int .i64 x6.1.un.1, .int .i64 x6.1.un.2.1.un.1, .int .i64 x6.1.un.2.1.un.2.1, .int .i64 x6.1.un.2.1.un.2.2.1, v9, .int .i64 x6.1.un.2.2.1, .int .i64 x6.1.un.2.2.2.1, v10]), (some 10, b1, [.int .i64 p0.un.1, .int .i64 p0.un.2.1.un.1, .int .i64 p0.un.2.1.un.2.1, .int .i64 p0.un.2.1.un.2.2.1, v1, .int .i64 p0.un.2.2.1, .int .i64 p0.un.2.2.2.1, v2])]) (NZ3 := []) W Aa Aa (Aw (fun h => AN (by kernel_rfl) h) (Aw (fun _ => (.tail _ (.tail _ (.head _)))) AB)) AB ?_
     refine Fj Aa ?_
     refine Cd F Aa Aa Aa Aa Aa Aa Aa fun a F => ?_
     refine BZ (N2 := []) (NZ2 := []) (N3 := [(some 8, b3, [.int .i64 x6.1.un.1, .int .i64 x6.1.un.2.1.un.1, .int .i64 x6.1.un.2.1.un.2.1, .int .i64 x6.1.un.2.1.un.2.2.1, v9, .int .i64 x6.1.un.2.2.1, .int .i64 x6.1.un.2.2.2.1, v10]), (some 10, b1, [.int .i64 p0.un.1, .int .i64 p0.un.2.1.un.1, .int .i64 p0.un.2.1.un.2.1, .int .i64 p0.un.2.1.un.2.2.1, v1, .int .i64 p0.un.2.2.1, .int .i64 p0.un.2.2.2.1, v2])]) (NZ3 := []) W Aa Aa (Aw (fun h => AN (by kernel_rfl) h) (Aw (fun h => AN (by kernel_rfl) h) AB)) AB ?_
     refine Gf F Aa (BK F Aa Aa Aa Aa Aa) Aa Aa Aa fun a F => ?_
     refine CK (R := []) F Aa Aa (yC fun M Z hN hZ => As F Aa Aa Aa) Aa Aa fun a F => ?_
     refine He (Ac ?_)
     have W := W.frontZ (i := 1) Aa Aa
     have W := W.frontZ (i := 1) Aa Aa
     have W := W.frontM (i := 2) Aa Aa
     have W := W.frontM (i := 2) Aa Aa
     have W := W.frontM (i := 2) Aa Aa
     have W := W.sub (M' := [(b3, (IE x6 v9 v10)), (b2, (Du p1 v3)), (b1, (Ce p0 v1 v2))]) (Z' := [AU v9 AR x6.1.un.2.1.un.2.2.2, AU v10 BD x6.1.un.2.2.2.2]) (List.Sublist.refl _) (List.Sublist.cons_cons _ (List.Sublist.cons_cons _ (List.nil_sublist _)))
     exact ⟨_, H, F.re ⟨rfl, Aa, Aa, trivial⟩, W⟩
    have H := AY (Bx hb) H
    rw [hb] at F
    clear hb
    refine MT (R := []) F Aa (Ad F Aa Aa Aa Aa) Aa Aa (yC fun M Z hN hZ => Ah F Aa) Aa Aa fun a F => ?_
    refine MT (R := []) F Aa (Ad F Aa Aa Aa Aa) Aa Aa (yC fun M Z hN hZ => Dp F Aa Aa) Aa Aa fun a F => ?_
    refine CK (R := []) F Aa Aa (yC fun M Z hN hZ => Ap F Aa Aa Aa) Aa Aa fun a F => ?_
    refine CK (R := []) F Aa Aa (yC fun M Z hN hZ => Ah F Aa) Aa Aa fun a F => ?_
    rcases Bool.eq_false_or_eq_true (decide (x6.2.1 ≠ 0)) with hb | hb
    ·
     have H := AW (Bw hb) H
     rw [hb] at F
     clear hb
     iterate 2 refine Gf F Aa (BK F Aa Aa Aa Aa Aa) Aa Aa Aa fun a F => ?_
     refine Fj Aa ?_
     refine Cd F Aa Aa Aa Aa Aa Aa Aa fun a F => ?_
     refine BZ (N2 := []) (NZ2 := []) (N3 := [(some 8, b3, [.int .i64 x6.1.un.1, .int .i64 x6.1.un.2.1.un.1, .int .i64 x6.1.un.2.1.un.2.1, .int .i64 x6.1.un.2.1.un.2.2.1, v9, .int .i64 x6.1.un.2.2.1, .int .i64 x6.1.un.2.2.2.1, v10]), (some 10, b1, [.int .i64 p0.un.1, .int .i64 p0.un.2.1.un.1, .int .i64 p0.un.2.1.un.2.1, .int .i64 p0.un.2.1.un.2.2.1, v1, .int .i64 p0.un.2.2.1, .int .i64 p0.un.2.2.2.1, v2])]) (NZ3 := []) W Aa Aa (Aw (fun h => AN (by kernel_rfl) h) (Aw (fun _ => (.tail _ (.tail _ (.head _)))) AB)) AB ?_
     refine Fj Aa ?_
     refine Cd F Aa Aa Aa Aa Aa Aa Aa fun a F => ?_
     refine BZ (N2 := []) (NZ2 := []) (N3 := [(some 8, b3, [.int .i64 x6.1.un.1, .int .i64 x6.1.un.2.1.un.1, .int .i64 x6.1.un.2.1.un.2.1, .int .i64 x6.1.un.2.1.un.2.2.1, v9, .int .i64 x6.1.un.2.2.1, .int .i64 x6.1.un.2.2.2.1, v10]), (some 10, b1, [.int .i64 p0.un.1, .int .i64 p0.un.2.1.un.1, .int .i64 p0.un.2.1.un.2.1, .int .i64 p0.un.2.1.un.2.2.1, v1, .int .i64 p0.un.2.2.1, .int .i64 p0.un.2.2.2.1, v2])]) (NZ3 := []) W Aa Aa (Aw (fun h => AN (by kernel_rfl) h) (Aw (fun h => AN (by kernel_rfl) h) AB)) AB ?_
     refine Gf F Aa (BK F Aa Aa Aa Aa Aa) Aa Aa Aa fun a F => ?_
     refine CK (R := []) F Aa Aa (yC fun M Z hN hZ => As F Aa Aa Aa) Aa Aa fun a F => ?_
     refine He (Ac ?_)
     have W := W.frontZ (i := 1) Aa Aa
     have W := W.frontZ (i := 1) Aa Aa
     have W := W.frontM (i := 2) Aa Aa
     have W := W.frontM (i := 2) Aa Aa
     have W := W.frontM (i := 2) Aa Aa
     have W := W.sub (M' := [(b3, (IE x6 v9 v10)), (b2, (Du p1 v3)), (b1, (Ce p0 v1 v2))]) (Z' := [AU v9 AR x6.1.un.2.1.un.2.2.2, AU v10 BD x6.1.un.2.2.2.2]) (List.Sublist.refl _) (List.Sublist.cons_cons _ (List.Sublist.cons_cons _ (List.nil_sublist _)))
     exact ⟨_, H, F.re ⟨rfl, Aa, Aa, trivial⟩, W⟩
    have H := AY (Bx hb) H
    rw [hb] at F
    clear hb
    refine MT (R := [8]) F Aa (Ad F Aa Aa Aa Aa) Aa Aa (yC fun M Z hN hZ => Cs (cs := (IE x6 v9 v10)) (v := Value.agg #[.int .i64 x6.1.un.1, .int .i64 x6.1.un.2.1.un.1, .int .i64 x6.1.un.2.1.un.2.1, .int .i64 x6.1.un.2.1.un.2.2.1, v9, .int .i64 x6.1.un.2.2.1, .int .i64 x6.1.un.2.2.2.1, v10]) F Aa (hN ((some 8), b3, (IE x6 v9 v10)) (.head _) Aa) FJ Aa) (by kernel_rfl) Aa fun a F => ?_
    refine MT (R := [10]) F Aa (Ad F Aa Aa Aa Aa) Aa Aa (yC fun M Z hN hZ => Cs (cs := (Ce p0 v1 v2)) (v := Value.agg #[.int .i64 p0.un.1, .int .i64 p0.un.2.1.un.1, .int .i64 p0.un.2.1.un.2.1, .int .i64 p0.un.2.1.un.2.2.1, v1, .int .i64 p0.un.2.2.1, .int .i64 p0.un.2.2.2.1, v2]) F Aa (hN ((some 10), b1, (Ce p0 v1 v2)) (.tail _ (.head _)) Aa) MR Aa) (by kernel_rfl) Aa fun a F => ?_
    refine Fj Aa ?_
    refine Jc (Ad F Aa Aa Aa Aa) ?_
    obtain ⟨x8, h9, H⟩ := Aq H
    refine A2 (Ml := []) (Zl := []) (M := [(b3, (IE x6 v9 v10)), (b2, (Du p1 v3)), (b1, (Ce p0 v1 v2))]) (Z := [AU v9 AR x6.1.un.2.1.un.2.2.2, AU v10 BD x6.1.un.2.2.2.2, row v7 25 AR x4.un.2.1.un.2.2.2, row v8 28 BD x4.un.2.2.2.2]) (β := Value × Value) (rv := fun x => .agg #[.int .i64 x8.un.1, .int .i64 x8.un.2.1.un.1, .int .i64 x8.un.2.1.un.2.1, .int .i64 x8.un.2.1.un.2.2.1, x.1, .int .i64 x8.un.2.2.1, .int .i64 x8.un.2.2.2.1, x.2]) (MM := fun x => []) (ZZ := fun x => [row x.1 34 CS x8.un.2.1.un.2.2.2, row x.2 37 Ff x8.un.2.2.2.2]) F W VK Aa Aa (fun hL => Og _ w (v9) (v10) (Tr28.of (x6.1.un.1, Tr25.of (x6.1.un.2.1.un.1, x6.1.un.2.1.un.2.1, x6.1.un.2.1.un.2.2.1, x6.1.un.2.1.un.2.2.2), x6.1.un.2.2.1, x6.1.un.2.2.2.1, x6.1.un.2.2.2.2)) _ h9 ((Jm 0 Aa) w W).nx ((Jm 1 Aa) w W).nx) fun x a w F W => ?_
    obtain ⟨v11, v12⟩ := x
    have W : Stw ⟨Y, [], w0⟩ [(b3, (IE x6 v9 v10)), (b2, (Du p1 v3)), (b1, (Ce p0 v1 v2))] [row v11 34 CS x8.un.2.1.un.2.2.2, row v12 37 Ff x8.un.2.2.2.2, AU v9 AR x6.1.un.2.1.un.2.2.2, AU v10 BD x6.1.un.2.2.2.2, row v7 25 AR x4.un.2.1.un.2.2.2, row v8 28 BD x4.un.2.2.2.2] w := W
    refine BZ (N2 := []) (NZ2 := []) (N3 := [(some 8, b3, [.int .i64 x6.1.un.1, .int .i64 x6.1.un.2.1.un.1, .int .i64 x6.1.un.2.1.un.2.1, .int .i64 x6.1.un.2.1.un.2.2.1, v9, .int .i64 x6.1.un.2.2.1, .int .i64 x6.1.un.2.2.2.1, v10]), (some 10, b1, [.int .i64 p0.un.1, .int .i64 p0.un.2.1.un.1, .int .i64 p0.un.2.1.un.2.1, .int .i64 p0.un.2.1.un.2.2.1, v1, .int .i64 p0.un.2.2.1, .int .i64 p0.un.2.2.2.1, v2])]) (NZ3 := []) W Aa Aa (Aw (fun h => AN (by kernel_rfl) h) (Aw (fun _ => (.tail _ (.tail _ (.head _)))) AB)) AB ?_
    refine Fj Aa ?_
    refine Jc (Ad F Aa Aa Aa Aa) ?_
    obtain ⟨x9, h10, H⟩ := Aq H
    refine ls F W Aa (A0 (v := Value.bool x9) F H9 Aa (fun w W => Qk any w (v11) (v12) (v1) (v2) (Tr37.of (x8.un.1, Tr34.of (x8.un.2.1.un.1, x8.un.2.1.un.2.1, x8.un.2.1.un.2.2.1, x8.un.2.1.un.2.2.2), x8.un.2.2.1, x8.un.2.2.2.1, x8.un.2.2.2.2)) (Tr37.of (p0.un.1, Tr34.of (p0.un.2.1.un.1, p0.un.2.1.un.2.1, p0.un.2.1.un.2.2.1, p0.un.2.1.un.2.2.2), p0.un.2.2.1, p0.un.2.2.2.1, p0.un.2.2.2.2)) _ h10 (((BP 0 Aa) : DZ _ _ _ _ _ _) w W).nx (((BP 1 Aa) : DZ _ _ _ _ _ _) w W).nx (((AM CL h1 (Ay h_v1)) : DZ _ _ _ _ _ _) w W).nx (((AM Fx h2 (Ay h_v2)) : DZ _ _ _ _ _ _) w W).nx)) fun a w F W => ?_
    refine BZ (N2 := []) (NZ2 := []) (N3 := [(some 8, b3, [.int .i64 x6.1.un.1, .int .i64 x6.1.un.2.1.un.1, .int .i64 x6.1.un.2.1.un.2.1, .int .i64 x6.1.un.2.1.un.2.2.1, v9, .int .i64 x6.1.un.2.2.1, .int .i64 x6.1.un.2.2.2.1, v10]), (some 10, b1, [.int .i64 p0.un.1, .int .i64 p0.un.2.1.un.1, .int .i64 p0.un.2.1.un.2.1, .int .i64 p0.un.2.1.un.2.2.1, v1, .int .i64 p0.un.2.2.1, .int .i64 p0.un.2.2.2.1, v2])]) (NZ3 := []) W Aa Aa (Aw (fun h => AN (by kernel_rfl) h) (Aw (fun h => AN (by kernel_rfl) h) AB)) AB ?_
    refine MT (R := []) F Aa (Ad F Aa Aa Aa Aa) Aa Aa (yC fun M Z hN hZ => Hs F Aa) Aa Aa fun a F => ?_
    refine CK (R := []) F Aa Aa (yC fun M Z hN hZ => Ap F Aa Aa Aa) Aa Aa fun a F => ?_
    refine He (Ac ?_)
    have W := W.frontZ (i := 3) Aa Aa
    have W := W.frontZ (i := 3) Aa Aa
    have W := W.frontM (i := 2) Aa Aa
    have W := W.frontM (i := 2) Aa Aa
    have W := W.frontM (i := 2) Aa Aa
    have W := W.sub (M' := [(b3, (IE x6 v9 v10)), (b2, (Du p1 v3)), (b1, (Ce p0 v1 v2))]) (Z' := [AU v9 AR x6.1.un.2.1.un.2.2.2, AU v10 BD x6.1.un.2.2.2.2]) (List.Sublist.refl _) (List.Sublist.cons_cons _ (List.Sublist.cons_cons _ (List.nil_sublist _)))
    exact ⟨_, H, F.re ⟨rfl, Aa, Aa, trivial⟩, W⟩
   rintro a w ⟨x7, hj, F, W⟩
   have hj := AK hj
   subst hj
   have H := K3
   clear G3 K3
   refine Az F Aa (fun hb => ?_) fun hb => ?_
   ·
    have H := AW hb H
    rw [hb] at F
    clear hb
    refine Ak (Ab ?_)
    refine ls F W Aa (Ag F Aa).q fun a w F W => ?_
    refine Ae (Ac (Ax (AO ?_)))
    have H := L1 _ H
    have H := AK H
    subst H
    refine AG (.inl Aa) F W Aa (AD F Aa) ?_
    exact ⟨rfl, W.done⟩
   have H := AY (by rw [hb]; decide) H
   rw [hb] at F
   clear hb
   refine AA (Ac ?_)
   have W := W.frontM (i := 2) Aa Aa
   have W := W.frontM (i := 2) Aa Aa
   have W := W.sub (M' := (FR b2 p1 v3 b1 p0 v1 v2)) (Z' := []) (List.Sublist.cons_cons _ (List.Sublist.cons_cons _ (List.nil_sublist _))) (List.nil_sublist _)
   exact ⟨H, F.re ⟨rfl, Aa, trivial⟩, W⟩
  have H := AY (by rw [hb]; decide) H
  rw [hb] at F
  clear hb
  refine AA (Ac ?_)
  have W := W.frontM (i := 1) Aa Aa
  have W := W.frontM (i := 1) Aa Aa
  exact ⟨H, F.re ⟨rfl, Aa, trivial⟩, W⟩
 rintro a w ⟨hj, F, W⟩
 have H := K1 _ hj
 clear hj G1 K1 L1
 obtain ⟨o4, G4, K4, L4⟩ := Rk H
 refine A1 (fun a w => some (Sum.inl ()) = some o4 ∧ Fr 70 [] [(4, .bool false)] a ∧ Stw ⟨Y, [], w0⟩ (FR b2 p1 v3 b1 p0 v1 v2) [] w) ?_ ?_
 ·
  have H := G4
  clear G4 K4
  obtain ⟨o5, G5, K5⟩ := Aq H
  refine A1 (fun a w => ∃ x10 : Bool, some (x10) = some o5 ∧ Fr 70 [] [(3, .pointer (some ⟨b2, 0, none⟩)), (4, .bool false), (47, .bool x10)] a ∧ Stw ⟨Y, [], w0⟩ (FR b2 p1 v3 b1 p0 v1 v2) [] w) ?_ ?_
  ·
   have H := G5
   clear G5 K5
   refine Ab ?_
   refine ls F W Aa (Av (v := Value.agg #[.int .i64 p1.un.1, .int .i64 p1.un.2.1, .int .i64 p1.un.2.2.1, v3]) 0 F Aa Aa IA Aa).q fun a w F W => ?_
   obtain ⟨x11, h11, H⟩ := Aq H
   refine ls F W Aa (A0 (v := Value.bool x11) F VR Aa (fun w W => KZ any w (v3) p1 _ h11 (((AM CL h3 (Ay h_v3)) : DZ _ _ _ _ _ _) w W).nx)) fun a w F W => ?_
   refine ls F W Aa (Ah F Aa).q fun a w F W => ?_
   rcases Bool.eq_false_or_eq_true x11 with hb | hb
   ·
    have H := AW hb H
    rw [hb] at F
    clear hb
    refine Au F W (Ad F Aa Aa Aa Aa) Aa (Al Aa) (Av (v := Value.agg #[.int .i64 p1.un.1, .int .i64 p1.un.2.1, .int .i64 p1.un.2.2.1, v3]) 0 F Aa Aa IA Aa).q fun a w F W => ?_
    refine Jc (Ad F Aa Aa Aa Aa) ?_
    obtain ⟨x12, h12, H⟩ := Aq H
    refine ls F W Aa (A0 (v := Value.string (bs x12)) F UU Aa (fun w W => J6 any w (v3) p1 _ h12 (((AM CL h3 (Ay h_v3)) : DZ _ _ _ _ _ _) w W).nx)) fun a w F W => ?_
    refine Au F W (Ad F Aa Aa Aa Aa) Aa (Al Aa) (FA (l := x12) KB Aa F Aa).q fun a w F W => ?_
    refine Au F W (Ad F Aa Aa Aa Aa) Aa (Al Aa) (HX F Aa Aa).q fun a w F W => ?_
    refine ls F W Aa (As F Aa Aa Aa).q fun a w F W => ?_
    refine Ae (Ac ?_)
    have W := W.frontM (i := 1) Aa Aa
    have W := W.frontM (i := 1) Aa Aa
    exact ⟨_, H, F.re ⟨rfl, Aa, Aa, trivial⟩, W⟩
   have H := AY (by rw [hb]; decide) H
   rw [hb] at F
   clear hb
   iterate 4 refine Cd F Aa Aa Aa Aa Aa Aa Aa fun a F => ?_
   refine ls F W Aa (Ap F Aa Aa Aa).q fun a w F W => ?_
   refine Ae (Ac ?_)
   have W := W.frontM (i := 1) Aa Aa
   have W := W.frontM (i := 1) Aa Aa
   exact ⟨_, H, F.re ⟨rfl, Aa, Aa, trivial⟩, W⟩
  rintro a w ⟨x10, hj, F, W⟩
  have hj := AK hj
  subst hj
  have H := K5
  clear G5 K5
  refine Az F Aa (fun hb => ?_) fun hb => ?_
  ·
   have H := AW hb H
   rw [hb] at F
   clear hb
   refine Ak (Ab ?_)
   refine ls F W Aa (Av (v := Value.agg #[.int .i64 p1.un.1, .int .i64 p1.un.2.1, .int .i64 p1.un.2.2.1, v3]) 0 F Aa Aa IA Aa).q fun a w F W => ?_
   obtain ⟨x13, h13, H⟩ := Aq H
   refine A2 (Ml := []) (Zl := []) (M := (FR b2 p1 v3 b1 p0 v1 v2)) (Z := []) (β := Value) (rv := fun x => .agg #[.int .i64 x13.un.1, .int .i64 x13.un.2.1, .int .i64 x13.un.2.2.1, x]) (MM := fun x => []) (ZZ := fun x => [row x 25 AR x13.un.2.2.2]) F W U2 Aa Aa (fun hL => J7 _ w (v3) p1 _ h13 ((AM CL h3 (Ay h_v3)) w W).nx) fun x a w F W => ?_
   obtain ⟨v13, rfl⟩ : ∃ y, y = x := ⟨x, rfl⟩
   have W : Stw ⟨Y, [], w0⟩ (FR b2 p1 v3 b1 p0 v1 v2) [row v13 25 AR x13.un.2.2.2] w := W
   obtain ⟨x14, h14, H⟩ := Aq H
   refine ls F W Aa (A0 (v := Value.string (bs x14)) F U0 Aa (fun w W => IQ any w (v13) x13 _ h14 (((BP 0 Aa) : DZ _ _ _ _ _ _) w W).nx (hG.go0 W))) fun a w F W => ?_
   obtain ⟨x15, h15, H⟩ := Aq H
   refine A2 (Ml := []) (Zl := []) (M := (FR b2 p1 v3 b1 p0 v1 v2)) (Z := [row v13 25 AR x13.un.2.2.2]) (β := Value) (rv := fun x => .tuple #[.agg #[.int .i64 x15.1.un.1, .int .i64 x15.1.un.2.1, .int .i64 x15.1.un.2.2.1, x], .int .i64 x15.2.1, .int .i64 x15.2.2]) (MM := fun x => []) (ZZ := fun x => [AU x AR x15.1.un.2.2.2]) F W V1 Aa Aa (fun hL => Oe _ w x14 _ h15) fun x a w F W => ?_
   obtain ⟨v14, rfl⟩ : ∃ y, y = x := ⟨x, rfl⟩
   have W : Stw ⟨Y, [], w0⟩ (FR b2 p1 v3 b1 p0 v1 v2) [AU v14 AR x15.1.un.2.2.2, row v13 25 AR x13.un.2.2.2] w := W
   refine ls F W Aa (Ah F Aa).q fun a w F W => ?_
   refine ls F W Aa (B3 (v := Value.agg #[.int .i64 x15.1.un.1, .int .i64 x15.1.un.2.1, .int .i64 x15.1.un.2.2.1, v14]) F Aa Aa).q fun a w F W => ?_
   refine ls F W Aa (B3 (v := Value.int .i64 x15.2.1) F Aa Aa).q fun a w F W => ?_
   refine ls F W Aa (B3 (v := Value.int .i64 x15.2.2) F Aa Aa).q fun a w F W => ?_
   refine Bi (cs := (Ct)) F W Aa NI Aa fun b4 a w F W => ?_
   refine AL (vs := (Hz x15 v14)) (M' := [(b4, (Hz x15 v14)), (b2, (Du p1 v3)), (b1, (Ce p0 v1 v2))]) 0 F W Aa Aa Aa FW Aa Aa Aa (Ai Aa (Ai Aa (Ai Aa (Ai (W.oneF (k := 0) Aa) Bp)))) Aa fun w W => ?_
   iterate 2 refine ls F W Aa (Ag F Aa).q fun a w F W => ?_
   refine Ae (Ac ?_)
   obtain ⟨o6, G6, K6⟩ := Aq H
   refine A1 (fun a w => ∃ x16 : Bool, some (x16) = some o6 ∧ Fr 70 [] [(4, .bool false), (68, .bool x16)] a ∧ Stw ⟨Y, [], w0⟩ [(b4, (Hz x15 v14)), (b2, (Du p1 v3)), (b1, (Ce p0 v1 v2))] [AU v14 AR x15.1.un.2.2.2] w) ?_ ?_
   ·
    have H := G6
    clear G6 K6
    refine GW [(true, 0), (true, 1), (true, 2), (true, 3), (true, 4), (true, 5), (true, 6), (true, 7), (true, 9), (false, 8), (false, 10), (true, 11), (true, 12)] (CN ⟨Y, [], w0⟩ [(some 8, b4, [.int .i64 x15.1.un.1, .int .i64 x15.1.un.2.1, .int .i64 x15.1.un.2.2.1, v14]), (some 10, b2, [.int .i64 p1.un.1, .int .i64 p1.un.2.1, .int .i64 p1.un.2.2.1, v3])] []) (fun ch a d v w h => by cases d <;> exact h) MO (by kernel_rfl) W (fun w W => ⟨_, _, W, (Aw (fun _ => (.head _)) (Aw (fun _ => (.tail _ (.head _))) AB)), AB⟩) fun w W => ?_
    refine CK (R := []) F Aa Aa (yC fun M Z hN hZ => Ah F Aa) Aa Aa fun a F => ?_
    refine CK (R := []) F Aa Aa (yC fun M Z hN hZ => Dp F Aa Aa) Aa Aa fun a F => ?_
    refine CK (R := []) F Aa Aa (yC fun M Z hN hZ => Ah F Aa) Aa Aa fun a F => ?_
    rcases Bool.eq_false_or_eq_true (decide (x15.2.2 ≠ 0)) with hb | hb
    ·
     have H := AW (Bw hb) H
     rw [hb] at F
     clear hb
     iterate 2 refine Gf F Aa (BK F Aa Aa Aa Aa Aa) Aa Aa Aa fun a F => ?_
     refine CK (R := []) F Aa Aa (yC fun M Z hN hZ => As F Aa Aa Aa) Aa Aa fun a F => ?_
     refine CK (R := []) F Aa Aa (yC fun M Z hN hZ => Ah F Aa) Aa Aa fun a F => ?_
     iterate 2 refine Gf F Aa (BK F Aa Aa Aa Aa Aa) Aa Aa Aa fun a F => ?_
     refine Fj Aa ?_
     refine Cd F Aa Aa Aa Aa Aa Aa Aa fun a F => ?_
     refine BZ (N2 := []) (NZ2 := []) (N3 := [(some 8, b4, [.int .i64 x15.1.un.1, .int .i64 x15.1.un.2.1, .int .i64 x15.1.un.2.2.1, v14]), (some 10, b2, [.int .i64 p1.un.1, .int .i64 p1.un.2.1, .int .i64 p1.un.2.2.1, v3])]) (NZ3 := []) W Aa Aa (Aw (fun h => AN (by kernel_rfl) h) (Aw (fun _ => (.tail _ (.head _))) AB)) AB ?_
     refine Fj Aa ?_
     refine Cd F Aa Aa Aa Aa Aa Aa Aa fun a F => ?_
     refine BZ (N2 := []) (NZ2 := []) (N3 := [(some 8, b4, [.int .i64 x15.1.un.1, .int .i64 x15.1.un.2.1, .int .i64 x15.1.un.2.2.1, v14]), (some 10, b2, [.int .i64 p1.un.1, .int .i64 p1.un.2.1, .int .i64 p1.un.2.2.1, v3])]) (NZ3 := []) W Aa Aa (Aw (fun h => AN (by kernel_rfl) h) (Aw (fun h => AN (by kernel_rfl) h) AB)) AB ?_
     refine Gf F Aa (BK F Aa Aa Aa Aa Aa) Aa Aa Aa fun a F => ?_
     refine CK (R := []) F Aa Aa (yC fun M Z hN hZ => As F Aa Aa Aa) Aa Aa fun a F => ?_
     refine He (Ac ?_)
     have W := W.frontM (i := 2) Aa Aa
     have W := W.frontM (i := 2) Aa Aa
     have W := W.frontM (i := 2) Aa Aa
     have W := W.sub (M' := [(b4, (Hz x15 v14)), (b2, (Du p1 v3)), (b1, (Ce p0 v1 v2))]) (Z' := [AU v14 AR x15.1.un.2.2.2]) (List.Sublist.refl _) (List.Sublist.cons_cons _ (List.nil_sublist _))
     exact ⟨_, H, F.re ⟨rfl, Aa, trivial⟩, W⟩
    have H := AY (Bx hb) H
    rw [hb] at F
    clear hb
    refine MT (R := []) F Aa (Ad F Aa Aa Aa Aa) Aa Aa (yC fun M Z hN hZ => Ah F Aa) Aa Aa fun a F => ?_
    refine MT (R := []) F Aa (Ad F Aa Aa Aa Aa) Aa Aa (yC fun M Z hN hZ => Dp F Aa Aa) Aa Aa fun a F => ?_
    refine CK (R := []) F Aa Aa (yC fun M Z hN hZ => Ap F Aa Aa Aa) Aa Aa fun a F => ?_
    refine CK (R := []) F Aa Aa (yC fun M Z hN hZ => Ah F Aa) Aa Aa fun a F => ?_
    rcases Bool.eq_false_or_eq_true (decide (x15.2.1 ≠ 0)) with hb | hb
    ·
     have H := AW (Bw hb) H
     rw [hb] at F
     clear hb
     iterate 2 refine Gf F Aa (BK F Aa Aa Aa Aa Aa) Aa Aa Aa fun a F => ?_
     refine Fj Aa ?_
     refine Cd F Aa Aa Aa Aa Aa Aa Aa fun a F => ?_
     refine BZ (N2 := []) (NZ2 := []) (N3 := [(some 8, b4, [.int .i64 x15.1.un.1, .int .i64 x15.1.un.2.1, .int .i64 x15.1.un.2.2.1, v14]), (some 10, b2, [.int .i64 p1.un.1, .int .i64 p1.un.2.1, .int .i64 p1.un.2.2.1, v3])]) (NZ3 := []) W Aa Aa (Aw (fun h => AN (by kernel_rfl) h) (Aw (fun _ => (.tail _ (.head _))) AB)) AB ?_
     refine Fj Aa ?_
     refine Cd F Aa Aa Aa Aa Aa Aa Aa fun a F => ?_
     refine BZ (N2 := []) (NZ2 := []) (N3 := [(some 8, b4, [.int .i64 x15.1.un.1, .int .i64 x15.1.un.2.1, .int .i64 x15.1.un.2.2.1, v14]), (some 10, b2, [.int .i64 p1.un.1, .int .i64 p1.un.2.1, .int .i64 p1.un.2.2.1, v3])]) (NZ3 := []) W Aa Aa (Aw (fun h => AN (by kernel_rfl) h) (Aw (fun h => AN (by kernel_rfl) h) AB)) AB ?_
     refine Gf F Aa (BK F Aa Aa Aa Aa Aa) Aa Aa Aa fun a F => ?_
     refine CK (R := []) F Aa Aa (yC fun M Z hN hZ => As F Aa Aa Aa) Aa Aa fun a F => ?_
     refine He (Ac ?_)
     have W := W.frontM (i := 2) Aa Aa
     have W := W.frontM (i := 2) Aa Aa
     have W := W.frontM (i := 2) Aa Aa
     have W := W.sub (M' := [(b4, (Hz x15 v14)), (b2, (Du p1 v3)), (b1, (Ce p0 v1 v2))]) (Z' := [AU v14 AR x15.1.un.2.2.2]) (List.Sublist.refl _) (List.Sublist.cons_cons _ (List.nil_sublist _))
     exact ⟨_, H, F.re ⟨rfl, Aa, trivial⟩, W⟩
    have H := AY (Bx hb) H
    rw [hb] at F
    clear hb
    refine MT (R := [8]) F Aa (Ad F Aa Aa Aa Aa) Aa Aa (yC fun M Z hN hZ => Cs (cs := (Hz x15 v14)) (v := Value.agg #[.int .i64 x15.1.un.1, .int .i64 x15.1.un.2.1, .int .i64 x15.1.un.2.2.1, v14]) F Aa (hN ((some 8), b4, (Hz x15 v14)) (.head _) Aa) FW Aa) (by kernel_rfl) Aa fun a F => ?_
    refine MT (R := [10]) F Aa (Ad F Aa Aa Aa Aa) Aa Aa (yC fun M Z hN hZ => Cs (cs := (Du p1 v3)) (v := Value.agg #[.int .i64 p1.un.1, .int .i64 p1.un.2.1, .int .i64 p1.un.2.2.1, v3]) F Aa (hN ((some 10), b2, (Du p1 v3)) (.tail _ (.head _)) Aa) IA Aa) (by kernel_rfl) Aa fun a F => ?_
    refine Fj Aa ?_
    refine Jc (Ad F Aa Aa Aa Aa) ?_
    obtain ⟨x17, h16, H⟩ := Aq H
    refine A2 (Ml := []) (Zl := []) (M := [(b4, (Hz x15 v14)), (b2, (Du p1 v3)), (b1, (Ce p0 v1 v2))]) (Z := [AU v14 AR x15.1.un.2.2.2, row v13 25 AR x13.un.2.2.2]) (β := Value) (rv := fun x => .agg #[.int .i64 x17.un.1, .int .i64 x17.un.2.1, .int .i64 x17.un.2.2.1, x]) (MM := fun x => []) (ZZ := fun x => [row x 34 CS x17.un.2.2.2]) F W U3 Aa Aa (fun hL => Il _ w (v14) x15.1 _ h16 ((Jm 0 Aa) w W).nx) fun x a w F W => ?_
    obtain ⟨v15, rfl⟩ : ∃ y, y = x := ⟨x, rfl⟩
    have W : Stw ⟨Y, [], w0⟩ [(b4, (Hz x15 v14)), (b2, (Du p1 v3)), (b1, (Ce p0 v1 v2))] [row v15 34 CS x17.un.2.2.2, AU v14 AR x15.1.un.2.2.2, row v13 25 AR x13.un.2.2.2] w := W
    refine BZ (N2 := []) (NZ2 := []) (N3 := [(some 8, b4, [.int .i64 x15.1.un.1, .int .i64 x15.1.un.2.1, .int .i64 x15.1.un.2.2.1, v14]), (some 10, b2, [.int .i64 p1.un.1, .int .i64 p1.un.2.1, .int .i64 p1.un.2.2.1, v3])]) (NZ3 := []) W Aa Aa (Aw (fun h => AN (by kernel_rfl) h) (Aw (fun _ => (.tail _ (.head _))) AB)) AB ?_
    refine Fj Aa ?_
    refine Jc (Ad F Aa Aa Aa Aa) ?_
    obtain ⟨x18, h17, H⟩ := Aq H
    refine ls F W Aa (A0 (v := Value.bool x18) F U7 Aa (fun w W => JY any w (v15) (v3) x17 p1 _ h17 (((BP 0 Aa) : DZ _ _ _ _ _ _) w W).nx (((AM CL h3 (Ay h_v3)) : DZ _ _ _ _ _ _) w W).nx)) fun a w F W => ?_
    refine BZ (N2 := []) (NZ2 := []) (N3 := [(some 8, b4, [.int .i64 x15.1.un.1, .int .i64 x15.1.un.2.1, .int .i64 x15.1.un.2.2.1, v14]), (some 10, b2, [.int .i64 p1.un.1, .int .i64 p1.un.2.1, .int .i64 p1.un.2.2.1, v3])]) (NZ3 := []) W Aa Aa (Aw (fun h => AN (by kernel_rfl) h) (Aw (fun h => AN (by kernel_rfl) h) AB)) AB ?_
    refine MT (R := []) F Aa (Ad F Aa Aa Aa Aa) Aa Aa (yC fun M Z hN hZ => Hs F Aa) Aa Aa fun a F => ?_
    refine CK (R := []) F Aa Aa (yC fun M Z hN hZ => Ap F Aa Aa Aa) Aa Aa fun a F => ?_
    refine He (Ac ?_)
    have W := W.frontZ (i := 1) Aa Aa
    have W := W.frontM (i := 2) Aa Aa
    have W := W.frontM (i := 2) Aa Aa
    have W := W.frontM (i := 2) Aa Aa
    have W := W.sub (M' := [(b4, (Hz x15 v14)), (b2, (Du p1 v3)), (b1, (Ce p0 v1 v2))]) (Z' := [AU v14 AR x15.1.un.2.2.2]) (List.Sublist.refl _) (List.Sublist.cons_cons _ (List.nil_sublist _))
    exact ⟨_, H, F.re ⟨rfl, Aa, trivial⟩, W⟩
   rintro a w ⟨x16, hj, F, W⟩
   have hj := AK hj
   subst hj
   have H := K6
   clear G6 K6
   refine Az F Aa (fun hb => ?_) fun hb => ?_
   ·
    have H := AW hb H
    rw [hb] at F
    clear hb
    refine Ak (Ab ?_)
    refine ls F W Aa (Ag F Aa).q fun a w F W => ?_
    refine Ae (Ac (Ax (AO ?_)))
    have H := L4 _ H
    have H := AK H
    subst H
    refine AG (.inl Aa) F W Aa (AD F Aa) ?_
    exact ⟨rfl, W.done⟩
   have H := AY (by rw [hb]; decide) H
   rw [hb] at F
   clear hb
   refine AA (Ac ?_)
   have W := W.frontM (i := 2) Aa Aa
   have W := W.frontM (i := 2) Aa Aa
   have W := W.sub (M' := (FR b2 p1 v3 b1 p0 v1 v2)) (Z' := []) (List.Sublist.cons_cons _ (List.Sublist.cons_cons _ (List.nil_sublist _))) (List.nil_sublist _)
   exact ⟨H, F.re ⟨rfl, trivial⟩, W⟩
  have H := AY (by rw [hb]; decide) H
  rw [hb] at F
  clear hb
  refine AA (Ac ?_)
  have W := W.frontM (i := 1) Aa Aa
  have W := W.frontM (i := 1) Aa Aa
  exact ⟨H, F.re ⟨rfl, trivial⟩, W⟩
 rintro a w ⟨hj, F, W⟩
 have H := K4 _ hj
 clear hj G4 K4 L4
 refine Ak (Ab ?_)
 obtain ⟨x19, h18, H⟩ := Aq H
 refine ls F W Aa (A0 (v := Value.bool x19) F H6 Aa (fun w W => O7 any w _ h18 (hG.go0 W))) fun a w F W => ?_
 refine ls F W Aa (Ag F Aa).q fun a w F W => ?_
 refine Ae (Ac (Ax ?_))
 have H := AK H
 subst H
 refine AG (.inl Aa) F W Aa (AD F Aa) ?_
 exact ⟨rfl, W.done⟩
end Go.Proofs.YtlgjpoapclifbaaDoor
