/- The functions of layer 24, Ig. Conditions: none. -/
import Derived.Test.YtghpabmmdenaoaabP1
namespace Go.Proofs.Ytghpabmmdenaoaa
open Go Go.RowKit
set_option linter.unusedVariables false
set_option linter.unusedSimpArgs false
set_option maxRecDepth 20000
theorem Wp : Has Try.prog 10 := ⟨fun args w => Al Try.func10 rfl (by decide) args w⟩
noncomputable def Ef (x5 : ((List (Int × Int × Int × Int)) × (List (Int × Int × List Int)) × Int × Int × Int × Int) × Int) (x11 : Int) (x13 : (List (Int × (List (Int × (Int × (Int × (Int × Int × Int × Int) × (Int × Int × Int × Int)) × (List (Int × Int × Int))) × Bool))))) : (Int × Int) → Option ((Int × Int) ⊕ (Int ⊕ ((Int × Int) ⊕ (Int ⊕ Bool))))
  | (x15, x16) => (if x16 < (x13.length : Int) then ((ix x13 x16).bind fun x18 => (ix x5.1.2.1 x11).bind fun x19 => (ix x19.2.2 x16).bind fun x20 => (if x18.1 ≠ x20 then some true else (ix x13 x16).bind fun x21 => (if (x21.2.length : Int) = 0 then some true else (ix x13 x16).bind fun x22 => (ix x5.1.2.1 x11).bind fun x23 => (ix x13 x16).bind fun x24 => (FA x5.1.1 x23.1 x24.1).bind fun x25 => (Ie x22.2 x25).bind fun x26 => some (!x26)))).bind fun x17 => (if x17 = true then some (.inr (.inr (.inr (.inr false)))) else (ix x13 x16).bind fun x27 => some (.inl (Az (x15 + (x27.2.length : Int)), Az (x16 + 1)))) else some (.inr (.inl x15)))
noncomputable def DC (x5 : ((List (Int × Int × Int × Int)) × (List (Int × Int × List Int)) × Int × Int × Int × Int) × Int) : (Int × Int) → Option ((Int × Int) ⊕ (Int ⊕ Bool))
  | (x10, x11) => (if x11 < (x5.1.2.1.length : Int) then FO ((CP x5.1 x11).bind fun x13 => (ix x5.1.2.1 x11).bind fun x14 => (if (x13.length : Int) ≠ (x14.2.2.length : Int) then some (.inr (.inr (.inr false))) else AH (Ef x5 x11 x13) (x10, 0))) fun x12 => some (.inl (x12, Az (x11 + 1))) else some (.inr (.inl x10)))
noncomputable def Hb (p0 : Int × (List (Int × Int × Int × Int × Int × Int)) × (List (Int × Int))) (p1 : List (List Int)) (p2 : List (List Int)) (p3 : Int) (p4 : Int) (p5 : Int) (p6 : Int) : Option Bool := ((HU p0 p1).bind fun x2 => (if (!x2) = true then some true else (HU p0 p2).bind fun x3 => some (!x3))).bind fun x1 => (if x1 = true then (Fc).bind fun x4 => some x4 else (DY p0 p1 p2 p3 p4 p5).bind fun x5 => (if x5.2 ≠ 0 then ((CP x5.1 p6).bind fun x7 => (if (x7.length : Int) = 0 then (Fc).bind fun x8 => some x8 else some false)).bind fun x6 => some x6 else FO (AH (DC x5) (0, 0)) fun x9 => (if x9 = (x5.1.1.length : Int) then (GS p1 x5.1.1 p0.1 ([] : List Int)).bind fun x29 => (Jn x29 p2).bind fun x30 => (if x30 = true then (if 0 ≤ p6 then (if p6 < (x5.1.2.1.length : Int) then (Fc).bind fun x31 => some x31 else (CP x5.1 p6).bind fun x32 => (if (x32.length : Int) = 0 then (Fc).bind fun x33 => some x33 else some false)) else (CP x5.1 p6).bind fun x34 => (if (x34.length : Int) = 0 then (Fc).bind fun x35 => some x35 else some false)) else some false) else some false).bind fun x28 => some x28))
theorem LC (Y : Nat → Prop) (w0 : World) (v1 : Value) (v2 : Value) (v3 : Value) (v4 : Value) (p0 : Int × (List (Int × Int × Int × Int × Int × Int)) × (List (Int × Int))) (p1 : List (List Int)) (p2 : List (List Int)) (p3 : Int) (p4 : Int) (p5 : Int) (p6 : Int) (r : Bool) (H : Hb p0 p1 p2 p3 p4 p5 p6 = some r) (h_v1 : Sl w0 (NX []) Ii v1 p0.2.1) (h_v2 : Sl w0 (NX []) Ip v2 p0.2.2) (s_v3 : Sl w0 Y (Rp.slice (Rp.int .i64)) v3 p1) (h_v4 : Sl w0 (NX []) (Rp.slice (Rp.int .i64)) v4 p2) :
    Calls Try.prog 3 #[.agg #[.int .i64 p0.1, v1, v2], v3, v4, .int .i64 p3, .int .i64 p4, .int .i64 p5, .int .i64 p6] w0 fun e w' => e = .returned (.bool r) ∧ Below w0.heap.size w0 w' := by
 refine enter Try.func3 Aa Try.ntmps3 Aa fun a F => ?_
 have W := Stw.start Y w0
 obtain ⟨v5, h1, s_v3⟩ := s_v3.ex Er
 obtain ⟨v6, h2, h_v4⟩ := h_v4.ex Er
 have h_v3 := W.nx s_v3
 unfold Hb at H
 refine Ah (Ac ?_)
 refine EQ (cs := [.int .i64 p0.1, v1, v2]) F W Aa Aa Aa fun b1 a w F W => ?_
 refine ls F W Aa (Af F Aa).q fun a w F W => ?_
 refine Ae (Ab (Ah ?_))
 obtain ⟨o1, G1, K1⟩ := Ak H
 refine AK (fun a w => ∃ x1 : Bool, some (x1) = some o1 ∧ Fr 169 [] [(1, v3), (2, v4), (3, .int .i64 p3), (4, .int .i64 p4), (5, .int .i64 p5), (6, .int .i64 p6), (7, .pointer (some ⟨b1, 0, none⟩)), (14, .bool false), (30, .bool x1)] a ∧ Stw ⟨Y, [], w0⟩ [(b1, [.int .i64 p0.1, v1, v2])] [] w) ?_ ?_
 ·
  have H := G1
  clear G1 K1
  refine Ac ?_
  refine ls F W Aa (AB (v := Value.agg #[.int .i64 p0.1, v1, v2]) 0 F Aa Aa Mk Aa).q fun a w F W => ?_
  refine ls F W Aa (Ad F Aa).q fun a w F W => ?_
  obtain ⟨x2, h3, H⟩ := Ak H
  refine ls F W Aa (BR (v := Value.bool x2) F H4 Aa (fun w W => Ln any w (v1) (v2) (v3) p0 p1 _ h3 (((Ap h_v1) : EM _ _ _ _ _ _) w W).nx (((Ap h_v2) : EM _ _ _ _ _ _) w W).nx (((Cb Er h1 (Ap h_v3)) : EM _ _ _ _ _ _) w W).nx)) fun a w F W => ?_
  refine ls F W Aa (ED F Aa).q fun a w F W => ?_
  refine ls F W Aa (Ad F Aa).q fun a w F W => ?_
  rcases Bool.eq_false_or_eq_true (!x2) with hb | hb
  ·
   have H := AP hb H
   rw [hb] at F
   clear hb
   iterate 4 refine C1 F Aa Aa Aa Aa Aa Aa Aa fun a F => ?_
   refine ls F W Aa (Av F Aa Aa Aa).q fun a w F W => ?_
   refine Ae (Ab ?_)
   exact ⟨_, H, F.re ⟨rfl, Aa, Aa, Aa, Aa, Aa, Aa, Aa, Aa, trivial⟩, W⟩
  have H := AO (by rw [hb]; decide) H
  rw [hb] at F
  clear hb
  refine AR F W (Ag F Aa Aa Aa Aa) Aa (An Aa) (AB (v := Value.agg #[.int .i64 p0.1, v1, v2]) 0 F Aa Aa Mk Aa).q fun a w F W => ?_
  refine AR F W (Ag F Aa Aa Aa Aa) Aa (An Aa) (Ad F Aa).q fun a w F W => ?_
  refine IQ (Ag F Aa Aa Aa Aa) ?_
  obtain ⟨x3, h4, H⟩ := Ak H
  refine ls F W Aa (BR (v := Value.bool x3) F H4 Aa (fun w W => Ln any w (v1) (v2) (v4) p0 p2 _ h4 (((Ap h_v1) : EM _ _ _ _ _ _) w W).nx (((Ap h_v2) : EM _ _ _ _ _ _) w W).nx (((Cb Er h2 (Ap h_v4)) : EM _ _ _ _ _ _) w W).nx)) fun a w F W => ?_
  refine AR F W (Ag F Aa Aa Aa Aa) Aa (An Aa) (ED F Aa).q fun a w F W => ?_
  refine ls F W Aa (Ax F Aa Aa Aa).q fun a w F W => ?_
  refine Ae (Ab ?_)
  exact ⟨_, H, F.re ⟨rfl, Aa, Aa, Aa, Aa, Aa, Aa, Aa, Aa, trivial⟩, W⟩
 rintro a w ⟨x1, hj, F, W⟩
 have hj := AQ hj
 subst hj
 have H := K1
 clear G1 K1
 refine Ay F Aa (fun hb => ?_) fun hb => ?_
 ·
  have H := AP hb H
  rw [hb] at F
  clear hb
  refine Ah (Ac ?_)
  obtain ⟨x4, h5, H⟩ := Ak H
  refine ls F W Aa (BR (v := Value.bool x4) F H5 Aa (fun w W => Hi any w _ h5)) fun a w F W => ?_
  refine ls F W Aa (Af F Aa).q fun a w F W => ?_
  refine Ae (Ab (AF (AN ?_)))
  have H := AQ H
  subst H
  refine Bj (.inl Aa) F W Aa (AD F Aa) ?_
  exact ⟨rfl, W.done⟩
 have H := AO (by rw [hb]; decide) H
 rw [hb] at F
 clear hb
 refine Aq (Ab (Ah (Ac ?_)))
 refine ls F W Aa (AB (v := Value.agg #[.int .i64 p0.1, v1, v2]) 0 F Aa Aa Mk Aa).q fun a w F W => ?_
 iterate 5 refine ls F W Aa (Ad F Aa).q fun a w F W => ?_
 obtain ⟨x5, h6, H⟩ := Ak H
 refine Bo (Ml := []) (Zl := []) (M := [(b1, [.int .i64 p0.1, v1, v2])]) (Z := []) (β := Value × Value) (rv := fun x => .tuple #[.agg #[x.1, x.2, .int .i64 x5.1.2.2.1, .int .i64 x5.1.2.2.2.1, .int .i64 x5.1.2.2.2.2.1, .int .i64 x5.1.2.2.2.2.2], .int .i64 x5.2]) (MM := fun x => []) (ZZ := fun x => [row x.1 70 A4 x5.1.1, row x.2 41 EX x5.1.2.1]) F W H6 Aa Aa (fun hL => Li _ w (v1) (v2) (v3) (v4) p0 p1 p2 p3 p4 p5 _ h6 ((Ap h_v1) w W).nx ((Ap h_v2) w W).nx ((Cb Er h1 (Ap h_v3)) w W).nx ((Cb Er h2 (Ap h_v4)) w W).nx) fun x a w F W => ?_
 obtain ⟨v7, v8⟩ := x
 have W : Stw ⟨Y, [], w0⟩ [(b1, [.int .i64 p0.1, v1, v2])] [row v7 70 A4 x5.1.1, row v8 41 EX x5.1.2.1] w := W
 refine ls F W Aa (Ad F Aa).q fun a w F W => ?_
 refine ls F W Aa (BK (v := Value.agg #[v7, v8, .int .i64 x5.1.2.2.1, .int .i64 x5.1.2.2.2.1, .int .i64 x5.1.2.2.2.2.1, .int .i64 x5.1.2.2.2.2.2]) F Aa Aa).q fun a w F W => ?_
 refine ls F W Aa (BK (v := Value.int .i64 x5.2) F Aa Aa).q fun a w F W => ?_
 refine CB (cs := [.slice none 0 0, .slice none 0 0, .int .i64 0, .int .i64 0, .int .i64 0, .int .i64 0]) F W Aa TG Aa fun b2 a w F W => ?_
 refine BW (vs := [v7, v8, .int .i64 x5.1.2.2.1, .int .i64 x5.1.2.2.2.1, .int .i64 x5.1.2.2.2.2.1, .int .i64 x5.1.2.2.2.2.2]) (M' := [(b2, [v7, v8, .int .i64 x5.1.2.2.1, .int .i64 x5.1.2.2.2.1, .int .i64 x5.1.2.2.2.2.1, .int .i64 x5.1.2.2.2.2.2]), (b1, [.int .i64 p0.1, v1, v2])]) 0 F W Aa Aa Aa Np Aa Aa Aa (AZ (W.one (k := 0) Aa) (AZ (W.one (k := 1) Aa) (AZ Aa (AZ Aa (AZ Aa (AZ Aa E3)))))) Aa fun w W => ?_
 refine ls F W Aa (Af F Aa).q fun a w F W => ?_
 refine Ae (Ab (Ah (Ah (Ac ?_))))
 refine ls F W Aa (Ad F Aa).q fun a w F W => ?_
 refine ls F W Aa (Hq F Aa Aa).q fun a w F W => ?_
 refine Ae (Ab ?_)
 refine Ay F Aa (fun hb => ?_) fun hb => ?_
 ·
  have H := AP (Bm hb) H
  rw [hb] at F
  clear hb
  obtain ⟨o2, G2, K2⟩ := Ak H
  refine AK (fun a w => ∃ x6 : Bool, some (x6) = some o2 ∧ Fr 169 [] [(1, v3), (2, v4), (6, .int .i64 p6), (7, .pointer (some ⟨b1, 0, none⟩)), (14, .bool x6), (15, .pointer (some ⟨b2, 0, none⟩))] a ∧ Stw ⟨Y, [], w0⟩ [(b2, [v7, v8, .int .i64 x5.1.2.2.1, .int .i64 x5.1.2.2.2.1, .int .i64 x5.1.2.2.2.2.1, .int .i64 x5.1.2.2.2.2.2]), (b1, [.int .i64 p0.1, v1, v2])] [row v7 70 A4 x5.1.1, row v8 41 EX x5.1.2.1] w) ?_ ?_
  ·
   have H := G2
   clear G2 K2
   refine Ac ?_
   refine ls F W Aa (AB (v := Value.agg #[v7, v8, .int .i64 x5.1.2.2.1, .int .i64 x5.1.2.2.2.1, .int .i64 x5.1.2.2.2.2.1, .int .i64 x5.1.2.2.2.2.2]) 0 F Aa Aa Np Aa).q fun a w F W => ?_
   refine ls F W Aa (Ad F Aa).q fun a w F W => ?_
   obtain ⟨x7, h7, H⟩ := Ak H
   refine Bo (Ml := []) (Zl := []) (M := [(b2, [v7, v8, .int .i64 x5.1.2.2.1, .int .i64 x5.1.2.2.2.1, .int .i64 x5.1.2.2.2.2.1, .int .i64 x5.1.2.2.2.2.2]), (b1, [.int .i64 p0.1, v1, v2])]) (Z := [row v7 70 A4 x5.1.1, row v8 41 EX x5.1.2.1]) (β := Value) (rv := fun x => x) (MM := fun x => []) (ZZ := fun x => [row x 44 IU x7]) F W H7 Aa Aa (fun hL => Gv _ w (v7) (v8) x5.1 p6 _ h7 ((Aj 0 Aa) w W).nx ((Aj 1 Aa) w W).nx) fun x a w F W => ?_
   obtain ⟨v9, rfl⟩ : ∃ y, y = x := ⟨x, rfl⟩
   have W : Stw ⟨Y, [], w0⟩ [(b2, [v7, v8, .int .i64 x5.1.2.2.1, .int .i64 x5.1.2.2.2.1, .int .i64 x5.1.2.2.2.2.1, .int .i64 x5.1.2.2.2.2.2]), (b1, [.int .i64 p0.1, v1, v2])] [row v9 44 IU x7, row v7 70 A4 x5.1.1, row v8 41 EX x5.1.2.1] w := W
   refine ls F W Aa (B1 (r := IU) (l := x7) OP Aa F Aa (Aj 0 Aa)).q fun a w F W => ?_
   refine ls F W Aa (Dl F Aa Aa).q fun a w F W => ?_
   refine ls F W Aa (Ad F Aa).q fun a w F W => ?_
   rcases Bool.eq_false_or_eq_true (decide ((x7.length : Int) = 0)) with hb | hb
   ·
    have H := AP (Bm hb) H
    rw [hb] at F
    clear hb
    refine IQ (Ag F Aa Aa Aa Aa) ?_
    obtain ⟨x8, h8, H⟩ := Ak H
    refine ls F W Aa (BR (v := Value.bool x8) F H5 Aa (fun w W => Hi any w _ h8)) fun a w F W => ?_
    refine ls F W Aa (Av F Aa Aa Aa).q fun a w F W => ?_
    refine ls F W Aa (Af F Aa).q fun a w F W => ?_
    refine Ae (Ab ?_)
    have W := W.frontZ (i := 2) Aa Aa
    have W := W.frontZ (i := 2) Aa Aa
    have W := W.frontM (i := 1) Aa Aa
    have W := W.frontM (i := 1) Aa Aa
    have W := W.sub (M' := [(b2, [v7, v8, .int .i64 x5.1.2.2.1, .int .i64 x5.1.2.2.2.1, .int .i64 x5.1.2.2.2.2.1, .int .i64 x5.1.2.2.2.2.2]), (b1, [.int .i64 p0.1, v1, v2])]) (Z' := [row v7 70 A4 x5.1.1, row v8 41 EX x5.1.2.1]) (List.Sublist.refl _) (List.Sublist.cons_cons _ (List.Sublist.cons_cons _ (List.nil_sublist _)))
    exact ⟨_, H, F.re ⟨rfl, Aa, Aa, Aa, Aa, Aa, trivial⟩, W⟩
   have H := AO (Bn hb) H
   rw [hb] at F
   clear hb
   refine C1 F Aa Aa Aa Aa Aa Aa Aa fun a F => ?_
   refine ls F W Aa (Ax F Aa Aa Aa).q fun a w F W => ?_
   refine ls F W Aa (Af F Aa).q fun a w F W => ?_
   refine Ae (Ab ?_)
   have W := W.frontZ (i := 2) Aa Aa
   have W := W.frontZ (i := 2) Aa Aa
   have W := W.frontM (i := 1) Aa Aa
   have W := W.frontM (i := 1) Aa Aa
   have W := W.sub (M' := [(b2, [v7, v8, .int .i64 x5.1.2.2.1, .int .i64 x5.1.2.2.2.1, .int .i64 x5.1.2.2.2.2.1, .int .i64 x5.1.2.2.2.2.2]), (b1, [.int .i64 p0.1, v1, v2])]) (Z' := [row v7 70 A4 x5.1.1, row v8 41 EX x5.1.2.1]) (List.Sublist.refl _) (List.Sublist.cons_cons _ (List.Sublist.cons_cons _ (List.nil_sublist _)))
   exact ⟨_, H, F.re ⟨rfl, Aa, Aa, Aa, Aa, Aa, trivial⟩, W⟩
  rintro a w ⟨x6, hj, F, W⟩
  have hj := AQ hj
  subst hj
  have H := K2
  clear G2 K2
  refine AF (AN ?_)
  have H := AQ H
  subst H
  refine Bj (.inl Aa) F W Aa (AD F Aa) ?_
  exact ⟨rfl, W.done⟩
 have H := AO (Bn hb) H
 rw [hb] at F
 clear hb
 refine Aq (Ab (Ah (Ac ?_)))
 refine ls F W Aa (Af F Aa).q fun a w F W => ?_
 refine Ae (Ab ?_)
 obtain ⟨o3, G3, K3, L3⟩ := JX H
 refine AK (fun a w => ∃ x9 : Int, some (Sum.inl x9) = some o3 ∧ Fr 169 [] [(1, v3), (2, v4), (6, .int .i64 p6), (7, .pointer (some ⟨b1, 0, none⟩)), (14, .bool false), (15, .pointer (some ⟨b2, 0, none⟩)), (17, .int .i64 x9)] a ∧ Stw ⟨Y, [], w0⟩ [(b2, [v7, v8, .int .i64 x5.1.2.2.1, .int .i64 x5.1.2.2.2.1, .int .i64 x5.1.2.2.2.2.1, .int .i64 x5.1.2.2.2.2.2]), (b1, [.int .i64 p0.1, v1, v2])] [row v7 70 A4 x5.1.1, row v8 41 EX x5.1.2.1] w) ?_ ?_
 ·
  have H := G3
  clear G3 K3
  refine Ah (Ac ?_)
  refine ls F W Aa (Af F Aa).q fun a w F W => ?_
  refine Ae (Ab (As ?_))
  have W := W.frontZ (i := 1) Aa Aa
  have W := W.frontZ (i := 1) Aa Aa
  have W := W.frontM (i := 1) Aa Aa
  have W := W.frontM (i := 1) Aa Aa
  refine Bh H (fun s a w => Fr 169 [] [(1, v3), (2, v4), (6, .int .i64 p6), (7, .pointer (some ⟨b1, 0, none⟩)), (14, .bool false), (15, .pointer (some ⟨b2, 0, none⟩)), (17, .int .i64 s.1), (18, .int .i64 s.2)] a ∧ Stw ⟨Y, [], w0⟩ [(b2, [v7, v8, .int .i64 x5.1.2.2.1, .int .i64 x5.1.2.2.2.1, .int .i64 x5.1.2.2.2.2.1, .int .i64 x5.1.2.2.2.2.2]), (b1, [.int .i64 p0.1, v1, v2])] [row v7 70 A4 x5.1.1, row v8 41 EX x5.1.2.1] w) ⟨F.re ⟨rfl, Aa, Aa, Aa, Aa, Aa, Aa, Aa, trivial⟩, W⟩ fun s o a w H L4 hR => ?_
  obtain ⟨x10, x11⟩ := s
  obtain ⟨F, W⟩ := hR
  have F : Fr 169 [] [(1, v3), (2, v4), (6, .int .i64 p6), (7, .pointer (some ⟨b1, 0, none⟩)), (14, .bool false), (15, .pointer (some ⟨b2, 0, none⟩)), (17, .int .i64 x10), (18, .int .i64 x11)] a := F
  have W : Stw ⟨Y, [], w0⟩ [(b2, [v7, v8, .int .i64 x5.1.2.2.1, .int .i64 x5.1.2.2.2.1, .int .i64 x5.1.2.2.2.2.1, .int .i64 x5.1.2.2.2.2.2]), (b1, [.int .i64 p0.1, v1, v2])] [row v7 70 A4 x5.1.1, row v8 41 EX x5.1.2.1] w := W
  rw [DC] at H
  refine Ah (Ah (Ac ?_))
  refine ls F W Aa (Ad F Aa).q fun a w F W => ?_
  refine ls F W Aa (Am Hn Aa Aa Aa LR F Aa 1 Aa).q fun a w F W => ?_
  refine ls F W Aa (AB (v := v8) 0 F Aa Aa LR Aa).q fun a w F W => ?_
  refine ls F W Aa (B1 (r := EX) (l := x5.1.2.1) P5 Aa F Aa (Aj 1 Aa)).q fun a w F W => ?_
  refine ls F W Aa (BI F Aa Aa).q fun a w F W => ?_
  refine Ae (Ab ?_)
  refine Ay F Aa (fun hb => ?_) fun hb => ?_
  ·
   have H := AP (Bm hb) H
   rw [hb] at F
   clear hb
   refine Aq (Ab ?_)
   obtain ⟨o5, G5, K5, L5⟩ := JX H
   refine AK (fun a w => ∃ x12 : Int, some (Sum.inl x12) = some o5 ∧ Fr 169 [] [(1, v3), (2, v4), (6, .int .i64 p6), (7, .pointer (some ⟨b1, 0, none⟩)), (14, .bool false), (15, .pointer (some ⟨b2, 0, none⟩)), (17, .int .i64 x12), (18, .int .i64 x11)] a ∧ Stw ⟨Y, [], w0⟩ [(b2, [v7, v8, .int .i64 x5.1.2.2.1, .int .i64 x5.1.2.2.2.1, .int .i64 x5.1.2.2.2.2.1, .int .i64 x5.1.2.2.2.2.2]), (b1, [.int .i64 p0.1, v1, v2])] [row v7 70 A4 x5.1.1, row v8 41 EX x5.1.2.1] w) ?_ ?_
   ·
    have H := G5
    clear G5 K5
    refine As (Ah (Ac ?_))
    refine ls F W Aa (AB (v := Value.agg #[v7, v8, .int .i64 x5.1.2.2.1, .int .i64 x5.1.2.2.2.1, .int .i64 x5.1.2.2.2.2.1, .int .i64 x5.1.2.2.2.2.2]) 0 F Aa Aa Np Aa).q fun a w F W => ?_
    refine ls F W Aa (Ad F Aa).q fun a w F W => ?_
    obtain ⟨x13, h9, H⟩ := Ak H
    refine Bo (Ml := []) (Zl := []) (M := [(b2, [v7, v8, .int .i64 x5.1.2.2.1, .int .i64 x5.1.2.2.2.1, .int .i64 x5.1.2.2.2.2.1, .int .i64 x5.1.2.2.2.2.2]), (b1, [.int .i64 p0.1, v1, v2])]) (Z := [row v7 70 A4 x5.1.1, row v8 41 EX x5.1.2.1]) (β := Value) (rv := fun x => x) (MM := fun x => []) (ZZ := fun x => [row x 44 IU x13]) F W H7 Aa Aa (fun hL => Gv _ w (v7) (v8) x5.1 x11 _ h9 ((Aj 0 Aa) w W).nx ((Aj 1 Aa) w W).nx) fun x a w F W => ?_
    obtain ⟨v10, rfl⟩ : ∃ y, y = x := ⟨x, rfl⟩
    have W : Stw ⟨Y, [], w0⟩ [(b2, [v7, v8, .int .i64 x5.1.2.2.1, .int .i64 x5.1.2.2.2.1, .int .i64 x5.1.2.2.2.2.1, .int .i64 x5.1.2.2.2.2.2]), (b1, [.int .i64 p0.1, v1, v2])] [row v10 44 IU x13, row v7 70 A4 x5.1.1, row v8 41 EX x5.1.2.1] w := W
    refine ls F W Aa (Af F Aa).q fun a w F W => ?_
    refine Ae (Ab ?_)
    iterate 2 refine Ah ?_
    obtain ⟨v11, h10, W⟩ := W.exR NF
    have W := W.frontZ (i := 2) Aa Aa
    obtain ⟨v12, h11, W⟩ := W.exR Hh
    refine Ac ?_
    refine ls F W Aa (Ad F Aa).q fun a w F W => ?_
    refine ls F W Aa (B1 (r := IU) (l := x13) OP Aa F Aa (Cb NF h10 (Aj 1 Aa))).q fun a w F W => ?_
    refine ls F W Aa (Am Hn Aa Aa Aa LR F Aa 1 Aa).q fun a w F W => ?_
    refine ls F W Aa (AB (v := v8) 0 F Aa Aa LR Aa).q fun a w F W => ?_
    refine ls F W Aa (Ad F Aa).q fun a w F W => ?_
    obtain ⟨x14, h12, H⟩ := Ak H
    obtain ⟨v13, h13, h14⟩ := EK h11 h12
    have h15 : KT v13 = [.int .i64 x14.1, .int .i64 x14.2.1, (v13.2.2.1)] := congrArg (fun q : Int × Int × List Int => ([.int .i64 q.1, .int .i64 q.2.1, (v13.2.2.1)] : List Value)) h14
    refine ls F W Aa (AC (r := HZ) Sa F Aa Aa (Aj 0 Aa) h13).q fun a w F W => ?_
    refine ls F W Aa (Am Ou Aa Aa Aa J7 F Aa (GJ v8 + (x11).toNat * 3 + 2) Aa).q fun a w F W => ?_
    refine ls F W Aa (Ao (y := (v13.2.2.1)) (j := 2) (i := x11) (enc := KT) F Aa Aa (Aj 0 Aa) h13 P6 J7 (by rw [h15]; rfl)).q fun a w F W => ?_
    have W := W.note (W.rowAt (k := 0) Aa h13 (Cu.snd (Cu.snd Cu.here)) (congrArg (fun q : Int × Int × List Int => q.2.2) h14))
    refine ls F W Aa (B1 (r := (Rp.int .i64)) (l := x14.2.2) Hu Aa F Aa (PD 0 Aa)).q fun a w F W => ?_
    refine ls F W Aa (Hq F Aa Aa).q fun a w F W => ?_
    refine Ae (Ab ?_)
    refine Ay F Aa (fun hb => ?_) fun hb => ?_
    ·
     have H := AP (Bm hb) H
     rw [hb] at F
     clear hb
     refine Ah (Ac ?_)
     refine ls F W Aa (Af F Aa).q fun a w F W => ?_
     refine Ae (Ab (AF (AN (A3 ?_))))
     iterate 2 refine AN ?_
     refine A3 (AN ?_)
     have H := L5 _ H
     have H := L4 _ H
     have H := L3 _ H
     have H := AQ H
     subst H
     refine Bj (.inl Aa) F W Aa (AD F Aa) ?_
     exact ⟨rfl, W.done⟩
    have H := AO (Bn hb) H
    rw [hb] at F
    clear hb
    refine Aq (Ab (Ah (Ac ?_)))
    refine ls F W Aa (Af F Aa).q fun a w F W => ?_
    refine Ae (Ab (As ?_))
    have W := W.frontZ (i := 2) Aa Aa
    have W := W.hideR NF h10
    have W := W.frontZ (i := 2) Aa Aa
    have W := W.hideR Hh h11
    have W := W.frontZ (i := 3) Aa Aa
    have W := W.frontZ (i := 2) Aa Aa
    have W := W.frontM (i := 1) Aa Aa
    have W := W.frontM (i := 1) Aa Aa
    have W := W.sub (M' := [(b2, [v7, v8, .int .i64 x5.1.2.2.1, .int .i64 x5.1.2.2.2.1, .int .i64 x5.1.2.2.2.2.1, .int .i64 x5.1.2.2.2.2.2]), (b1, [.int .i64 p0.1, v1, v2])]) (Z' := [row v10 44 IU x13, row v7 70 A4 x5.1.1, row v8 41 EX x5.1.2.1]) (List.Sublist.refl _) (List.Sublist.cons_cons _ (List.Sublist.cons_cons _ (List.Sublist.cons_cons _ (List.nil_sublist _))))
    refine Bh H (fun s a w => Fr 169 [] [(1, v3), (2, v4), (6, .int .i64 p6), (7, .pointer (some ⟨b1, 0, none⟩)), (14, .bool false), (15, .pointer (some ⟨b2, 0, none⟩)), (17, .int .i64 s.1), (18, .int .i64 x11), (19, v10), (20, .int .i64 s.2)] a ∧ Stw ⟨Y, [], w0⟩ [(b2, [v7, v8, .int .i64 x5.1.2.2.1, .int .i64 x5.1.2.2.2.1, .int .i64 x5.1.2.2.2.2.1, .int .i64 x5.1.2.2.2.2.2]), (b1, [.int .i64 p0.1, v1, v2])] [row v10 44 IU x13, row v7 70 A4 x5.1.1, row v8 41 EX x5.1.2.1] w) ⟨F.re ⟨rfl, Aa, Aa, Aa, Aa, Aa, Aa, Aa, Aa, Aa, trivial⟩, W⟩ fun s o a w H L6 hR => ?_
    obtain ⟨x15, x16⟩ := s
    obtain ⟨F, W⟩ := hR
    have F : Fr 169 [] [(1, v3), (2, v4), (6, .int .i64 p6), (7, .pointer (some ⟨b1, 0, none⟩)), (14, .bool false), (15, .pointer (some ⟨b2, 0, none⟩)), (17, .int .i64 x15), (18, .int .i64 x11), (19, v10), (20, .int .i64 x16)] a := F
    have W : Stw ⟨Y, [], w0⟩ [(b2, [v7, v8, .int .i64 x5.1.2.2.1, .int .i64 x5.1.2.2.2.1, .int .i64 x5.1.2.2.2.2.1, .int .i64 x5.1.2.2.2.2.2]), (b1, [.int .i64 p0.1, v1, v2])] [row v10 44 IU x13, row v7 70 A4 x5.1.1, row v8 41 EX x5.1.2.1] w := W
    rw [Ef] at H
    refine Ah (Ah (Ac ?_))
    iterate 2 refine ls F W Aa (Ad F Aa).q fun a w F W => ?_
    refine ls F W Aa (B1 (r := IU) (l := x13) OP Aa F Aa (Aj 0 Aa)).q fun a w F W => ?_
    refine ls F W Aa (BI F Aa Aa).q fun a w F W => ?_
    refine Ae (Ab ?_)
    refine Ay F Aa (fun hb => ?_) fun hb => ?_
    ·
     have H := AP (Bm hb) H
     rw [hb] at F
     clear hb
     refine Aq (Ab (Ah (As (Ah ?_))))
     obtain ⟨o7, G7, K7⟩ := Ak H
     refine AK (fun a w => ∃ x17 : Bool, some (x17) = some o7 ∧ Fr 169 [] [(1, v3), (2, v4), (6, .int .i64 p6), (7, .pointer (some ⟨b1, 0, none⟩)), (14, .bool false), (15, .pointer (some ⟨b2, 0, none⟩)), (17, .int .i64 x15), (18, .int .i64 x11), (19, v10), (20, .int .i64 x16), (124, .bool x17)] a ∧ Stw ⟨Y, [], w0⟩ [(b2, [v7, v8, .int .i64 x5.1.2.2.1, .int .i64 x5.1.2.2.2.1, .int .i64 x5.1.2.2.2.2.1, .int .i64 x5.1.2.2.2.2.2]), (b1, [.int .i64 p0.1, v1, v2])] [row v10 44 IU x13, row v7 70 A4 x5.1.1, row v8 41 EX x5.1.2.1] w) ?_ ?_
     ·
      have H := G7
      clear G7 K7
      obtain ⟨v14, h16, W⟩ := W.exR NF
      have W := W.frontZ (i := 2) Aa Aa
      obtain ⟨v15, h17, W⟩ := W.exR Hh
      refine El [(true, 0), (true, 1), (true, 2), (true, 3), (true, 4), (true, 5), (true, 6), (true, 7), (true, 8), (true, 9), (true, 10), (true, 11), (true, 12), (true, 13), (true, 14), (true, 15), (true, 16), (true, 17), (true, 18), (true, 19), (true, 20), (true, 21), (true, 22), (true, 23), (true, 24), (true, 25), (true, 26), (true, 27), (true, 28), (true, 29), (true, 30), (true, 31), (true, 32), (true, 33), (true, 34), (true, 35), (true, 36), (true, 37), (true, 38), (true, 39), (true, 40), (true, 41), (true, 42), (false, 43), (false, 44), (true, 45), (true, 46)] (CN ⟨Y, [], w0⟩ [(some 43, b2, [v7, v8, .int .i64 x5.1.2.2.1, .int .i64 x5.1.2.2.2.1, .int .i64 x5.1.2.2.2.2.1, .int .i64 x5.1.2.2.2.2.2])] [(some 43, row v10 44 GH v14), (some 43, row v8 41 HZ v15), (some 44, row v10 44 GH v14)]) (fun ch a d v w h => by cases d <;> exact h) MO (by kernel_rfl) W (fun w W => ⟨_, _, W, (all_cons (fun _ => (.head _)) Aw), (all_cons (fun _ => (.tail _ (.head _))) (all_cons (fun _ => (.head _)) (all_cons (fun _ => (.tail _ (.head _))) Aw)))⟩) fun w W => ?_
      iterate 2 refine Bd (R := []) F Aa Aa (yC fun M Z hN hZ => Ad F Aa) Aa Aa fun a F => ?_
      obtain ⟨x18, h18, H⟩ := Ak H
      obtain ⟨v16, h19, h20⟩ := EK h16 h18
      have h21 : Mn v16 = [.int .i64 x18.1, (v16.2.1)] := congrArg (fun q : Int × (List (Int × (Int × (Int × (Int × Int × Int × Int) × (Int × Int × Int × Int)) × (List (Int × Int × Int))) × Bool)) => ([.int .i64 q.1, (v16.2.1)] : List Value)) h20
      refine Bd (R := []) F Aa Aa (yC fun M Z hN hZ => Bi (r := GH) SL F Aa Aa (CC W (Aj 1 Aa)) h19) Aa Aa fun a F => ?_
      refine Bd (R := []) F Aa Aa (yC fun M Z hN hZ => Am P9 Aa Aa Aa T3 F Aa (GJ v10 + (x16).toNat * 2) Aa) Aa Aa fun a F => ?_
      refine Bd (R := [43, 24, 15, 14]) F Aa Aa (yC fun M Z hN hZ => Ao (y := Value.int .i64 x18.1) (j := 0) (i := x16) (enc := Mn) F Aa Aa (Ck (hZ ((some 43), row v10 44 GH v14) (.head _) Aa)) h19 QO T3 (by rw [h21]; rfl)) (by kernel_rfl) Aa fun a F => ?_
      refine Bd (R := []) F Aa Aa (yC fun M Z hN hZ => Am Hn Aa Aa Aa LR F Aa 1 Aa) Aa Aa fun a F => ?_
      refine Bd (R := [43, 24, 15, 14, 13, 12, 10, 9, 8]) F Aa Aa (yC fun M Z hN hZ => Id (cs := [v7, v8, .int .i64 x5.1.2.2.1, .int .i64 x5.1.2.2.2.1, .int .i64 x5.1.2.2.2.2.1, .int .i64 x5.1.2.2.2.2.2]) (v := v8) F Aa (hN ((some 43), b2, [v7, v8, .int .i64 x5.1.2.2.1, .int .i64 x5.1.2.2.2.1, .int .i64 x5.1.2.2.2.2.1, .int .i64 x5.1.2.2.2.2.2]) (.head _) Aa) LR Aa) (by kernel_rfl) Aa fun a F => ?_
      refine Bd (R := []) F Aa Aa (yC fun M Z hN hZ => Ad F Aa) Aa Aa fun a F => ?_
      obtain ⟨x19, h22, H⟩ := Ak H
      obtain ⟨v17, h23, h24⟩ := EK h17 h22
      have h25 : KT v17 = [.int .i64 x19.1, .int .i64 x19.2.1, (v17.2.2.1)] := congrArg (fun q : Int × Int × List Int => ([.int .i64 q.1, .int .i64 q.2.1, (v17.2.2.1)] : List Value)) h24
      refine Bd (R := []) F Aa Aa (yC fun M Z hN hZ => Bi (r := HZ) Sa F Aa Aa (CC W (Aj 0 Aa)) h23) Aa Aa fun a F => ?_
      refine Bd (R := []) F Aa Aa (yC fun M Z hN hZ => Am Ou Aa Aa Aa J7 F Aa (GJ v8 + (x11).toNat * 3 + 2) Aa) Aa Aa fun a F => ?_
      refine Bd (R := [43, 24, 15, 14, 13, 12]) F Aa Aa (yC fun M Z hN hZ => Ao (y := (v17.2.2.1)) (j := 2) (i := x11) (enc := KT) F Aa Aa (Ck (hZ ((some 43), row v8 41 HZ v15) (.tail _ (.head _)) Aa)) h23 P6 J7 (by rw [h25]; rfl)) (by kernel_rfl) Aa fun a F => ?_
      refine Bd (R := []) F Aa Aa (yC fun M Z hN hZ => Ad F Aa) Aa Aa fun a F => ?_
      obtain ⟨x20, h26, H⟩ := Ak H
      refine Bd (R := [43, 24, 15, 14, 13]) F Aa Aa (yC fun M Z hN hZ => AC (r := (Rp.int .i64)) EH F Aa Aa (D2 (Ck (hZ ((some 43), row v8 41 HZ v15) (.tail _ (.head _)) Aa)) h23 (Cu.snd (Cu.snd Cu.here)) (congrArg (fun q : Int × Int × List Int => q.2.2) h24)) h26) (by kernel_rfl) Aa fun a F => ?_
      refine Bd (R := [43, 24, 15, 14]) F Aa Aa (yC fun M Z hN hZ => Ao (y := Value.int .i64 x20) (j := 0) (i := x16) F Aa Aa (D2 (Ck (hZ ((some 43), row v8 41 HZ v15) (.tail _ (.head _)) Aa)) h23 (Cu.snd (Cu.snd Cu.here)) (congrArg (fun q : Int × Int × List Int => q.2.2) h24)) h26 Fl.int.to T3 Aa) (by kernel_rfl) Aa fun a F => ?_
      refine Bd (R := []) F Aa Aa (yC fun M Z hN hZ => Hq F Aa Aa) Aa Aa fun a F => ?_
      refine Bd (R := []) F Aa Aa (yC fun M Z hN hZ => Ad F Aa) Aa Aa fun a F => ?_
      rcases Bool.eq_false_or_eq_true (decide (x18.1 ≠ x20)) with hb | hb
      ·
       have H := AP (Bm hb) H
       rw [hb] at F
       clear hb
       iterate 7 refine Kj F Aa (CJ F Aa Aa Aa Aa Aa) Aa Aa Aa fun a F => ?_
       refine Bd (R := []) F Aa Aa (yC fun M Z hN hZ => Av F Aa Aa Aa) Aa Aa fun a F => ?_
       refine Bd (R := []) F Aa Aa (yC fun M Z hN hZ => Ad F Aa) Aa Aa fun a F => ?_
       iterate 18 refine Kj F Aa (CJ F Aa Aa Aa Aa Aa) Aa Aa Aa fun a F => ?_
       refine Fh Aa ?_
       refine C1 F Aa Aa Aa Aa Aa Aa Aa fun a F => ?_
       refine Cr (N2 := []) (NZ2 := []) (N3 := [(some 43, b2, [v7, v8, .int .i64 x5.1.2.2.1, .int .i64 x5.1.2.2.2.1, .int .i64 x5.1.2.2.2.2.1, .int .i64 x5.1.2.2.2.2.2])]) (NZ3 := [(some 43, row v10 44 GH v14), (some 43, row v8 41 HZ v15), (some 44, row v10 44 GH v14)]) W Aa Aa (all_cons (fun h => Be (by kernel_rfl) h) Aw) (all_cons (fun h => Be (by kernel_rfl) h) (all_cons (fun h => Be (by kernel_rfl) h) (all_cons (fun _ => (.tail _ (.head _))) Aw))) ?_
       refine Fh Aa ?_
       refine C1 F Aa Aa Aa Aa Aa Aa Aa fun a F => ?_
       refine Cr (N2 := []) (NZ2 := []) (N3 := [(some 43, b2, [v7, v8, .int .i64 x5.1.2.2.1, .int .i64 x5.1.2.2.2.1, .int .i64 x5.1.2.2.2.2.1, .int .i64 x5.1.2.2.2.2.2])]) (NZ3 := [(some 43, row v10 44 GH v14), (some 43, row v8 41 HZ v15), (some 44, row v10 44 GH v14)]) W Aa Aa (all_cons (fun h => Be (by kernel_rfl) h) Aw) (all_cons (fun h => Be (by kernel_rfl) h) (all_cons (fun h => Be (by kernel_rfl) h) (all_cons (fun h => Be (by kernel_rfl) h) Aw))) ?_
       refine Kj F Aa (CJ F Aa Aa Aa Aa Aa) Aa Aa Aa fun a F => ?_
       refine Bd (R := []) F Aa Aa (yC fun M Z hN hZ => Av F Aa Aa Aa) Aa Aa fun a F => ?_
       refine FC ?_
       have W := W.note (Sl.hide JL (congrArg (fun q : Int × (List (Int × (Int × (Int × (Int × Int × Int × Int) × (Int × Int × Int × Int)) × (List (Int × Int × Int))) × Bool)) => q.2) h20) (W.rowAt (k := 1) Aa h19 (Cu.snd Cu.here) Aa))
       have W := W.note (W.rowAt (k := 1) Aa h23 (Cu.snd (Cu.snd Cu.here)) (congrArg (fun q : Int × Int × List Int => q.2.2) h24))
       refine Ab ?_
       have W := W.frontZ (i := 3) Aa Aa
       have W := W.hideR NF h16
       have W := W.frontZ (i := 3) Aa Aa
       have W := W.hideR Hh h17
       have W := W.frontZ (i := 4) Aa Aa
       have W := W.frontZ (i := 2) Aa Aa
       have W := W.frontM (i := 1) Aa Aa
       have W := W.frontM (i := 1) Aa Aa
       have W := W.sub (M' := [(b2, [v7, v8, .int .i64 x5.1.2.2.1, .int .i64 x5.1.2.2.2.1, .int .i64 x5.1.2.2.2.2.1, .int .i64 x5.1.2.2.2.2.2]), (b1, [.int .i64 p0.1, v1, v2])]) (Z' := [row v10 44 IU x13, row v7 70 A4 x5.1.1, row v8 41 EX x5.1.2.1]) (List.Sublist.refl _) (List.Sublist.cons_cons _ (List.Sublist.cons_cons _ (List.Sublist.cons_cons _ (List.nil_sublist _))))
       exact ⟨_, H, F.re ⟨rfl, Aa, Aa, Aa, Aa, Aa, Aa, Aa, Aa, Aa, Aa, trivial⟩, W⟩
      have H := AO (Bn hb) H
      rw [hb] at F
      clear hb
      iterate 2 refine H0 (R := []) F Aa (Ag F Aa Aa Aa Aa) Aa Aa (yC fun M Z hN hZ => Ad F Aa) Aa Aa fun a F => ?_
      obtain ⟨x21, h27, H⟩ := Ak H
      obtain ⟨v18, h28, h29⟩ := EK h16 h27
      have h30 : Mn v18 = [.int .i64 x21.1, (v18.2.1)] := congrArg (fun q : Int × (List (Int × (Int × (Int × (Int × Int × Int × Int) × (Int × Int × Int × Int)) × (List (Int × Int × Int))) × Bool)) => ([.int .i64 q.1, (v18.2.1)] : List Value)) h29
      refine H0 (R := []) F Aa (Ag F Aa Aa Aa Aa) Aa Aa (yC fun M Z hN hZ => Bi (r := GH) SL F Aa Aa (CC W (Aj 1 Aa)) h28) Aa Aa fun a F => ?_
      refine H0 (R := []) F Aa (Ag F Aa Aa Aa Aa) Aa Aa (yC fun M Z hN hZ => Am P9 Aa Aa Aa SV F Aa (GJ v10 + (x16).toNat * 2 + 1) Aa) Aa Aa fun a F => ?_
      refine H0 (R := [43, 24, 23, 22, 21]) F Aa (Ag F Aa Aa Aa Aa) Aa Aa (yC fun M Z hN hZ => Ao (y := (v18.2.1)) (j := 1) (i := x16) (enc := Mn) F Aa Aa (Ck (hZ ((some 43), row v10 44 GH v14) (.head _) Aa)) h28 QO SV (by rw [h30]; rfl)) (by kernel_rfl) Aa fun a F => ?_
      refine H0 (R := [43, 24, 23, 22]) F Aa (Ag F Aa Aa Aa Aa) Aa Aa (yC fun M Z hN hZ => B1 (r := Kb) (l := x21.2) Qa Aa F Aa (Cb JL (congrArg (fun q : Int × (List (Int × (Int × (Int × (Int × Int × Int × Int) × (Int × Int × Int × Int)) × (List (Int × Int × Int))) × Bool)) => q.2) h29) (D2 (Ck (hZ ((some 43), row v10 44 GH v14) (.head _) Aa)) h28 (Cu.snd Cu.here) Aa))) (by kernel_rfl) Aa fun a F => ?_
      refine H0 (R := []) F Aa (Ag F Aa Aa Aa Aa) Aa Aa (yC fun M Z hN hZ => Dl F Aa Aa) Aa Aa fun a F => ?_
      refine Bd (R := []) F Aa Aa (yC fun M Z hN hZ => Ax F Aa Aa Aa) Aa Aa fun a F => ?_
      refine Bd (R := []) F Aa Aa (yC fun M Z hN hZ => Ad F Aa) Aa Aa fun a F => ?_
      rcases Bool.eq_false_or_eq_true (decide ((x21.2.length : Int) = 0)) with hb | hb
      ·
       have H := AP (Bm hb) H
       rw [hb] at F
       clear hb
       iterate 18 refine Kj F Aa (CJ F Aa Aa Aa Aa Aa) Aa Aa Aa fun a F => ?_
       refine Fh Aa ?_
       refine C1 F Aa Aa Aa Aa Aa Aa Aa fun a F => ?_
       refine Cr (N2 := []) (NZ2 := []) (N3 := [(some 43, b2, [v7, v8, .int .i64 x5.1.2.2.1, .int .i64 x5.1.2.2.2.1, .int .i64 x5.1.2.2.2.2.1, .int .i64 x5.1.2.2.2.2.2])]) (NZ3 := [(some 43, row v10 44 GH v14), (some 43, row v8 41 HZ v15), (some 44, row v10 44 GH v14)]) W Aa Aa (all_cons (fun h => Be (by kernel_rfl) h) Aw) (all_cons (fun h => Be (by kernel_rfl) h) (all_cons (fun h => Be (by kernel_rfl) h) (all_cons (fun _ => (.tail _ (.head _))) Aw))) ?_
       refine Fh Aa ?_
       refine C1 F Aa Aa Aa Aa Aa Aa Aa fun a F => ?_
       refine Cr (N2 := []) (NZ2 := []) (N3 := [(some 43, b2, [v7, v8, .int .i64 x5.1.2.2.1, .int .i64 x5.1.2.2.2.1, .int .i64 x5.1.2.2.2.2.1, .int .i64 x5.1.2.2.2.2.2])]) (NZ3 := [(some 43, row v10 44 GH v14), (some 43, row v8 41 HZ v15), (some 44, row v10 44 GH v14)]) W Aa Aa (all_cons (fun h => Be (by kernel_rfl) h) Aw) (all_cons (fun h => Be (by kernel_rfl) h) (all_cons (fun h => Be (by kernel_rfl) h) (all_cons (fun h => Be (by kernel_rfl) h) Aw))) ?_
       refine Kj F Aa (CJ F Aa Aa Aa Aa Aa) Aa Aa Aa fun a F => ?_
       refine Bd (R := []) F Aa Aa (yC fun M Z hN hZ => Av F Aa Aa Aa) Aa Aa fun a F => ?_
       refine FC ?_
       have W := W.note (Sl.hide JL (congrArg (fun q : Int × (List (Int × (Int × (Int × (Int × Int × Int × Int) × (Int × Int × Int × Int)) × (List (Int × Int × Int))) × Bool)) => q.2) h20) (W.rowAt (k := 1) Aa h19 (Cu.snd Cu.here) Aa))
       have W := W.note (W.rowAt (k := 1) Aa h23 (Cu.snd (Cu.snd Cu.here)) (congrArg (fun q : Int × Int × List Int => q.2.2) h24))
       have W := W.note (Sl.hide JL (congrArg (fun q : Int × (List (Int × (Int × (Int × (Int × Int × Int × Int) × (Int × Int × Int × Int)) × (List (Int × Int × Int))) × Bool)) => q.2) h29) (W.rowAt (k := 3) Aa h28 (Cu.snd Cu.here) Aa))
       refine Ab ?_
       have W := W.frontZ (i := 4) Aa Aa
       have W := W.hideR NF h16
       have W := W.frontZ (i := 4) Aa Aa
       have W := W.hideR Hh h17
       have W := W.frontZ (i := 5) Aa Aa
       have W := W.frontZ (i := 2) Aa Aa
       have W := W.frontM (i := 1) Aa Aa
       have W := W.frontM (i := 1) Aa Aa
       have W := W.sub (M' := [(b2, [v7, v8, .int .i64 x5.1.2.2.1, .int .i64 x5.1.2.2.2.1, .int .i64 x5.1.2.2.2.2.1, .int .i64 x5.1.2.2.2.2.2]), (b1, [.int .i64 p0.1, v1, v2])]) (Z' := [row v10 44 IU x13, row v7 70 A4 x5.1.1, row v8 41 EX x5.1.2.1]) (List.Sublist.refl _) (List.Sublist.cons_cons _ (List.Sublist.cons_cons _ (List.Sublist.cons_cons _ (List.nil_sublist _))))
       exact ⟨_, H, F.re ⟨rfl, Aa, Aa, Aa, Aa, Aa, Aa, Aa, Aa, Aa, Aa, trivial⟩, W⟩
      have H := AO (Bn hb) H
      rw [hb] at F
      clear hb
      iterate 2 refine H0 (R := []) F Aa (Ag F Aa Aa Aa Aa) Aa Aa (yC fun M Z hN hZ => Ad F Aa) Aa Aa fun a F => ?_
      obtain ⟨x22, h31, H⟩ := Ak H
      obtain ⟨v19, h32, h33⟩ := EK h16 h31
      have h34 : Mn v19 = [.int .i64 x22.1, (v19.2.1)] := congrArg (fun q : Int × (List (Int × (Int × (Int × (Int × Int × Int × Int) × (Int × Int × Int × Int)) × (List (Int × Int × Int))) × Bool)) => ([.int .i64 q.1, (v19.2.1)] : List Value)) h33
      refine H0 (R := []) F Aa (Ag F Aa Aa Aa Aa) Aa Aa (yC fun M Z hN hZ => Bi (r := GH) SL F Aa Aa (CC W (Aj 1 Aa)) h32) Aa Aa fun a F => ?_
      refine H0 (R := []) F Aa (Ag F Aa Aa Aa Aa) Aa Aa (yC fun M Z hN hZ => Am P9 Aa Aa Aa SV F Aa (GJ v10 + (x16).toNat * 2 + 1) Aa) Aa Aa fun a F => ?_
      refine H0 (R := [44]) F Aa (Ag F Aa Aa Aa Aa) Aa Aa (yC fun M Z hN hZ => Ao (y := (v19.2.1)) (j := 1) (i := x16) (enc := Mn) F Aa Aa (Ck (hZ ((some 44), row v10 44 GH v14) (.tail _ (.tail _ (.head _))) Aa)) h32 QO SV (by rw [h34]; rfl)) (by kernel_rfl) Aa fun a F => ?_
      refine H0 (R := []) F Aa (Ag F Aa Aa Aa Aa) Aa Aa (yC fun M Z hN hZ => Am Hn Aa Aa Aa So F Aa 0 Aa) Aa Aa fun a F => ?_
      refine H0 (R := [43]) F Aa (Ag F Aa Aa Aa Aa) Aa Aa (yC fun M Z hN hZ => Id (cs := [v7, v8, .int .i64 x5.1.2.2.1, .int .i64 x5.1.2.2.2.1, .int .i64 x5.1.2.2.2.2.1, .int .i64 x5.1.2.2.2.2.2]) (v := v7) F Aa (hN ((some 43), b2, [v7, v8, .int .i64 x5.1.2.2.1, .int .i64 x5.1.2.2.2.1, .int .i64 x5.1.2.2.2.2.1, .int .i64 x5.1.2.2.2.2.2]) (.head _) Aa) So Aa) (by kernel_rfl) Aa fun a F => ?_
      refine H0 (R := []) F Aa (Ag F Aa Aa Aa Aa) Aa Aa (yC fun M Z hN hZ => Am Hn Aa Aa Aa LR F Aa 1 Aa) Aa Aa fun a F => ?_
      refine H0 (R := [43, 37, 36, 35]) F Aa (Ag F Aa Aa Aa Aa) Aa Aa (yC fun M Z hN hZ => Id (cs := [v7, v8, .int .i64 x5.1.2.2.1, .int .i64 x5.1.2.2.2.1, .int .i64 x5.1.2.2.2.2.1, .int .i64 x5.1.2.2.2.2.2]) (v := v8) F Aa (hN ((some 43), b2, [v7, v8, .int .i64 x5.1.2.2.1, .int .i64 x5.1.2.2.2.1, .int .i64 x5.1.2.2.2.2.1, .int .i64 x5.1.2.2.2.2.2]) (.head _) Aa) LR Aa) (by kernel_rfl) Aa fun a F => ?_
      refine H0 (R := []) F Aa (Ag F Aa Aa Aa Aa) Aa Aa (yC fun M Z hN hZ => Ad F Aa) Aa Aa fun a F => ?_
      obtain ⟨x23, h35, H⟩ := Ak H
      obtain ⟨v20, h36, h37⟩ := EK h17 h35
      have h38 : KT v20 = [.int .i64 x23.1, .int .i64 x23.2.1, (v20.2.2.1)] := congrArg (fun q : Int × Int × List Int => ([.int .i64 q.1, .int .i64 q.2.1, (v20.2.2.1)] : List Value)) h37
      refine H0 (R := []) F Aa (Ag F Aa Aa Aa Aa) Aa Aa (yC fun M Z hN hZ => Bi (r := HZ) Sa F Aa Aa (CC W (Aj 0 Aa)) h36) Aa Aa fun a F => ?_
      refine H0 (R := []) F Aa (Ag F Aa Aa Aa Aa) Aa Aa (yC fun M Z hN hZ => Am Ou Aa Aa Aa T3 F Aa (GJ v8 + (x11).toNat * 3) Aa) Aa Aa fun a F => ?_
      refine H0 (R := [43]) F Aa (Ag F Aa Aa Aa Aa) Aa Aa (yC fun M Z hN hZ => Ao (y := Value.int .i64 x23.1) (j := 0) (i := x11) (enc := KT) F Aa Aa (Ck (hZ ((some 43), row v8 41 HZ v15) (.tail _ (.head _)) Aa)) h36 P6 T3 (by rw [h38]; rfl)) (by kernel_rfl) Aa fun a F => ?_
      iterate 2 refine H0 (R := []) F Aa (Ag F Aa Aa Aa Aa) Aa Aa (yC fun M Z hN hZ => Ad F Aa) Aa Aa fun a F => ?_
      obtain ⟨x24, h39, H⟩ := Ak H
      obtain ⟨v21, h40, h41⟩ := EK h16 h39
      have h42 : Mn v21 = [.int .i64 x24.1, (v21.2.1)] := congrArg (fun q : Int × (List (Int × (Int × (Int × (Int × Int × Int × Int) × (Int × Int × Int × Int)) × (List (Int × Int × Int))) × Bool)) => ([.int .i64 q.1, (v21.2.1)] : List Value)) h41
      refine H0 (R := []) F Aa (Ag F Aa Aa Aa Aa) Aa Aa (yC fun M Z hN hZ => Bi (r := GH) SL F Aa Aa (CC W (Aj 1 Aa)) h40) Aa Aa fun a F => ?_
      refine H0 (R := []) F Aa (Ag F Aa Aa Aa Aa) Aa Aa (yC fun M Z hN hZ => Am P9 Aa Aa Aa T3 F Aa (GJ v10 + (x16).toNat * 2) Aa) Aa Aa fun a F => ?_
      refine H0 (R := [43]) F Aa (Ag F Aa Aa Aa Aa) Aa Aa (yC fun M Z hN hZ => Ao (y := Value.int .i64 x24.1) (j := 0) (i := x16) (enc := Mn) F Aa Aa (Ck (hZ ((some 43), row v10 44 GH v14) (.head _) Aa)) h40 QO T3 (by rw [h42]; rfl)) (by kernel_rfl) Aa fun a F => ?_
      refine Fh Aa ?_
      refine IQ (Ag F Aa Aa Aa Aa) ?_
      obtain ⟨x25, h43, H⟩ := Ak H
      refine Bo (Ml := []) (Zl := []) (M := [(b2, [v7, v8, .int .i64 x5.1.2.2.1, .int .i64 x5.1.2.2.2.1, .int .i64 x5.1.2.2.2.2.1, .int .i64 x5.1.2.2.2.2.2]), (b1, [.int .i64 p0.1, v1, v2])]) (Z := [row v8 41 HZ v15, row v10 44 GH v14, row v7 70 A4 x5.1.1]) (β := Value) (rv := fun x => x) (MM := fun x => []) (ZZ := fun x => [row x 68 Kb x25]) F W H9 Aa Aa (fun hL => Ki _ w (v7) x5.1.1 x23.1 x24.1 _ h43 ((Aj 2 Aa) w W).nx) fun x a w F W => ?_
      obtain ⟨v22, rfl⟩ : ∃ y, y = x := ⟨x, rfl⟩
      have W : Stw ⟨Y, [], w0⟩ [(b2, [v7, v8, .int .i64 x5.1.2.2.1, .int .i64 x5.1.2.2.2.1, .int .i64 x5.1.2.2.2.2.1, .int .i64 x5.1.2.2.2.2.2]), (b1, [.int .i64 p0.1, v1, v2])] [row v22 68 Kb x25, row v8 41 HZ v15, row v10 44 GH v14, row v7 70 A4 x5.1.1] w := W
      refine Cr (N2 := []) (NZ2 := []) (N3 := [(some 43, b2, [v7, v8, .int .i64 x5.1.2.2.1, .int .i64 x5.1.2.2.2.1, .int .i64 x5.1.2.2.2.2.1, .int .i64 x5.1.2.2.2.2.2])]) (NZ3 := [(some 43, row v10 44 GH v14), (some 43, row v8 41 HZ v15), (some 44, row v10 44 GH v14)]) W Aa Aa (all_cons (fun h => Be (by kernel_rfl) h) Aw) (all_cons (fun h => Be (by kernel_rfl) h) (all_cons (fun h => Be (by kernel_rfl) h) (all_cons (fun _ => (.tail _ (.tail _ (.head _)))) Aw))) ?_
      refine Fh Aa ?_
      refine IQ (Ag F Aa Aa Aa Aa) ?_
      obtain ⟨x26, h44, H⟩ := Ak H
      refine ls F W Aa (BR (v := Value.bool x26) F H8 Aa (fun w W => OZ any w ((v19.2.1)) (v22) x22.2 x25 _ h44 (((Cb JL (congrArg (fun q : Int × (List (Int × (Int × (Int × (Int × Int × Int × Int) × (Int × Int × Int × Int)) × (List (Int × Int × Int))) × Bool)) => q.2) h33) (D2 (Aj 2 Aa) h32 (Cu.snd Cu.here) Aa)) : EM _ _ _ _ _ _) w W).nx (((Aj 0 Aa) : EM _ _ _ _ _ _) w W).nx)) fun a w F W => ?_
      refine Cr (N2 := []) (NZ2 := []) (N3 := [(some 43, b2, [v7, v8, .int .i64 x5.1.2.2.1, .int .i64 x5.1.2.2.2.1, .int .i64 x5.1.2.2.2.2.1, .int .i64 x5.1.2.2.2.2.2])]) (NZ3 := [(some 43, row v10 44 GH v14), (some 43, row v8 41 HZ v15), (some 44, row v10 44 GH v14)]) W Aa Aa (all_cons (fun h => Be (by kernel_rfl) h) Aw) (all_cons (fun h => Be (by kernel_rfl) h) (all_cons (fun h => Be (by kernel_rfl) h) (all_cons (fun h => Be (by kernel_rfl) h) Aw))) ?_
      refine H0 (R := []) F Aa (Ag F Aa Aa Aa Aa) Aa Aa (yC fun M Z hN hZ => ED F Aa) Aa Aa fun a F => ?_
      refine Bd (R := []) F Aa Aa (yC fun M Z hN hZ => Ax F Aa Aa Aa) Aa Aa fun a F => ?_
      refine FC ?_
      have W := W.note (Sl.hide JL (congrArg (fun q : Int × (List (Int × (Int × (Int × (Int × Int × Int × Int) × (Int × Int × Int × Int)) × (List (Int × Int × Int))) × Bool)) => q.2) h20) (W.rowAt (k := 2) Aa h19 (Cu.snd Cu.here) Aa))
      have W := W.note (W.rowAt (k := 2) Aa h23 (Cu.snd (Cu.snd Cu.here)) (congrArg (fun q : Int × Int × List Int => q.2.2) h24))
      have W := W.note (Sl.hide JL (congrArg (fun q : Int × (List (Int × (Int × (Int × (Int × Int × Int × Int) × (Int × Int × Int × Int)) × (List (Int × Int × Int))) × Bool)) => q.2) h29) (W.rowAt (k := 4) Aa h28 (Cu.snd Cu.here) Aa))
      have W := W.note (Sl.hide JL (congrArg (fun q : Int × (List (Int × (Int × (Int × (Int × Int × Int × Int) × (Int × Int × Int × Int)) × (List (Int × Int × Int))) × Bool)) => q.2) h33) (W.rowAt (k := 5) Aa h32 (Cu.snd Cu.here) Aa))
      have W := W.note (W.rowAt (k := 5) Aa h36 (Cu.snd (Cu.snd Cu.here)) (congrArg (fun q : Int × Int × List Int => q.2.2) h37))
      have W := W.note (Sl.hide JL (congrArg (fun q : Int × (List (Int × (Int × (Int × (Int × Int × Int × Int) × (Int × Int × Int × Int)) × (List (Int × Int × Int))) × Bool)) => q.2) h41) (W.rowAt (k := 7) Aa h40 (Cu.snd Cu.here) Aa))
      refine Ab ?_
      have W := W.frontZ (i := 8) Aa Aa
      have W := W.hideR NF h16
      have W := W.frontZ (i := 8) Aa Aa
      have W := W.hideR Hh h17
      have W := W.frontZ (i := 9) Aa Aa
      have W := W.frontZ (i := 2) Aa Aa
      have W := W.frontM (i := 1) Aa Aa
      have W := W.frontM (i := 1) Aa Aa
      have W := W.sub (M' := [(b2, [v7, v8, .int .i64 x5.1.2.2.1, .int .i64 x5.1.2.2.2.1, .int .i64 x5.1.2.2.2.2.1, .int .i64 x5.1.2.2.2.2.2]), (b1, [.int .i64 p0.1, v1, v2])]) (Z' := [row v10 44 IU x13, row v7 70 A4 x5.1.1, row v8 41 EX x5.1.2.1]) (List.Sublist.refl _) (List.Sublist.cons_cons _ (List.Sublist.cons_cons _ (List.Sublist.cons_cons _ (List.nil_sublist _))))
      exact ⟨_, H, F.re ⟨rfl, Aa, Aa, Aa, Aa, Aa, Aa, Aa, Aa, Aa, Aa, trivial⟩, W⟩
     rintro a w ⟨x17, hj, F, W⟩
     have hj := AQ hj
     subst hj
     have H := K7
     clear G7 K7
     refine Ay F Aa (fun hb => ?_) fun hb => ?_
     ·
      have H := AP hb H
      rw [hb] at F
      clear hb
      refine Ah (Ac ?_)
      refine ls F W Aa (Af F Aa).q fun a w F W => ?_
      refine Ae (Ab (AF (AN (A3 ?_))))
      iterate 2 refine AN ?_
      iterate 2 refine A3 ?_
      iterate 2 refine AN ?_
      refine A3 (AN ?_)
      have H := L6 _ H
      have H := L5 _ H
      have H := L4 _ H
      have H := L3 _ H
      have H := AQ H
      subst H
      refine Bj (.inl Aa) F W Aa (AD F Aa) ?_
      exact ⟨rfl, W.done⟩
     have H := AO (by rw [hb]; decide) H
     rw [hb] at F
     clear hb
     refine Aq (Ab ?_)
     obtain ⟨v23, h45, W⟩ := W.exR NF
     have W := W.frontZ (i := 2) Aa Aa
     obtain ⟨v24, h46, W⟩ := W.exR Hh
     refine Ac ?_
     iterate 3 refine ls F W Aa (Ad F Aa).q fun a w F W => ?_
     obtain ⟨x27, h47, H⟩ := Ak H
     obtain ⟨v25, h48, h49⟩ := EK h45 h47
     have h50 : Mn v25 = [.int .i64 x27.1, (v25.2.1)] := congrArg (fun q : Int × (List (Int × (Int × (Int × (Int × Int × Int × Int) × (Int × Int × Int × Int)) × (List (Int × Int × Int))) × Bool)) => ([.int .i64 q.1, (v25.2.1)] : List Value)) h49
     refine ls F W Aa (AC (r := GH) SL F Aa Aa (Aj 1 Aa) h48).q fun a w F W => ?_
     refine ls F W Aa (Am P9 Aa Aa Aa SV F Aa (GJ v10 + (x16).toNat * 2 + 1) Aa).q fun a w F W => ?_
     refine ls F W Aa (Ao (y := (v25.2.1)) (j := 1) (i := x16) (enc := Mn) F Aa Aa (Aj 1 Aa) h48 QO SV (by rw [h50]; rfl)).q fun a w F W => ?_
     have W := W.note (Sl.hide JL (congrArg (fun q : Int × (List (Int × (Int × (Int × (Int × Int × Int × Int) × (Int × Int × Int × Int)) × (List (Int × Int × Int))) × Bool)) => q.2) h49) (W.rowAt (k := 1) Aa h48 (Cu.snd Cu.here) Aa))
     refine ls F W Aa (B1 (r := Kb) (l := x27.2) Qa Aa F Aa (PD 0 Aa)).q fun a w F W => ?_
     refine ls F W Aa (Bp F Aa Aa Aa).q fun a w F W => ?_
     refine ls F W Aa (Af F Aa).q fun a w F W => ?_
     refine Ae (AM (Ab (Ac ?_)))
     refine ls F W Aa (Ad F Aa).q fun a w F W => ?_
     refine ls F W Aa (Bp F Aa Aa Aa).q fun a w F W => ?_
     refine ls F W Aa (Af F Aa).q fun a w F W => ?_
     refine Ae (Ab ?_)
     have W := W.frontZ (i := 2) Aa Aa
     have W := W.hideR NF h45
     have W := W.frontZ (i := 2) Aa Aa
     have W := W.hideR Hh h46
     have W := W.frontZ (i := 3) Aa Aa
     have W := W.frontZ (i := 2) Aa Aa
     have W := W.frontM (i := 1) Aa Aa
     have W := W.frontM (i := 1) Aa Aa
     have W := W.sub (M' := [(b2, [v7, v8, .int .i64 x5.1.2.2.1, .int .i64 x5.1.2.2.2.1, .int .i64 x5.1.2.2.2.2.1, .int .i64 x5.1.2.2.2.2.2]), (b1, [.int .i64 p0.1, v1, v2])]) (Z' := [row v10 44 IU x13, row v7 70 A4 x5.1.1, row v8 41 EX x5.1.2.1]) (List.Sublist.refl _) (List.Sublist.cons_cons _ (List.Sublist.cons_cons _ (List.Sublist.cons_cons _ (List.nil_sublist _))))
     exact ⟨_, H, F.re ⟨rfl, Aa, Aa, Aa, Aa, Aa, Aa, Aa, Aa, Aa, trivial⟩, W⟩
    have H := AO (Bn hb) H
    rw [hb] at F
    clear hb
    refine A5 ?_
    iterate 2 refine Bk ?_
    refine A6 (AM (Ab ?_))
    have W := W.frontZ (i := 2) Aa Aa
    have W := W.frontZ (i := 2) Aa Aa
    have W := W.frontM (i := 1) Aa Aa
    have W := W.frontM (i := 1) Aa Aa
    have W := W.sub (M' := [(b2, [v7, v8, .int .i64 x5.1.2.2.1, .int .i64 x5.1.2.2.2.1, .int .i64 x5.1.2.2.2.2.1, .int .i64 x5.1.2.2.2.2.2]), (b1, [.int .i64 p0.1, v1, v2])]) (Z' := [row v7 70 A4 x5.1.1, row v8 41 EX x5.1.2.1]) (List.Sublist.refl _) (List.Sublist.cons_cons _ (List.Sublist.cons_cons _ (List.nil_sublist _)))
    have H := L6 _ H
    exact ⟨_, H, F.re ⟨rfl, Aa, Aa, Aa, Aa, Aa, Aa, Aa, trivial⟩, W⟩
   rintro a w ⟨x12, hj, F, W⟩
   have H := K5 _ hj
   clear hj G5 K5 L5
   refine Ac ?_
   refine ls F W Aa (Ad F Aa).q fun a w F W => ?_
   refine ls F W Aa (Bp F Aa Aa Aa).q fun a w F W => ?_
   refine ls F W Aa (Af F Aa).q fun a w F W => ?_
   refine Ae (Ab ?_)
   have W := W.frontZ (i := 1) Aa Aa
   have W := W.frontZ (i := 1) Aa Aa
   have W := W.frontM (i := 1) Aa Aa
   have W := W.frontM (i := 1) Aa Aa
   exact ⟨_, H, F.re ⟨rfl, Aa, Aa, Aa, Aa, Aa, Aa, Aa, trivial⟩, W⟩
  have H := AO (Bn hb) H
  rw [hb] at F
  clear hb
  refine A5 ?_
  iterate 2 refine Bk ?_
  refine A6 (Ab ?_)
  have W := W.frontZ (i := 1) Aa Aa
  have W := W.frontZ (i := 1) Aa Aa
  have W := W.frontM (i := 1) Aa Aa
  have W := W.frontM (i := 1) Aa Aa
  have H := L4 _ H
  exact ⟨_, H, F.re ⟨rfl, Aa, Aa, Aa, Aa, Aa, Aa, trivial⟩, W⟩
 rintro a w ⟨x9, hj, F, W⟩
 have H := K3 _ hj
 clear hj G3 K3 L3
 obtain ⟨o8, G8, K8⟩ := Ak H
 refine AK (fun a w => ∃ x28 : Bool, some (x28) = some o8 ∧ Fr 169 [] [(14, .bool x28)] a ∧ Stw ⟨Y, [], w0⟩ [(b2, [v7, v8, .int .i64 x5.1.2.2.1, .int .i64 x5.1.2.2.2.1, .int .i64 x5.1.2.2.2.2.1, .int .i64 x5.1.2.2.2.2.2]), (b1, [.int .i64 p0.1, v1, v2])] [row v7 70 A4 x5.1.1, row v8 41 EX x5.1.2.1] w) ?_ ?_
 ·
  have H := G8
  clear G8 K8
  refine Ac ?_
  refine ls F W Aa (Ad F Aa).q fun a w F W => ?_
  refine ls F W Aa (Am Hn Aa Aa Aa So F Aa 0 Aa).q fun a w F W => ?_
  refine ls F W Aa (AB (v := v7) 0 F Aa Aa So Aa).q fun a w F W => ?_
  refine ls F W Aa (B1 (r := A4) (l := x5.1.1) OD Aa F Aa (Aj 0 Aa)).q fun a w F W => ?_
  refine ls F W Aa (Dl F Aa Aa).q fun a w F W => ?_
  refine ls F W Aa (Ad F Aa).q fun a w F W => ?_
  rcases Bool.eq_false_or_eq_true (decide (x9 = (x5.1.1.length : Int))) with hb | hb
  ·
   have H := AP (Bm hb) H
   rw [hb] at F
   clear hb
   refine AR F W (Ag F Aa Aa Aa Aa) Aa (An Aa) (Ad F Aa).q fun a w F W => ?_
   refine AR F W (Ag F Aa Aa Aa Aa) Aa (An Aa) (Am Hn Aa Aa Aa So F Aa 0 Aa).q fun a w F W => ?_
   refine AR F W (Ag F Aa Aa Aa Aa) Aa (An Aa) (AB (v := v7) 0 F Aa Aa So Aa).q fun a w F W => ?_
   refine AR F W (Ag F Aa Aa Aa Aa) Aa (An Aa) (Am IE Aa Aa Aa T3 F Aa 0 Aa).q fun a w F W => ?_
   refine AR F W (Ag F Aa Aa Aa Aa) Aa (An Aa) (AB (v := Value.int .i64 p0.1) 1 F Aa Aa T3 Aa).q fun a w F W => ?_
   refine IQ (Ag F Aa Aa Aa Aa) ?_
   obtain ⟨x29, h51, H⟩ := Ak H
   refine Bo (Ml := []) (Zl := []) (M := [(b2, [v7, v8, .int .i64 x5.1.2.2.1, .int .i64 x5.1.2.2.2.1, .int .i64 x5.1.2.2.2.2.1, .int .i64 x5.1.2.2.2.2.2]), (b1, [.int .i64 p0.1, v1, v2])]) (Z := [row v7 70 A4 x5.1.1, row v8 41 EX x5.1.2.1]) (β := Value) (rv := fun x => x) (MM := fun x => []) (ZZ := fun x => [row x 39 (Rp.slice (Rp.int .i64)) x29]) F W Wa Aa Aa (fun hL => NU _ w (v3) (v7) (Value.slice none 0 0) p1 x5.1.1 p0.1 ([] : List Int) _ h51 (Sl.hide Er h1 (W.old s_v3)) ((Aj 0 Aa) w W).nx Sl.nil) fun x a w F W => ?_
   obtain ⟨v26, rfl⟩ : ∃ y, y = x := ⟨x, rfl⟩
   have W : Stw ⟨Y, [], w0⟩ [(b2, [v7, v8, .int .i64 x5.1.2.2.1, .int .i64 x5.1.2.2.2.1, .int .i64 x5.1.2.2.2.2.1, .int .i64 x5.1.2.2.2.2.2]), (b1, [.int .i64 p0.1, v1, v2])] [row v26 39 (Rp.slice (Rp.int .i64)) x29, row v7 70 A4 x5.1.1, row v8 41 EX x5.1.2.1] w := W
   refine AR F W (Ag F Aa Aa Aa Aa) Aa (An Aa) (Ad F Aa).q fun a w F W => ?_
   refine IQ (Ag F Aa Aa Aa Aa) ?_
   obtain ⟨x30, h52, H⟩ := Ak H
   refine ls F W Aa (BR (v := Value.bool x30) F Wp Aa (fun w W => Pg any w (v26) (v4) x29 p2 _ h52 (((Aj 0 Aa) : EM _ _ _ _ _ _) w W).nx (((Cb Er h2 (Ap h_v4)) : EM _ _ _ _ _ _) w W).nx)) fun a w F W => ?_
   refine ls F W Aa (Av F Aa Aa Aa).q fun a w F W => ?_
   refine ls F W Aa (Ad F Aa).q fun a w F W => ?_
   rcases Bool.eq_false_or_eq_true x30 with hb | hb
   ·
    have H := AP hb H
    rw [hb] at F
    clear hb
    refine AR F W (Ag F Aa Aa Aa Aa) Aa (An Aa) (Ad F Aa).q fun a w F W => ?_
    refine AR F W (Ag F Aa Aa Aa Aa) Aa (An Aa) (Ds F Aa Aa).q fun a w F W => ?_
    refine AR F W (Ag F Aa Aa Aa Aa) Aa (An Aa) (Ad F Aa).q fun a w F W => ?_
    rcases Bool.eq_false_or_eq_true (decide (0 ≤ p6)) with hb | hb
    ·
     have H := AP (Bm hb) H
     rw [hb] at F
     clear hb
     refine AR F W (Ag F Aa Aa Aa Aa) Aa (An Aa) (Ad F Aa).q fun a w F W => ?_
     refine AR F W (Ag F Aa Aa Aa Aa) Aa (An Aa) (Am Hn Aa Aa Aa LR F Aa 1 Aa).q fun a w F W => ?_
     refine AR F W (Ag F Aa Aa Aa Aa) Aa (An Aa) (AB (v := v8) 0 F Aa Aa LR Aa).q fun a w F W => ?_
     refine AR F W (Ag F Aa Aa Aa Aa) Aa (An Aa) (B1 (r := EX) (l := x5.1.2.1) P5 Aa F Aa (Aj 2 Aa)).q fun a w F W => ?_
     refine AR F W (Ag F Aa Aa Aa Aa) Aa (An Aa) (BI F Aa Aa).q fun a w F W => ?_
     refine AR F W (Ag F Aa Aa Aa Aa) Aa (An Aa) (Av F Aa Aa Aa).q fun a w F W => ?_
     refine AR F W (Ag F Aa Aa Aa Aa) Aa (An Aa) (Ad F Aa).q fun a w F W => ?_
     rcases Bool.eq_false_or_eq_true (decide (p6 < (x5.1.2.1.length : Int))) with hb | hb
     ·
      have H := AP (Bm hb) H
      rw [hb] at F
      clear hb
      iterate 5 refine C1 F Aa Aa Aa Aa Aa Aa Aa fun a F => ?_
      refine AR F W (Ag F Aa Aa Aa Aa) Aa (An Aa) (Av F Aa Aa Aa).q fun a w F W => ?_
      refine ls F W Aa (Av F Aa Aa Aa).q fun a w F W => ?_
      refine ls F W Aa (Ad F Aa).q fun a w F W => ?_
      refine IQ (Ag F Aa Aa Aa Aa) ?_
      obtain ⟨x31, h53, H⟩ := Ak H
      refine ls F W Aa (BR (v := Value.bool x31) F H5 Aa (fun w W => Hi any w _ h53)) fun a w F W => ?_
      refine ls F W Aa (Av F Aa Aa Aa).q fun a w F W => ?_
      refine ls F W Aa (Af F Aa).q fun a w F W => ?_
      refine Ae (Ab ?_)
      have W := W.frontZ (i := 2) Aa Aa
      have W := W.frontZ (i := 2) Aa Aa
      have W := W.frontM (i := 1) Aa Aa
      have W := W.frontM (i := 1) Aa Aa
      have W := W.sub (M' := [(b2, [v7, v8, .int .i64 x5.1.2.2.1, .int .i64 x5.1.2.2.2.1, .int .i64 x5.1.2.2.2.2.1, .int .i64 x5.1.2.2.2.2.2]), (b1, [.int .i64 p0.1, v1, v2])]) (Z' := [row v7 70 A4 x5.1.1, row v8 41 EX x5.1.2.1]) (List.Sublist.refl _) (List.Sublist.cons_cons _ (List.Sublist.cons_cons _ (List.nil_sublist _)))
      exact ⟨_, H, F.re ⟨rfl, trivial⟩, W⟩
     have H := AO (Bn hb) H
     rw [hb] at F
     clear hb
     refine AR F W (Ag F Aa Aa Aa Aa) Aa (An Aa) (AB (v := Value.agg #[v7, v8, .int .i64 x5.1.2.2.1, .int .i64 x5.1.2.2.2.1, .int .i64 x5.1.2.2.2.2.1, .int .i64 x5.1.2.2.2.2.2]) 0 F Aa Aa Np Aa).q fun a w F W => ?_
     refine AR F W (Ag F Aa Aa Aa Aa) Aa (An Aa) (Ad F Aa).q fun a w F W => ?_
     refine IQ (Ag F Aa Aa Aa Aa) ?_
     obtain ⟨x32, h54, H⟩ := Ak H
     refine Bo (Ml := []) (Zl := []) (M := [(b2, [v7, v8, .int .i64 x5.1.2.2.1, .int .i64 x5.1.2.2.2.1, .int .i64 x5.1.2.2.2.2.1, .int .i64 x5.1.2.2.2.2.2]), (b1, [.int .i64 p0.1, v1, v2])]) (Z := [row v26 39 (Rp.slice (Rp.int .i64)) x29, row v7 70 A4 x5.1.1, row v8 41 EX x5.1.2.1]) (β := Value) (rv := fun x => x) (MM := fun x => []) (ZZ := fun x => [row x 44 IU x32]) F W H7 Aa Aa (fun hL => Gv _ w (v7) (v8) x5.1 p6 _ h54 ((Aj 1 Aa) w W).nx ((Aj 2 Aa) w W).nx) fun x a w F W => ?_
     obtain ⟨v27, rfl⟩ : ∃ y, y = x := ⟨x, rfl⟩
     have W : Stw ⟨Y, [], w0⟩ [(b2, [v7, v8, .int .i64 x5.1.2.2.1, .int .i64 x5.1.2.2.2.1, .int .i64 x5.1.2.2.2.2.1, .int .i64 x5.1.2.2.2.2.2]), (b1, [.int .i64 p0.1, v1, v2])] [row v27 44 IU x32, row v26 39 (Rp.slice (Rp.int .i64)) x29, row v7 70 A4 x5.1.1, row v8 41 EX x5.1.2.1] w := W
     refine AR F W (Ag F Aa Aa Aa Aa) Aa (An Aa) (B1 (r := IU) (l := x32) OP Aa F Aa (Aj 0 Aa)).q fun a w F W => ?_
     refine AR F W (Ag F Aa Aa Aa Aa) Aa (An Aa) (Dl F Aa Aa).q fun a w F W => ?_
     refine AR F W (Ag F Aa Aa Aa Aa) Aa (An Aa) (Ax F Aa Aa Aa).q fun a w F W => ?_
     refine ls F W Aa (Av F Aa Aa Aa).q fun a w F W => ?_
     refine ls F W Aa (Ad F Aa).q fun a w F W => ?_
     rcases Bool.eq_false_or_eq_true (decide ((x32.length : Int) = 0)) with hb | hb
     ·
      have H := AP (Bm hb) H
      rw [hb] at F
      clear hb
      refine IQ (Ag F Aa Aa Aa Aa) ?_
      obtain ⟨x33, h55, H⟩ := Ak H
      refine ls F W Aa (BR (v := Value.bool x33) F H5 Aa (fun w W => Hi any w _ h55)) fun a w F W => ?_
      refine ls F W Aa (Av F Aa Aa Aa).q fun a w F W => ?_
      refine ls F W Aa (Af F Aa).q fun a w F W => ?_
      refine Ae (Ab ?_)
      have W := W.frontZ (i := 3) Aa Aa
      have W := W.frontZ (i := 3) Aa Aa
      have W := W.frontM (i := 1) Aa Aa
      have W := W.frontM (i := 1) Aa Aa
      have W := W.sub (M' := [(b2, [v7, v8, .int .i64 x5.1.2.2.1, .int .i64 x5.1.2.2.2.1, .int .i64 x5.1.2.2.2.2.1, .int .i64 x5.1.2.2.2.2.2]), (b1, [.int .i64 p0.1, v1, v2])]) (Z' := [row v7 70 A4 x5.1.1, row v8 41 EX x5.1.2.1]) (List.Sublist.refl _) (List.Sublist.cons_cons _ (List.Sublist.cons_cons _ (List.nil_sublist _)))
      exact ⟨_, H, F.re ⟨rfl, trivial⟩, W⟩
     have H := AO (Bn hb) H
     rw [hb] at F
     clear hb
     refine C1 F Aa Aa Aa Aa Aa Aa Aa fun a F => ?_
     refine ls F W Aa (Ax F Aa Aa Aa).q fun a w F W => ?_
     refine ls F W Aa (Af F Aa).q fun a w F W => ?_
     refine Ae (Ab ?_)
     have W := W.frontZ (i := 3) Aa Aa
     have W := W.frontZ (i := 3) Aa Aa
     have W := W.frontM (i := 1) Aa Aa
     have W := W.frontM (i := 1) Aa Aa
     have W := W.sub (M' := [(b2, [v7, v8, .int .i64 x5.1.2.2.1, .int .i64 x5.1.2.2.2.1, .int .i64 x5.1.2.2.2.2.1, .int .i64 x5.1.2.2.2.2.2]), (b1, [.int .i64 p0.1, v1, v2])]) (Z' := [row v7 70 A4 x5.1.1, row v8 41 EX x5.1.2.1]) (List.Sublist.refl _) (List.Sublist.cons_cons _ (List.Sublist.cons_cons _ (List.nil_sublist _)))
     exact ⟨_, H, F.re ⟨rfl, trivial⟩, W⟩
    have H := AO (Bn hb) H
    rw [hb] at F
    clear hb
    iterate 5 refine C1 F Aa Aa Aa Aa Aa Aa Aa fun a F => ?_
    refine AR F W (Ag F Aa Aa Aa Aa) Aa (An Aa) (Ax F Aa Aa Aa).q fun a w F W => ?_
    refine AR F W (Ag F Aa Aa Aa Aa) Aa (An Aa) (Ad F Aa).q fun a w F W => ?_
    refine AR F W (Ag F Aa Aa Aa Aa) Aa (An Aa) (AB (v := Value.agg #[v7, v8, .int .i64 x5.1.2.2.1, .int .i64 x5.1.2.2.2.1, .int .i64 x5.1.2.2.2.2.1, .int .i64 x5.1.2.2.2.2.2]) 0 F Aa Aa Np Aa).q fun a w F W => ?_
    refine AR F W (Ag F Aa Aa Aa Aa) Aa (An Aa) (Ad F Aa).q fun a w F W => ?_
    refine IQ (Ag F Aa Aa Aa Aa) ?_
    obtain ⟨x34, h56, H⟩ := Ak H
    refine Bo (Ml := []) (Zl := []) (M := [(b2, [v7, v8, .int .i64 x5.1.2.2.1, .int .i64 x5.1.2.2.2.1, .int .i64 x5.1.2.2.2.2.1, .int .i64 x5.1.2.2.2.2.2]), (b1, [.int .i64 p0.1, v1, v2])]) (Z := [row v26 39 (Rp.slice (Rp.int .i64)) x29, row v7 70 A4 x5.1.1, row v8 41 EX x5.1.2.1]) (β := Value) (rv := fun x => x) (MM := fun x => []) (ZZ := fun x => [row x 44 IU x34]) F W H7 Aa Aa (fun hL => Gv _ w (v7) (v8) x5.1 p6 _ h56 ((Aj 1 Aa) w W).nx ((Aj 2 Aa) w W).nx) fun x a w F W => ?_
    obtain ⟨v28, rfl⟩ : ∃ y, y = x := ⟨x, rfl⟩
    have W : Stw ⟨Y, [], w0⟩ [(b2, [v7, v8, .int .i64 x5.1.2.2.1, .int .i64 x5.1.2.2.2.1, .int .i64 x5.1.2.2.2.2.1, .int .i64 x5.1.2.2.2.2.2]), (b1, [.int .i64 p0.1, v1, v2])] [row v28 44 IU x34, row v26 39 (Rp.slice (Rp.int .i64)) x29, row v7 70 A4 x5.1.1, row v8 41 EX x5.1.2.1] w := W
    refine AR F W (Ag F Aa Aa Aa Aa) Aa (An Aa) (B1 (r := IU) (l := x34) OP Aa F Aa (Aj 0 Aa)).q fun a w F W => ?_
    refine AR F W (Ag F Aa Aa Aa Aa) Aa (An Aa) (Dl F Aa Aa).q fun a w F W => ?_
    refine AR F W (Ag F Aa Aa Aa Aa) Aa (An Aa) (Ax F Aa Aa Aa).q fun a w F W => ?_
    refine ls F W Aa (Av F Aa Aa Aa).q fun a w F W => ?_
    refine ls F W Aa (Ad F Aa).q fun a w F W => ?_
    rcases Bool.eq_false_or_eq_true (decide ((x34.length : Int) = 0)) with hb | hb
    ·
     have H := AP (Bm hb) H
     rw [hb] at F
     clear hb
     refine IQ (Ag F Aa Aa Aa Aa) ?_
     obtain ⟨x35, h57, H⟩ := Ak H
     refine ls F W Aa (BR (v := Value.bool x35) F H5 Aa (fun w W => Hi any w _ h57)) fun a w F W => ?_
     refine ls F W Aa (Av F Aa Aa Aa).q fun a w F W => ?_
     refine ls F W Aa (Af F Aa).q fun a w F W => ?_
     refine Ae (Ab ?_)
     have W := W.frontZ (i := 3) Aa Aa
     have W := W.frontZ (i := 3) Aa Aa
     have W := W.frontM (i := 1) Aa Aa
     have W := W.frontM (i := 1) Aa Aa
     have W := W.sub (M' := [(b2, [v7, v8, .int .i64 x5.1.2.2.1, .int .i64 x5.1.2.2.2.1, .int .i64 x5.1.2.2.2.2.1, .int .i64 x5.1.2.2.2.2.2]), (b1, [.int .i64 p0.1, v1, v2])]) (Z' := [row v7 70 A4 x5.1.1, row v8 41 EX x5.1.2.1]) (List.Sublist.refl _) (List.Sublist.cons_cons _ (List.Sublist.cons_cons _ (List.nil_sublist _)))
     exact ⟨_, H, F.re ⟨rfl, trivial⟩, W⟩
    have H := AO (Bn hb) H
    rw [hb] at F
    clear hb
    refine C1 F Aa Aa Aa Aa Aa Aa Aa fun a F => ?_
    refine ls F W Aa (Ax F Aa Aa Aa).q fun a w F W => ?_
    refine ls F W Aa (Af F Aa).q fun a w F W => ?_
    refine Ae (Ab ?_)
    have W := W.frontZ (i := 3) Aa Aa
    have W := W.frontZ (i := 3) Aa Aa
    have W := W.frontM (i := 1) Aa Aa
    have W := W.frontM (i := 1) Aa Aa
    have W := W.sub (M' := [(b2, [v7, v8, .int .i64 x5.1.2.2.1, .int .i64 x5.1.2.2.2.1, .int .i64 x5.1.2.2.2.2.1, .int .i64 x5.1.2.2.2.2.2]), (b1, [.int .i64 p0.1, v1, v2])]) (Z' := [row v7 70 A4 x5.1.1, row v8 41 EX x5.1.2.1]) (List.Sublist.refl _) (List.Sublist.cons_cons _ (List.Sublist.cons_cons _ (List.nil_sublist _)))
    exact ⟨_, H, F.re ⟨rfl, trivial⟩, W⟩
   have H := AO (by rw [hb]; decide) H
   rw [hb] at F
   clear hb
   iterate 3 refine C1 F Aa Aa Aa Aa Aa Aa Aa fun a F => ?_
   iterate 5 refine Tw F Aa Aa Aa Aa Aa Aa fun a F => ?_
   iterate 2 refine C1 F Aa Aa Aa Aa Aa Aa Aa fun a F => ?_
   iterate 5 refine Tw F Aa Aa Aa Aa Aa Aa fun a F => ?_
   refine C1 F Aa Aa Aa Aa Aa Aa Aa fun a F => ?_
   refine ls F W Aa (Ax F Aa Aa Aa).q fun a w F W => ?_
   refine ls F W Aa (Ad F Aa).q fun a w F W => ?_
   refine C1 F Aa Aa Aa Aa Aa Aa Aa fun a F => ?_
   refine ls F W Aa (Ax F Aa Aa Aa).q fun a w F W => ?_
   refine ls F W Aa (Af F Aa).q fun a w F W => ?_
   refine Ae (Ab ?_)
   have W := W.frontZ (i := 2) Aa Aa
   have W := W.frontZ (i := 2) Aa Aa
   have W := W.frontM (i := 1) Aa Aa
   have W := W.frontM (i := 1) Aa Aa
   have W := W.sub (M' := [(b2, [v7, v8, .int .i64 x5.1.2.2.1, .int .i64 x5.1.2.2.2.1, .int .i64 x5.1.2.2.2.2.1, .int .i64 x5.1.2.2.2.2.2]), (b1, [.int .i64 p0.1, v1, v2])]) (Z' := [row v7 70 A4 x5.1.1, row v8 41 EX x5.1.2.1]) (List.Sublist.refl _) (List.Sublist.cons_cons _ (List.Sublist.cons_cons _ (List.nil_sublist _)))
   exact ⟨_, H, F.re ⟨rfl, trivial⟩, W⟩
  have H := AO (Bn hb) H
  rw [hb] at F
  clear hb
  iterate 8 refine C1 F Aa Aa Aa Aa Aa Aa Aa fun a F => ?_
  refine ls F W Aa (Ax F Aa Aa Aa).q fun a w F W => ?_
  refine ls F W Aa (Ad F Aa).q fun a w F W => ?_
  iterate 3 refine C1 F Aa Aa Aa Aa Aa Aa Aa fun a F => ?_
  iterate 5 refine Tw F Aa Aa Aa Aa Aa Aa fun a F => ?_
  iterate 2 refine C1 F Aa Aa Aa Aa Aa Aa Aa fun a F => ?_
  iterate 5 refine Tw F Aa Aa Aa Aa Aa Aa fun a F => ?_
  refine C1 F Aa Aa Aa Aa Aa Aa Aa fun a F => ?_
  refine ls F W Aa (Ax F Aa Aa Aa).q fun a w F W => ?_
  refine ls F W Aa (Ad F Aa).q fun a w F W => ?_
  refine C1 F Aa Aa Aa Aa Aa Aa Aa fun a F => ?_
  refine ls F W Aa (Ax F Aa Aa Aa).q fun a w F W => ?_
  refine ls F W Aa (Af F Aa).q fun a w F W => ?_
  refine Ae (Ab ?_)
  have W := W.frontZ (i := 1) Aa Aa
  have W := W.frontZ (i := 1) Aa Aa
  have W := W.frontM (i := 1) Aa Aa
  have W := W.frontM (i := 1) Aa Aa
  exact ⟨_, H, F.re ⟨rfl, trivial⟩, W⟩
 rintro a w ⟨x28, hj, F, W⟩
 have hj := AQ hj
 subst hj
 have H := K8
 clear G8 K8
 refine AF ?_
 have H := AQ H
 subst H
 refine Bj (.inl Aa) F W Aa (AD F Aa) ?_
 exact ⟨rfl, W.done⟩
end Go.Proofs.Ytghpabmmdenaoaa
