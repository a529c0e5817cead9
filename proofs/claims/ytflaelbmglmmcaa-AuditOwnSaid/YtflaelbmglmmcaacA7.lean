/- The functions of layer 42, EK. Conditions: none. -/
import Derived.Test.YtflaelbmglmmcaacA6
namespace Go.Proofs.Ytflaelbmglmmcaa
open Go Go.RowKit
set_option linter.unusedVariables false
set_option linter.unusedSimpArgs false
set_option maxRecDepth 20000
noncomputable def Ci (p2 : List (Int × Int × Int × Int × Int × Int)) : (Bool × Int × Int) → Option ((Bool × Int × Int) ⊕ (Bool × Int))
  | (x6, x7, x8) => (if x8 < (p2.length : Int) then ((if x6 = true then some true else (ix p2 x8).bind fun x12 => some (decide (x12.1 = 1))).bind fun x11 => ((ix p2 x8).bind fun x14 => (if x7 ≤ x14.2.2.1 then (ix p2 x8).bind fun x15 => some (decide (x15.2.2.1 < 1099511627776)) else some false)).bind fun x13 => (if x13 = true then (ix p2 x8).bind fun x16 => some (x11, DC (x16.2.2.1 + 1)) else some (x11, x7))).bind fun (x9, x10) => some (.inl (x9, x10, DC (x8 + 1))) else some (.inr (x6, x7)))
noncomputable def CB (x17 : (List (Int × Int))) (x23 : (List (Int × Int))) : Int → Option (Int ⊕ (Unit ⊕ Bool))
  | x24 => (if x24 < (x17.length : Int) then (ix x17 x24).bind fun x25 => (ix x23 x24).bind fun x26 => (if (!(decide (x25.1 = x26.1 ∧ x25.2 = x26.2))) = true then some (.inr (.inr false)) else some (.inl (DC (x24 + 1)))) else some (.inr (.inl ())))
noncomputable def Ey (p0 : Int × (List (Int × Int × Int × Int × Int × Int)) × (List (Int × Int))) (p1 : List (List (List Int))) (p2 : List (Int × Int × Int × Int × Int × Int)) (p3 : Int) (p4 : Int) (p5 : Int) (p6 : Bool) : Option Bool := ((Fh p0 p1 p2).bind fun x2 => (if (!x2) = true then some true else some (decide (90 < (p2.length : Int))))).bind fun x1 => (if x1 = true then (D3).bind fun x3 => some x3 else (AF (Ci p2) (false, 0, 0)).bind fun (x4, x5) => (B7 p0 p1 p2).bind fun x17 => (if (!x4 && decide (0 < (x17.length : Int))) = true then some false else (Fo ([] : List (Int × Int × Int × Int × Int × Int)) p2).bind fun x18 => (Fo x18 ([(1, p3, x5, 0, p4, p5)] : List (Int × Int × Int × Int × Int × Int))).bind fun x19 => (if p6 = true then (Fo x19 ([(4, p3, x5, 0, 0, 0)] : List (Int × Int × Int × Int × Int × Int))).bind fun x22 => some (true, x22) else some (false, x19)).bind fun (x20, x21) => (B7 p0 p1 x21).bind fun x23 => (if (decide ((x23.length : Int) < (x17.length : Int)) || decide (x20 ≠ (decide ((x17.length : Int) < (x23.length : Int))))) = true then some false else DQ (AF (CB x17 x23) 0) fun _ => (D3).bind fun x27 => some x27)))
theorem Ik (Y : Nat → Prop) (w0 : World) (v1 : Value) (v2 : Value) (v3 : Value) (v4 : Value) (p0 : Int × (List (Int × Int × Int × Int × Int × Int)) × (List (Int × Int))) (p1 : List (List (List Int))) (p2 : List (Int × Int × Int × Int × Int × Int)) (p3 : Int) (p4 : Int) (p5 : Int) (p6 : Bool) (r : Bool) (H : Ey p0 p1 p2 p3 p4 p5 p6 = some r) (h_v1 : Sl w0 (NX []) D6 v1 p0.2.1) (h_v2 : Sl w0 (NX []) FI v2 p0.2.2) (h_v3 : Sl w0 (NX []) (Rp.slice (Rp.slice (Rp.int .i64))) v3 p1) (s_v4 : Sl w0 Y Ef v4 p2) :
    Calls Try.prog 6 #[.agg #[.int .i64 p0.1, v1, v2], v3, v4, .int .i64 p3, .int .i64 p4, .int .i64 p5, .bool p6] w0 fun e w' => e = .returned (.bool r) ∧ Below w0.heap.size w0 w' := by
 refine enter Try.func6 Aa Try.ntmps6 Aa fun a F => ?_
 have W := Stw.start Y w0
 obtain ⟨v5, h1, h_v3⟩ := h_v3.ex Ir
 have h_v4 := W.nx s_v4
 unfold Ey at H
 refine Ah (Ab ?_)
 refine Cx (cs := [.int .i64 p0.1, v1, v2]) F W Aa Aa Aa fun b1 a w F W => ?_
 refine ls F W Aa (Ae F Aa).q fun a w F W => ?_
 refine Ad (Ac (Ah ?_))
 obtain ⟨o1, G1, K1⟩ := An H
 refine AR (fun a w => ∃ x1 : Bool, some (x1) = some o1 ∧ Fr 132 [] [(1, v3), (2, v4), (3, .int .i64 p3), (4, .int .i64 p4), (5, .int .i64 p5), (6, .bool p6), (7, .pointer (some ⟨b1, 0, none⟩)), (14, .bool false), (31, .bool x1)] a ∧ Stw ⟨Y, [], w0⟩ [(b1, [.int .i64 p0.1, v1, v2])] [] w) ?_ ?_
 ·
  have H := G1
  clear G1 K1
  refine Ab ?_
  refine ls F W Aa (Al (v := Value.agg #[.int .i64 p0.1, v1, v2]) 0 F Aa Aa JQ Aa).q fun a w F W => ?_
  iterate 2 refine ls F W Aa (Ag F Aa).q fun a w F W => ?_
  obtain ⟨x2, h2, H⟩ := An H
  refine ls F W Aa (Ch (v := Value.bool x2) F H7 Aa (fun w W => JY any w (v1) (v2) (v3) (v4) p0 p1 p2 _ h2 (((Ak h_v1) : DV _ _ _ _ _ _) w W).nx (((Ak h_v2) : DV _ _ _ _ _ _) w W).nx (((Cc Ir h1 (Ak h_v3)) : DV _ _ _ _ _ _) w W).nx (((Ak h_v4) : DV _ _ _ _ _ _) w W).nx)) fun a w F W => ?_
  refine ls F W Aa (Ga F Aa).q fun a w F W => ?_
  refine ls F W Aa (Ag F Aa).q fun a w F W => ?_
  rcases Bool.eq_false_or_eq_true (!x2) with hb | hb
  ·
   have H := Ba hb H
   rw [hb] at F
   clear hb
   iterate 3 refine DU F Aa Aa Aa Aa Aa Aa Aa fun a F => ?_
   refine ls F W Aa (Ay F Aa Aa Aa).q fun a w F W => ?_
   refine Ad (Ac ?_)
   exact ⟨_, H, F.re ⟨rfl, Aa, Aa, Aa, Aa, Aa, Aa, Aa, Aa, trivial⟩, W⟩
  have H := A9 (by rw [hb]; decide) H
  rw [hb] at F
  clear hb
  refine AM F W (Ai F Aa Aa Aa Aa) Aa (Ao Aa) (Ag F Aa).q fun a w F W => ?_
  refine AM F W (Ai F Aa Aa Aa Aa) Aa (Ao Aa) (Bl (r := Ef) (l := p2) Km Aa F Aa (Ak h_v4)).q fun a w F W => ?_
  refine AM F W (Ai F Aa Aa Aa Aa) Aa (Ao Aa) (FX F Aa Aa).q fun a w F W => ?_
  refine ls F W Aa (AL F Aa Aa Aa).q fun a w F W => ?_
  refine Ad (Ac ?_)
  exact ⟨_, H, F.re ⟨rfl, Aa, Aa, Aa, Aa, Aa, Aa, Aa, Aa, trivial⟩, W⟩
 rintro a w ⟨x1, hj, F, W⟩
 have hj := A1 hj
 subst hj
 have H := K1
 clear G1 K1
 refine AA F Aa (fun hb => ?_) fun hb => ?_
 ·
  have H := Ba hb H
  rw [hb] at F
  clear hb
  refine Ah (Ab ?_)
  obtain ⟨x3, h3, H⟩ := An H
  refine ls F W Aa (Ch (v := Value.bool x3) F H8 Aa (fun w W => Hj any w _ h3)) fun a w F W => ?_
  refine ls F W Aa (Ae F Aa).q fun a w F W => ?_
  refine Ad (Ac (AB (AO ?_)))
  have H := A1 H
  subst H
  refine Be (.inl Aa) F W Aa (Aw F Aa) ?_
  exact ⟨rfl, W.done⟩
 have H := A9 (by rw [hb]; decide) H
 rw [hb] at F
 clear hb
 refine As (Ac (Ah (Ab ?_)))
 refine ls F W Aa (Ae F Aa).q fun a w F W => ?_
 refine Ad (Ac (Ah (Ab ?_)))
 refine ls F W Aa (Ae F Aa).q fun a w F W => ?_
 refine Ad (Ac ?_)
 obtain ⟨o2, G2, K2⟩ := An H
 refine AR (fun a w => ∃ x4 : Bool, ∃ x5 : Int, some ((x4, x5)) = some o2 ∧ Fr 132 [] [(1, v3), (2, v4), (3, .int .i64 p3), (4, .int .i64 p4), (5, .int .i64 p5), (6, .bool p6), (7, .pointer (some ⟨b1, 0, none⟩)), (14, .bool false), (15, .bool x4), (16, .int .i64 x5)] a ∧ Stw ⟨Y, [], w0⟩ [(b1, [.int .i64 p0.1, v1, v2])] [] w) ?_ ?_
 ·
  have H := G2
  clear G2 K2
  refine Ah (Ab ?_)
  refine ls F W Aa (Ae F Aa).q fun a w F W => ?_
  refine Ad (Ac (Ax ?_))
  refine BZ H (fun s a w => Fr 132 [] [(1, v3), (2, v4), (3, .int .i64 p3), (4, .int .i64 p4), (5, .int .i64 p5), (6, .bool p6), (7, .pointer (some ⟨b1, 0, none⟩)), (14, .bool false), (15, .bool s.1), (16, .int .i64 s.2.1), (17, .int .i64 s.2.2)] a ∧ Stw ⟨Y, [], w0⟩ [(b1, [.int .i64 p0.1, v1, v2])] [] w) ⟨F.re ⟨rfl, Aa, Aa, Aa, Aa, Aa, Aa, Aa, Aa, Aa, Aa, trivial⟩, W⟩ fun s o a w H L3 hR => ?_
  obtain ⟨x6, x7, x8⟩ := s
  obtain ⟨F, W⟩ := hR
  have F : Fr 132 [] [(1, v3), (2, v4), (3, .int .i64 p3), (4, .int .i64 p4), (5, .int .i64 p5), (6, .bool p6), (7, .pointer (some ⟨b1, 0, none⟩)), (14, .bool false), (15, .bool x6), (16, .int .i64 x7), (17, .int .i64 x8)] a := F
  have W : Stw ⟨Y, [], w0⟩ [(b1, [.int .i64 p0.1, v1, v2])] [] w := W
  rw [Ci] at H
  refine Ah (Ah (Ab ?_))
  iterate 2 refine ls F W Aa (Ag F Aa).q fun a w F W => ?_
  refine ls F W Aa (Bl (r := Ef) (l := p2) Km Aa F Aa (Ak h_v4)).q fun a w F W => ?_
  refine ls F W Aa (B0 F Aa Aa).q fun a w F W => ?_
  refine Ad (Ac ?_)
  refine AA F Aa (fun hb => ?_) fun hb => ?_
  ·
   have H := Ba (BO hb) H
   rw [hb] at F
   clear hb
   refine As (Ac ?_)
   obtain ⟨o4, G4, K4⟩ := An H
   refine AR (fun a w => ∃ x9 : Bool, ∃ x10 : Int, some ((x9, x10)) = some o4 ∧ Fr 132 [] [(1, v3), (2, v4), (3, .int .i64 p3), (4, .int .i64 p4), (5, .int .i64 p5), (6, .bool p6), (7, .pointer (some ⟨b1, 0, none⟩)), (14, .bool false), (15, .bool x9), (16, .int .i64 x10), (17, .int .i64 x8)] a ∧ Stw ⟨Y, [], w0⟩ [(b1, [.int .i64 p0.1, v1, v2])] [] w) ?_ ?_
   ·
    have H := G4
    clear G4 K4
    refine Ax ?_
    obtain ⟨o5, G5, K5⟩ := An H
    refine AR (fun a w => ∃ x11 : Bool, some (x11) = some o5 ∧ Fr 132 [] [(1, v3), (2, v4), (3, .int .i64 p3), (4, .int .i64 p4), (5, .int .i64 p5), (6, .bool p6), (7, .pointer (some ⟨b1, 0, none⟩)), (14, .bool false), (15, .bool x11), (16, .int .i64 x7), (17, .int .i64 x8)] a ∧ Stw ⟨Y, [], w0⟩ [(b1, [.int .i64 p0.1, v1, v2])] [] w) ?_ ?_
    ·
     have H := G5
     clear G5 K5
     refine Ab ?_
     iterate 2 refine ls F W Aa (Ag F Aa).q fun a w F W => ?_
     rcases Bool.eq_false_or_eq_true x6 with hb | hb
     ·
      have H := Ba hb H
      rw [hb] at F
      clear hb
      iterate 6 refine DU F Aa Aa Aa Aa Aa Aa Aa fun a F => ?_
      refine ls F W Aa (Ay F Aa Aa Aa).q fun a w F W => ?_
      refine ls F W Aa (Ae F Aa).q fun a w F W => ?_
      refine Ad (Ac ?_)
      exact ⟨_, H, F.re ⟨rfl, Aa, Aa, Aa, Aa, Aa, Aa, Aa, Aa, Aa, Aa, trivial⟩, W⟩
     have H := A9 (by rw [hb]; decide) H
     rw [hb] at F
     clear hb
     iterate 2 refine AM F W (Ai F Aa Aa Aa Aa) Aa (Ao Aa) (Ag F Aa).q fun a w F W => ?_
     obtain ⟨x12, h4, H⟩ := An H
     refine AM F W (Ai F Aa Aa Aa Aa) Aa (Ao Aa) (AU (r := Ef) J4 F Aa Aa (Ak h_v4) h4).q fun a w F W => ?_
     refine AM F W (Ai F Aa Aa Aa Aa) Aa (Ao Aa) (Af Ds Aa Aa Aa T3 F Aa (E5 v4 + (x8).toNat * 6) Aa).q fun a w F W => ?_
     refine AM F W (Ai F Aa Aa Aa Aa) Aa (Ao Aa) (AC (y := Value.int .i64 x12.1) (j := 0) (i := x8) F Aa Aa (Ak h_v4) h4 Lx.to T3 Aa).q fun a w F W => ?_
     refine AM F W (Ai F Aa Aa Aa Aa) Aa (Ao Aa) (C9 F Aa Aa).q fun a w F W => ?_
     refine ls F W Aa (AL F Aa Aa Aa).q fun a w F W => ?_
     refine ls F W Aa (Ae F Aa).q fun a w F W => ?_
     refine Ad (Ac ?_)
     exact ⟨_, H, F.re ⟨rfl, Aa, Aa, Aa, Aa, Aa, Aa, Aa, Aa, Aa, Aa, trivial⟩, W⟩
    rintro a w ⟨x11, hj, F, W⟩
    have hj := A1 hj
    subst hj
    have H := K5
    clear G5 K5
    obtain ⟨o6, G6, K6⟩ := An H
    refine AR (fun a w => ∃ x13 : Bool, some (x13) = some o6 ∧ Fr 132 [] [(1, v3), (2, v4), (3, .int .i64 p3), (4, .int .i64 p4), (5, .int .i64 p5), (6, .bool p6), (7, .pointer (some ⟨b1, 0, none⟩)), (14, .bool false), (15, .bool x11), (16, .int .i64 x7), (17, .int .i64 x8), (62, .bool x13)] a ∧ Stw ⟨Y, [], w0⟩ [(b1, [.int .i64 p0.1, v1, v2])] [] w) ?_ ?_
    ·
     have H := G6
     clear G6 K6
     refine Ab ?_
     iterate 2 refine ls F W Aa (Ag F Aa).q fun a w F W => ?_
     obtain ⟨x14, h5, H⟩ := An H
     refine ls F W Aa (AU (r := Ef) J4 F Aa Aa (Ak h_v4) h5).q fun a w F W => ?_
     refine ls F W Aa (Af Ds Aa Aa Aa T3 F Aa (E5 v4 + (x8).toNat * 6 + 2) Aa).q fun a w F W => ?_
     refine ls F W Aa (AC (y := Value.int .i64 x14.2.2.1) (j := 2) (i := x8) F Aa Aa (Ak h_v4) h5 Lx.to T3 Aa).q fun a w F W => ?_
     refine ls F W Aa (Ag F Aa).q fun a w F W => ?_
     refine ls F W Aa (E0 F Aa Aa).q fun a w F W => ?_
     refine ls F W Aa (Ag F Aa).q fun a w F W => ?_
     rcases Bool.eq_false_or_eq_true (decide (x7 ≤ x14.2.2.1)) with hb | hb
     ·
      have H := Ba (BO hb) H
      rw [hb] at F
      clear hb
      iterate 2 refine AM F W (Ai F Aa Aa Aa Aa) Aa (Ao Aa) (Ag F Aa).q fun a w F W => ?_
      obtain ⟨x15, h6, H⟩ := An H
      refine AM F W (Ai F Aa Aa Aa Aa) Aa (Ao Aa) (AU (r := Ef) J4 F Aa Aa (Ak h_v4) h6).q fun a w F W => ?_
      refine AM F W (Ai F Aa Aa Aa Aa) Aa (Ao Aa) (Af Ds Aa Aa Aa T3 F Aa (E5 v4 + (x8).toNat * 6 + 2) Aa).q fun a w F W => ?_
      refine AM F W (Ai F Aa Aa Aa Aa) Aa (Ao Aa) (AC (y := Value.int .i64 x15.2.2.1) (j := 2) (i := x8) F Aa Aa (Ak h_v4) h6 Lx.to T3 Aa).q fun a w F W => ?_
      refine AM F W (Ai F Aa Aa Aa Aa) Aa (Ao Aa) (B0 F Aa Aa).q fun a w F W => ?_
      refine ls F W Aa (Ay F Aa Aa Aa).q fun a w F W => ?_
      refine Ad (Ac ?_)
      exact ⟨_, H, F.re ⟨rfl, Aa, Aa, Aa, Aa, Aa, Aa, Aa, Aa, Aa, Aa, Aa, trivial⟩, W⟩
     have H := A9 (BS hb) H
     rw [hb] at F
     clear hb
     iterate 6 refine DU F Aa Aa Aa Aa Aa Aa Aa fun a F => ?_
     refine ls F W Aa (AL F Aa Aa Aa).q fun a w F W => ?_
     refine Ad (Ac ?_)
     exact ⟨_, H, F.re ⟨rfl, Aa, Aa, Aa, Aa, Aa, Aa, Aa, Aa, Aa, Aa, Aa, trivial⟩, W⟩
    rintro a w ⟨x13, hj, F, W⟩
    have hj := A1 hj
    subst hj
    have H := K6
    clear G6 K6
    refine AA F Aa (fun hb => ?_) fun hb => ?_
    ·
     have H := Ba hb H
     rw [hb] at F
     clear hb
     refine Ab ?_
     iterate 2 refine ls F W Aa (Ag F Aa).q fun a w F W => ?_
     obtain ⟨x16, h7, H⟩ := An H
     refine ls F W Aa (AU (r := Ef) J4 F Aa Aa (Ak h_v4) h7).q fun a w F W => ?_
     refine ls F W Aa (Af Ds Aa Aa Aa T3 F Aa (E5 v4 + (x8).toNat * 6 + 2) Aa).q fun a w F W => ?_
     refine ls F W Aa (AC (y := Value.int .i64 x16.2.2.1) (j := 2) (i := x8) F Aa Aa (Ak h_v4) h7 Lx.to T3 Aa).q fun a w F W => ?_
     refine ls F W Aa (Dk F Aa Aa Aa).q fun a w F W => ?_
     refine ls F W Aa (Ae F Aa).q fun a w F W => ?_
     refine Ad (AP (Ac ?_))
     exact ⟨_, _, H, F.re ⟨rfl, Aa, Aa, Aa, Aa, Aa, Aa, Aa, Aa, Aa, Aa, trivial⟩, W⟩
    have H := A9 (by rw [hb]; decide) H
    rw [hb] at F
    clear hb
    refine As (AP (Ac ?_))
    exact ⟨_, _, H, F.re ⟨rfl, Aa, Aa, Aa, Aa, Aa, Aa, Aa, Aa, Aa, Aa, trivial⟩, W⟩
   rintro a w ⟨x9, x10, hj, F, W⟩
   have hj := A1 hj
   subst hj
   have H := K4
   clear G4 K4
   refine Ab ?_
   refine ls F W Aa (Ag F Aa).q fun a w F W => ?_
   refine ls F W Aa (Dk F Aa Aa Aa).q fun a w F W => ?_
   refine ls F W Aa (Ae F Aa).q fun a w F W => ?_
   refine Ad (Ac ?_)
   exact ⟨_, H, F.re ⟨rfl, Aa, Aa, Aa, Aa, Aa, Aa, Aa, Aa, Aa, Aa, trivial⟩, W⟩
  have H := A9 (BS hb) H
  rw [hb] at F
  clear hb
  refine BH ?_
  iterate 2 refine Cj ?_
  refine BI (Ac ?_)
  have H := L3 _ H
  exact ⟨_, _, H, F.re ⟨rfl, Aa, Aa, Aa, Aa, Aa, Aa, Aa, Aa, Aa, trivial⟩, W⟩
 rintro a w ⟨x4, x5, hj, F, W⟩
 have hj := A1 hj
 subst hj
 have H := K2
 clear G2 K2
 refine Ah (Ab ?_)
 refine ls F W Aa (Al (v := Value.agg #[.int .i64 p0.1, v1, v2]) 0 F Aa Aa JQ Aa).q fun a w F W => ?_
 iterate 2 refine ls F W Aa (Ag F Aa).q fun a w F W => ?_
 obtain ⟨x17, h8, H⟩ := An H
 refine Cw (Ml := []) (Zl := []) (M := [(b1, [.int .i64 p0.1, v1, v2])]) (Z := []) (β := Value) (rv := fun x => x) (MM := fun x => []) (ZZ := fun x => [row x 45 C6 x17]) F W Ov Aa Aa (fun hL => D8 _ w (v1) (v2) (v3) (v4) p0 p1 p2 _ h8 ((Ak h_v1) w W).nx ((Ak h_v2) w W).nx ((Cc Ir h1 (Ak h_v3)) w W).nx ((Ak h_v4) w W).nx) fun x a w F W => ?_
 obtain ⟨v6, rfl⟩ : ∃ y, y = x := ⟨x, rfl⟩
 have W : Stw ⟨Y, [], w0⟩ [(b1, [.int .i64 p0.1, v1, v2])] [row v6 45 C6 x17] w := W
 refine ls F W Aa (Ae F Aa).q fun a w F W => ?_
 refine Ad (Ac (Ah ?_))
 refine AR (fun a w => Fr 132 [] [(1, v3), (2, v4), (3, .int .i64 p3), (4, .int .i64 p4), (5, .int .i64 p5), (6, .bool p6), (7, .pointer (some ⟨b1, 0, none⟩)), (14, .bool false), (16, .int .i64 x5), (18, v6), (79, .bool (!x4 && decide (0 < (x17.length : Int))))] a ∧ Stw ⟨Y, [], w0⟩ [(b1, [.int .i64 p0.1, v1, v2])] [row v6 45 C6 x17] w) ?_ ?_
 ·
  refine Ab ?_
  refine ls F W Aa (Ag F Aa).q fun a w F W => ?_
  refine ls F W Aa (Ga F Aa).q fun a w F W => ?_
  refine ls F W Aa (Ag F Aa).q fun a w F W => ?_
  rcases Bool.eq_false_or_eq_true (!x4) with hb0 | hb0
  ·
   rw [hb0] at F
   refine AM F W (Ai F Aa Aa Aa Aa) Aa (Ao Aa) (Ag F Aa).q fun a w F W => ?_
   refine AM F W (Ai F Aa Aa Aa Aa) Aa (Ao Aa) (Bl (r := C6) (l := x17) Ji Aa F Aa (AN 0 Aa)).q fun a w F W => ?_
   refine AM F W (Ai F Aa Aa Aa Aa) Aa (Ao Aa) (FX F Aa Aa).q fun a w F W => ?_
   refine ls F W Aa (Ay F Aa Aa Aa).q fun a w F W => ?_
   refine Ad (Ac ?_)
   exact ⟨F.re ⟨rfl, Aa, Aa, Aa, Aa, Aa, Aa, Aa, Aa, Aa, (by show some (Value.bool (decide (0 < (x17.length : Int)))) = some (Value.bool (!x4 && decide (0 < (x17.length : Int)))); try rw [hb0]; all_goals simp only [Bool.not_true, Bool.not_false, Bool.true_and, Bool.false_and, Bool.true_or, Bool.false_or, Bool.and_true, Bool.or_false, cond_true, cond_false]), trivial⟩, W⟩
  rw [hb0] at F
  iterate 3 refine DU F Aa Aa Aa Aa Aa Aa Aa fun a F => ?_
  refine ls F W Aa (AL F Aa Aa Aa).q fun a w F W => ?_
  refine Ad (Ac ?_)
  exact ⟨F.re ⟨rfl, Aa, Aa, Aa, Aa, Aa, Aa, Aa, Aa, Aa, (by show some (Value.bool false) = some (Value.bool (!x4 && decide (0 < (x17.length : Int)))); try rw [hb0]; all_goals simp only [Bool.not_true, Bool.not_false, Bool.true_and, Bool.false_and, Bool.true_or, Bool.false_or, Bool.and_true, Bool.or_false, cond_true, cond_false]), trivial⟩, W⟩
 rintro a w ⟨F, W⟩
 refine AA F Aa (fun hb => ?_) fun hb => ?_
 ·
  have H := Ba hb H
  rw [hb] at F
  clear hb
  refine Ah (Ab ?_)
  refine ls F W Aa (Ae F Aa).q fun a w F W => ?_
  refine Ad (Ac (AB (AO ?_)))
  have H := A1 H
  subst H
  refine Be (.inl Aa) F W Aa (Aw F Aa) ?_
  exact ⟨rfl, W.done⟩
 have H := A9 (by rw [hb]; decide) H
 rw [hb] at F
 clear hb
 refine As (Ac (Ah (Ab ?_)))
 refine ls F W Aa (Ae F Aa).q fun a w F W => ?_
 refine Ad (Ac (Ah (Ab ?_)))
 iterate 2 refine ls F W Aa (Ag F Aa).q fun a w F W => ?_
 have W := W.nilRow 48 Ef
 obtain ⟨x18, h9, H⟩ := An H
 refine Cr (r := Ef) (i := 0) F W Aa J4 Aa Aa Aa Aa (M8 W s_v4) h9 Aa fun v7 a w F W => ?_
 have W : Stw ⟨Y, [], w0⟩ [(b1, [.int .i64 p0.1, v1, v2])] [row v7 48 Ef x18, row v6 45 C6 x17] w := W
 refine ls F W Aa (Ae F Aa).q fun a w F W => ?_
 refine Ad (Ac (Ah (Ab ?_)))
 iterate 5 refine ls F W Aa (Ag F Aa).q fun a w F W => ?_
 refine ls F W Aa (Bx (v := Value.agg #[.int .i64 1, .int .i64 p3, .int .i64 x5, .int .i64 0, .int .i64 p4, .int .i64 p5]) NK F Aa Aa Aa).q fun a w F W => ?_
 refine Do (z := Value.agg #[.int .i64 0, .int .i64 0, .int .i64 0, .int .i64 0, .int .i64 0, .int .i64 0]) (cs := [.int .i64 1, .int .i64 p3, .int .i64 x5, .int .i64 0, .int .i64 p4, .int .i64 p5]) Ef ([(1, p3, x5, 0, p4, p5)] : List (Int × Int × Int × Int × Int × Int)) F W Aa J4 Ny Aa Aa Aa Aa Aa Aa (Lx.repL _ _ ([(1, p3, x5, 0, p4, p5)] : List (Int × Int × Int × Int × Int × Int))) fun v8 a w F W => ?_
 obtain ⟨x19, h10, H⟩ := An H
 refine Cr (r := Ef) (i := 1) F W Aa J4 Aa Aa Aa Aa (C5 W 0 Aa) h10 Aa fun v9 a w F W => ?_
 have W : Stw ⟨Y, [], w0⟩ [(b1, [.int .i64 p0.1, v1, v2])] [row v9 48 Ef x19, row v8 48 Ef ([(1, p3, x5, 0, p4, p5)] : List (Int × Int × Int × Int × Int × Int)), row v6 45 C6 x17] w := W
 refine ls F W Aa (Ae F Aa).q fun a w F W => ?_
 refine Ad (Ac ?_)
 obtain ⟨o7, G7, K7⟩ := An H
 refine AR (fun a w => ∃ x20 : Bool, ∃ x21 : List (Int × Int × Int × Int × Int × Int), ∃ v10 : Value, some ((x20, x21)) = some o7 ∧ Fr 132 [] [(1, v3), (6, .bool x20), (7, .pointer (some ⟨b1, 0, none⟩)), (14, .bool false), (18, v6), (19, v10)] a ∧ Stw ⟨Y, [], w0⟩ [(b1, [.int .i64 p0.1, v1, v2])] [row v6 45 C6 x17, row v10 48 Ef x21] w) ?_ ?_
 ·
  have H := G7
  clear G7 K7
  refine Ah (Ab ?_)
  refine ls F W Aa (Ag F Aa).q fun a w F W => ?_
  refine Ad (Ac ?_)
  refine AA F Aa (fun hb => ?_) fun hb => ?_
  ·
   have H := Ba hb H
   rw [hb] at F
   clear hb
   refine Ab ?_
   iterate 3 refine ls F W Aa (Ag F Aa).q fun a w F W => ?_
   refine ls F W Aa (Bx (v := Value.agg #[.int .i64 4, .int .i64 p3, .int .i64 x5, .int .i64 0, .int .i64 0, .int .i64 0]) NK F Aa Aa Aa).q fun a w F W => ?_
   refine Do (z := Value.agg #[.int .i64 0, .int .i64 0, .int .i64 0, .int .i64 0, .int .i64 0, .int .i64 0]) (cs := [.int .i64 4, .int .i64 p3, .int .i64 x5, .int .i64 0, .int .i64 0, .int .i64 0]) Ef ([(4, p3, x5, 0, 0, 0)] : List (Int × Int × Int × Int × Int × Int)) F W Aa J4 Ny Aa Aa Aa Aa Aa Aa (Lx.repL _ _ ([(4, p3, x5, 0, 0, 0)] : List (Int × Int × Int × Int × Int × Int))) fun v11 a w F W => ?_
   obtain ⟨x22, h11, H⟩ := An H
   refine Cr (r := Ef) (i := 1) F W Aa J4 Aa Aa Aa Aa (C5 W 0 Aa) h11 Aa fun v12 a w F W => ?_
   have W : Stw ⟨Y, [], w0⟩ [(b1, [.int .i64 p0.1, v1, v2])] [row v12 48 Ef x22, row v11 48 Ef ([(4, p3, x5, 0, 0, 0)] : List (Int × Int × Int × Int × Int × Int)), row v8 48 Ef ([(1, p3, x5, 0, p4, p5)] : List (Int × Int × Int × Int × Int × Int)), row v6 45 C6 x17] w := W
   refine ls F W Aa (Ae F Aa).q fun a w F W => ?_
   refine Ad (Ac ?_)
   have W := W.frontZ (i := 3) Aa Aa
   have W := W.sub (M' := [(b1, [.int .i64 p0.1, v1, v2])]) (Z' := [row v6 45 C6 x17, row v12 48 Ef x22]) (List.Sublist.refl _) (List.Sublist.cons_cons _ (List.Sublist.cons_cons _ (List.nil_sublist _)))
   exact ⟨_, _, (v12), H, F.re ⟨rfl, Aa, Aa, Aa, Aa, Aa, trivial⟩, W⟩
  have H := A9 (by rw [hb]; decide) H
  rw [hb] at F
  clear hb
  refine As (Ac ?_)
  have W := W.frontZ (i := 2) Aa Aa
  have W := W.sub (M' := [(b1, [.int .i64 p0.1, v1, v2])]) (Z' := [row v6 45 C6 x17, row v9 48 Ef x19]) (List.Sublist.refl _) (List.Sublist.cons_cons _ (List.Sublist.cons_cons _ (List.nil_sublist _)))
  exact ⟨_, _, (v9), H, F.re ⟨rfl, Aa, Aa, Aa, Aa, Aa, trivial⟩, W⟩
 rintro a w ⟨x20, x21, v10, hj, F, W⟩
 have hj := A1 hj
 subst hj
 have H := K7
 clear G7 K7
 refine Ah (Ab ?_)
 refine ls F W Aa (Al (v := Value.agg #[.int .i64 p0.1, v1, v2]) 0 F Aa Aa JQ Aa).q fun a w F W => ?_
 iterate 2 refine ls F W Aa (Ag F Aa).q fun a w F W => ?_
 obtain ⟨x23, h12, H⟩ := An H
 refine Cw (Ml := []) (Zl := []) (M := [(b1, [.int .i64 p0.1, v1, v2])]) (Z := [row v6 45 C6 x17, row v10 48 Ef x21]) (β := Value) (rv := fun x => x) (MM := fun x => []) (ZZ := fun x => [row x 45 C6 x23]) F W Ov Aa Aa (fun hL => D8 _ w (v1) (v2) (v3) (v10) p0 p1 x21 _ h12 ((Ak h_v1) w W).nx ((Ak h_v2) w W).nx ((Cc Ir h1 (Ak h_v3)) w W).nx ((AN 1 Aa) w W).nx) fun x a w F W => ?_
 obtain ⟨v13, rfl⟩ : ∃ y, y = x := ⟨x, rfl⟩
 have W : Stw ⟨Y, [], w0⟩ [(b1, [.int .i64 p0.1, v1, v2])] [row v13 45 C6 x23, row v6 45 C6 x17, row v10 48 Ef x21] w := W
 refine ls F W Aa (Ae F Aa).q fun a w F W => ?_
 refine Ad (Ac (Ah ?_))
 refine AR (fun a w => Fr 132 [] [(14, .bool false), (18, v6), (20, v13), (115, .bool (decide ((x23.length : Int) < (x17.length : Int)) || decide (x20 ≠ (decide ((x17.length : Int) < (x23.length : Int))))))] a ∧ Stw ⟨Y, [], w0⟩ [(b1, [.int .i64 p0.1, v1, v2])] [row v13 45 C6 x23, row v6 45 C6 x17, row v10 48 Ef x21] w) ?_ ?_
 ·
  refine Ab ?_
  refine ls F W Aa (Ag F Aa).q fun a w F W => ?_
  refine ls F W Aa (Bl (r := C6) (l := x23) Ji Aa F Aa (AN 0 Aa)).q fun a w F W => ?_
  refine ls F W Aa (Ag F Aa).q fun a w F W => ?_
  refine ls F W Aa (Bl (r := C6) (l := x17) Ji Aa F Aa (AN 1 Aa)).q fun a w F W => ?_
  refine ls F W Aa (B0 F Aa Aa).q fun a w F W => ?_
  refine ls F W Aa (Ag F Aa).q fun a w F W => ?_
  rcases Bool.eq_false_or_eq_true (decide ((x23.length : Int) < (x17.length : Int))) with hb0 | hb0
  ·
   rw [hb0] at F
   iterate 7 refine DU F Aa Aa Aa Aa Aa Aa Aa fun a F => ?_
   refine ls F W Aa (Ay F Aa Aa Aa).q fun a w F W => ?_
   refine Ad (Ac ?_)
   exact ⟨F.re ⟨rfl, Aa, Aa, (by show some (Value.bool true) = some (Value.bool (decide ((x23.length : Int) < (x17.length : Int)) || decide (x20 ≠ (decide ((x17.length : Int) < (x23.length : Int)))))); try rw [hb0]; all_goals simp only [Bool.not_true, Bool.not_false, Bool.true_and, Bool.false_and, Bool.true_or, Bool.false_or, Bool.and_true, Bool.or_false, cond_true, cond_false]), trivial⟩, W⟩
  rw [hb0] at F
  iterate 2 refine AM F W (Ai F Aa Aa Aa Aa) Aa (Ao Aa) (Ag F Aa).q fun a w F W => ?_
  refine AM F W (Ai F Aa Aa Aa Aa) Aa (Ao Aa) (Bl (r := C6) (l := x23) Ji Aa F Aa (AN 0 Aa)).q fun a w F W => ?_
  refine AM F W (Ai F Aa Aa Aa Aa) Aa (Ao Aa) (Ag F Aa).q fun a w F W => ?_
  refine AM F W (Ai F Aa Aa Aa Aa) Aa (Ao Aa) (Bl (r := C6) (l := x17) Ji Aa F Aa (AN 1 Aa)).q fun a w F W => ?_
  refine AM F W (Ai F Aa Aa Aa Aa) Aa (Ao Aa) (FX F Aa Aa).q fun a w F W => ?_
  refine AM F W (Ai F Aa Aa Aa Aa) Aa (Ao Aa) (On Pt F Aa Aa).q fun a w F W => ?_
  refine ls F W Aa (AL F Aa Aa Aa).q fun a w F W => ?_
  refine Ad (Ac ?_)
  exact ⟨F.re ⟨rfl, Aa, Aa, (by show some (Value.bool (decide (x20 ≠ (decide ((x17.length : Int) < (x23.length : Int)))))) = some (Value.bool (decide ((x23.length : Int) < (x17.length : Int)) || decide (x20 ≠ (decide ((x17.length : Int) < (x23.length : Int)))))); try rw [hb0]; all_goals simp only [Bool.not_true, Bool.not_false, Bool.true_and, Bool.false_and, Bool.true_or, Bool.false_or, Bool.and_true, Bool.or_false, cond_true, cond_false]), trivial⟩, W⟩
 rintro a w ⟨F, W⟩
 refine AA F Aa (fun hb => ?_) fun hb => ?_
 ·
  have H := Ba hb H
  rw [hb] at F
  clear hb
  refine Ah (Ab ?_)
  refine ls F W Aa (Ae F Aa).q fun a w F W => ?_
  refine Ad (Ac (AB (AO ?_)))
  have H := A1 H
  subst H
  refine Be (.inl Aa) F W Aa (Aw F Aa) ?_
  exact ⟨rfl, W.done⟩
 have H := A9 (by rw [hb]; decide) H
 rw [hb] at F
 clear hb
 refine As (Ac ?_)
 obtain ⟨o8, G8, K8, L8⟩ := KM H
 refine AR (fun a w => some (Sum.inl ()) = some o8 ∧ Fr 132 [] [(14, .bool false)] a ∧ Stw ⟨Y, [], w0⟩ [(b1, [.int .i64 p0.1, v1, v2])] [] w) ?_ ?_
 ·
  have H := G8
  clear G8 K8
  refine Ah (Ab ?_)
  refine ls F W Aa (Ae F Aa).q fun a w F W => ?_
  refine Ad (Ac (Ax ?_))
  have W := W.frontZ (i := 1) Aa Aa
  have W := W.sub (M' := [(b1, [.int .i64 p0.1, v1, v2])]) (Z' := [row v6 45 C6 x17, row v13 45 C6 x23]) (List.Sublist.refl _) (List.Sublist.cons_cons _ (List.Sublist.cons_cons _ (List.nil_sublist _)))
  refine BZ H (fun s a w => Fr 132 [] [(14, .bool false), (18, v6), (20, v13), (21, .int .i64 s)] a ∧ Stw ⟨Y, [], w0⟩ [(b1, [.int .i64 p0.1, v1, v2])] [row v6 45 C6 x17, row v13 45 C6 x23] w) ⟨F.re ⟨rfl, Aa, Aa, Aa, trivial⟩, W⟩ fun s o a w H L9 hR => ?_
  obtain ⟨x24, rfl⟩ : ∃ x, x = s := ⟨s, rfl⟩
  obtain ⟨F, W⟩ := hR
  have F : Fr 132 [] [(14, .bool false), (18, v6), (20, v13), (21, .int .i64 x24)] a := F
  have W : Stw ⟨Y, [], w0⟩ [(b1, [.int .i64 p0.1, v1, v2])] [row v6 45 C6 x17, row v13 45 C6 x23] w := W
  rw [CB] at H
  refine Ah (Ah (Ab ?_))
  iterate 2 refine ls F W Aa (Ag F Aa).q fun a w F W => ?_
  refine ls F W Aa (Bl (r := C6) (l := x17) Ji Aa F Aa (AN 0 Aa)).q fun a w F W => ?_
  refine ls F W Aa (B0 F Aa Aa).q fun a w F W => ?_
  refine Ad (Ac ?_)
  refine AA F Aa (fun hb => ?_) fun hb => ?_
  ·
   have H := Ba (BO hb) H
   rw [hb] at F
   clear hb
   refine As (Ac (Ah (Ax (Ah ?_))))
   refine Df W MO (by kernel_rfl) ?_
   iterate 2 refine qs F Aa (Ag F Aa).q fun a F => ?_
   obtain ⟨x25, h13, H⟩ := An H
   refine qs F Aa (AU (r := C6) Mh F Aa Aa (AN 0 Aa) h13).q fun a F => ?_
   refine qs F Aa (AC (y := Value.agg #[.int .i64 x25.1, .int .i64 x25.2]) (j := 0) (i := x24) F Aa Aa (AN 0 Aa) h13 Nx.to OU Aa).q fun a F => ?_
   iterate 2 refine qs F Aa (Ag F Aa).q fun a F => ?_
   obtain ⟨x26, h14, H⟩ := An H
   refine qs F Aa (AU (r := C6) Mh F Aa Aa (AN 1 Aa) h14).q fun a F => ?_
   refine qs F Aa (AC (y := Value.agg #[.int .i64 x26.1, .int .i64 x26.2]) (j := 0) (i := x24) F Aa Aa (AN 1 Aa) h14 Nx.to OU Aa).q fun a F => ?_
   refine qs F Aa (N6 (t := decide (x25.1 = x26.1 ∧ x25.2 = x26.2)) Pa (O1 _ _ _ _) F Aa Aa).q fun a F => ?_
   refine Cf fun w W => ?_
   refine Ac ?_
   refine AA F Aa (fun hb => ?_) fun hb => ?_
   ·
    have H := Ba hb H
    rw [hb] at F
    clear hb
    refine Ah (Ab ?_)
    refine ls F W Aa (Ae F Aa).q fun a w F W => ?_
    refine Ad (Ac (AB (AV ?_)))
    iterate 2 refine AO ?_
    refine AV (AO ?_)
    have H := L9 _ H
    have H := L8 _ H
    have H := A1 H
    subst H
    refine Be (.inl Aa) F W Aa (Aw F Aa) ?_
    exact ⟨rfl, W.done⟩
   have H := A9 (by rw [hb]; decide) H
   rw [hb] at F
   clear hb
   refine As (AP (Ac (Ab ?_)))
   refine ls F W Aa (Ag F Aa).q fun a w F W => ?_
   refine ls F W Aa (Dk F Aa Aa Aa).q fun a w F W => ?_
   refine ls F W Aa (Ae F Aa).q fun a w F W => ?_
   refine Ad (Ac ?_)
   have W := W.frontZ (i := 1) Aa Aa
   have W := W.frontZ (i := 1) Aa Aa
   exact ⟨_, H, F.re ⟨rfl, Aa, Aa, Aa, trivial⟩, W⟩
  have H := A9 (BS hb) H
  rw [hb] at F
  clear hb
  refine BH ?_
  iterate 2 refine Cj ?_
  refine BI (Ac ?_)
  have W := W.sub (M' := [(b1, [.int .i64 p0.1, v1, v2])]) (Z' := []) (List.Sublist.refl _) (List.nil_sublist _)
  have H := L9 _ H
  exact ⟨H, F.re ⟨rfl, trivial⟩, W⟩
 rintro a w ⟨hj, F, W⟩
 have H := K8 _ hj
 clear hj G8 K8 L8
 refine Ah (Ab ?_)
 obtain ⟨x27, h15, H⟩ := An H
 refine ls F W Aa (Ch (v := Value.bool x27) F H8 Aa (fun w W => Hj any w _ h15)) fun a w F W => ?_
 refine ls F W Aa (Ae F Aa).q fun a w F W => ?_
 refine Ad (Ac (AB ?_))
 have H := A1 H
 subst H
 refine Be (.inl Aa) F W Aa (Aw F Aa) ?_
 exact ⟨rfl, W.done⟩
end Go.Proofs.Ytflaelbmglmmcaa
