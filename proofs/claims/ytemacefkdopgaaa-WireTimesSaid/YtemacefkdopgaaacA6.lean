/- The functions of layer 35, EJ. Conditions: none. -/
import Derived.Test.YtemacefkdopgaaacA5
namespace Go.Proofs.Ytemacefkdopgaaa
open Go Go.RowKit
set_option linter.unusedVariables false
set_option linter.unusedSimpArgs false
set_option maxRecDepth 20000
theorem Mz : Has Try.prog 17 := ⟨fun args w => An Try.func17 rfl (by decide) args w⟩
theorem Z3 : (Try.prog.info? 3).bind (·.zero) = some (.int .i64 0) := by kernel_rfl
theorem Z4 : (Try.prog.info? 4).bind (·.zero) = some (.bool false) := by kernel_rfl
abbrev Dy (a0 : Nat) (a1 : Int) (a2 : Value) (a3 : Value) (a4 : Value) (a5 : Nat) (a6 : Int × (List (Int × Int × Int × Int × Int × Int)) × (List (Int × Int))) (a7 : Value) (a8 : Value) : List (Nat × List Value) := [(a0, [.int .i64 a1, a2, a3, a4]), (a5, [.int .i64 a6.1, a7, a8])]
noncomputable def Cy (p0 : Int × (List (Int × Int × Int × Int × Int × Int)) × (List (Int × Int))) (x12 : List Int) (x13 : List Int) (x33 : Int) (x36 : List (Int × Int × Int × (Int × Int × Int × Int) × Int × Int)) : (List Bool × Int) → Option ((List Bool × Int) ⊕ ((List Bool) ⊕ ((Int × List Int × List Int × List Bool × Int × (List (Int × Int × Int × Int × Int × Int)) × (List (Int × Int)) × (List (Int × Int × Int × (Int × Int × Int × Int) × Int × Int))) ⊕ ((Int × List Int × List Int × List Bool × Int × Int × (List (Int × Int × Int × Int × Int × Int)) × (List (Int × Int)) × (List (Int × Int × Int × (Int × Int × Int × Int) × Int × Int))) ⊕ ((Int × (List (Int × Int × Int × Int × Int × Int)) × (List (Int × Int)) × (List (Int × Int × Int × (Int × Int × Int × Int) × Int × Int))) ⊕ Bool)))))
  | (x46, x47) => (if x47 < (x36.length : Int) then (ix x36 x47).bind fun x48 => (if x48.1 < 0 then some true else (if (x12.length : Int) ≤ x48.1 then some true else (ix x46 x48.1).bind fun x50 => (if x50 = true then some true else (ix x36 x47).bind fun x51 => (ix x13 x48.1).bind fun x52 => (ix x12 x48.1).bind fun x53 => (ED p0 x51 x52 (Ay (x33 - x53))).bind fun x54 => some (!x54)))).bind fun x49 => (if x49 = true then some (.inr (.inr (.inr (.inr (.inr false))))) else (ix x46 x48.1).bind fun x55 => some (.inl ((Cq x46 x48.1 true), Ay (x47 + 1)))) else some (.inr (.inl x46)))
noncomputable def CA (p0 : Int × (List (Int × Int × Int × Int × Int × Int)) × (List (Int × Int))) (p1 : List (Int × Int × Int × Int × Int × Int × (Int × Int × Int × Int))) : (Int × List Int × List Int × List Bool × Int × Int × (List (Int × Int × Int × Int × Int × Int)) × (List (Int × Int)) × (List (Int × Int × Int × (Int × Int × Int × Int) × Int × Int))) → Option ((Int × List Int × List Int × List Bool × Int × Int × (List (Int × Int × Int × Int × Int × Int)) × (List (Int × Int)) × (List (Int × Int × Int × (Int × Int × Int × Int) × Int × Int))) ⊕ ((Int × (List (Int × Int × Int × Int × Int × Int)) × (List (Int × Int)) × (List (Int × Int × Int × (Int × Int × Int × Int) × Int × Int))) ⊕ Bool))
  | (x11, x12, x13, x14, x15, x16, x17, x18, x19) => (if (decide (x15 < (p1.length : Int)) && decide (x15 < 60)) = true then F3 (((ix p1 x15).bind fun x29 => (if x29.2.1 < 0 then some true else (ix p1 x15).bind fun x30 => some (decide (10000 < x30.2.1)))).bind fun x28 => (if x28 = true then (C5).bind fun x31 => some (.inr (.inr (.inr x31))) else (ix p1 x15).bind fun x32 => ((BS ((x16, x17, x18), x19)).bind fun x34 => (if (decide (0 ≤ x34) && decide (x34 < (Ay (x11 + (Int.tmod x32.2.1 8))))) = true then some x34 else some (Ay (x11 + (Int.tmod x32.2.1 8))))).bind fun x33 => (CX ((x16, x17, x18), x19) x33).bind fun x35 => ((ix p1 x15).bind fun x41 => (if x41.1 = 3 then (ix p1 x15).bind fun x42 => (Bv x35.2 x33 x42.2.2.2.2.2.1).bind fun x43 => (if x43.2.1 = 0 then (app x35.1 ([x43.1] : List (Int × Int × Int × (Int × Int × Int × Int) × Int × Int))).bind fun x44 => some (x44, x43.2.2.1.1, x43.2.2.1.2.1, x43.2.2.1.2.2, x43.2.2.2) else some (x35.1, x43.2.2.1.1, x43.2.2.1.2.1, x43.2.2.1.2.2, x43.2.2.2)) else some (x35.1, x35.2.1.1, x35.2.1.2.1, x35.2.1.2.2, x35.2.2))).bind fun (x36, x37, x38, x39, x40) => F3 (AM (Cy p0 x12 x13 x33 x36) (x14, 0)) fun x45 => ((ix p1 x15).bind fun x61 => (if x61.1 < 3 then (ix p1 x15).bind fun x62 => (ix p1 x15).bind fun x63 => (ix p1 x15).bind fun x64 => (B5 ((x37, x38, x39), x40) x33 x62.2.2.1 x63.2.2.2.1 (x12.length : Int) x64.2.2.2.2.2.2).bind fun x65 => some (decide (x65.1 = 0), x65.2.1.1, x65.2.1.2.1, x65.2.1.2.2, x65.2.2) else some (false, x37, x38, x39, x40))).bind fun (x56, x57, x58, x59, x60) => (if x56 = true then (app x12 ([x33] : List Int)).bind fun x66 => (ix p1 x15).bind fun x67 => (app x13 ([x67.2.2.1] : List Int)).bind fun x68 => (app x45 ([false] : List Bool)).bind fun x69 => some (.inl (x33, x66, x68, x69, x57, x58, x59, x60)) else some (.inl (x33, x12, x13, x45, x57, x58, x59, x60))))) fun (x20, x21, x22, x23, x24, x25, x26, x27) => some (.inl (x20, x21, x22, x23, Ay (x15 + 1), x24, x25, x26, x27)) else some (.inr (.inl (x16, x17, x18, x19))))
noncomputable def C8 (p0 : Int × (List (Int × Int × Int × Int × Int × Int)) × (List (Int × Int))) (p1 : List (Int × Int × Int × Int × Int × Int × (Int × Int × Int × Int))) : Option Bool := (if 30 < (p0.2.1.length : Int) then some true else (if 12 < (p0.2.2.length : Int) then some true else (D2 p0).bind fun x2 => some (!x2))).bind fun x1 => (if x1 = true then (C5).bind fun x3 => some x3 else (DR p0).bind fun x4 => H8 x4 (fun x5 => F3 (AM (CA p0 p1) (0, [], [], [], 0, x5.1.1, x5.1.2.1, x5.1.2.2, x5.2)) fun (x7, x8, x9, x10) => (C5).bind fun x70 => some x70) (fun x6 => some false))
theorem Gb (Y : Nat → Prop) (w0 : World) (v1 : Value) (v2 : Value) (v3 : Value) (p0 : Int × (List (Int × Int × Int × Int × Int × Int)) × (List (Int × Int))) (p1 : List (Int × Int × Int × Int × Int × Int × (Int × Int × Int × Int))) (r : Bool) (H : C8 p0 p1 = some r) (s_v1 : Sl w0 Y Bx v1 p0.2.1) (h_v2 : Sl w0 (NX []) Cb v2 p0.2.2) (h_v3 : Sl w0 (NX []) HY v3 p1) :
    Calls Try.prog 4 #[.agg #[.int .i64 p0.1, v1, v2], v3] w0 fun e w' => e = .returned (.bool r) ∧ Below w0.heap.size w0 w' := by
 refine enter Try.func4 Aa Try.ntmps4 Aa fun a F => ?_
 have W := Stw.start Y w0
 have h_v1 := W.nx s_v1
 unfold C8 at H
 refine Ai (Ac ?_)
 refine DW (cs := [.int .i64 p0.1, v1, v2]) F W Aa Aa Aa fun b1 a w F W => ?_
 refine ls F W Aa (Ag F Aa).q fun a w F W => ?_
 refine Ae (Ab (Ai ?_))
 obtain ⟨o1, G1, K1⟩ := Al H
 refine AO (fun a w => ∃ x1 : Bool, some (x1) = some o1 ∧ Fr 204 [] [(1, v3), (2, .pointer (some ⟨b1, 0, none⟩)), (4, .bool false), (33, .bool x1)] a ∧ Stw ⟨Y, [], w0⟩ [(b1, [.int .i64 p0.1, v1, v2])] [] w) ?_ ?_
 ·
  have H := G1
  clear G1 K1
  refine Ac ?_
  refine ls F W Aa (Ah CZ Aa Aa Aa E5 F Aa 1 Aa).q fun a w F W => ?_
  refine ls F W Aa (Ao (v := v1) 0 F Aa Aa E5 Aa).q fun a w F W => ?_
  refine ls F W Aa (Cp (r := Bx) (l := p0.2.1) Gx Aa F Aa (Ap h_v1)).q fun a w F W => ?_
  refine ls F W Aa (DP F Aa Aa).q fun a w F W => ?_
  refine ls F W Aa (Ad F Aa).q fun a w F W => ?_
  rcases Bool.eq_false_or_eq_true (decide (30 < (p0.2.1.length : Int))) with hb | hb
  ·
   have H := A5 (BJ hb) H
   rw [hb] at F
   clear hb
   iterate 4 refine B7 F Aa Aa Aa Aa Aa Aa Aa fun a F => ?_
   refine ls F W Aa (Am F Aa Aa Aa).q fun a w F W => ?_
   refine ls F W Aa (Ad F Aa).q fun a w F W => ?_
   iterate 3 refine B7 F Aa Aa Aa Aa Aa Aa Aa fun a F => ?_
   refine ls F W Aa (Am F Aa Aa Aa).q fun a w F W => ?_
   refine Ae (Ab ?_)
   exact ⟨_, H, F.re ⟨rfl, Aa, Aa, Aa, trivial⟩, W⟩
  have H := A6 (BK hb) H
  rw [hb] at F
  clear hb
  refine Ax F W (Af F Aa Aa Aa Aa) Aa (Aj Aa) (Ah CZ Aa Aa Aa GH F Aa 2 Aa).q fun a w F W => ?_
  refine Ax F W (Af F Aa Aa Aa Aa) Aa (Aj Aa) (Ao (v := v2) 0 F Aa Aa GH Aa).q fun a w F W => ?_
  refine Ax F W (Af F Aa Aa Aa Aa) Aa (Aj Aa) (Cp (r := Cb) (l := p0.2.2) HX Aa F Aa (Ap h_v2)).q fun a w F W => ?_
  refine Ax F W (Af F Aa Aa Aa Aa) Aa (Aj Aa) (DP F Aa Aa).q fun a w F W => ?_
  refine ls F W Aa (Ak F Aa Aa Aa).q fun a w F W => ?_
  refine ls F W Aa (Ad F Aa).q fun a w F W => ?_
  rcases Bool.eq_false_or_eq_true (decide (12 < (p0.2.2.length : Int))) with hb | hb
  ·
   have H := A5 (BJ hb) H
   rw [hb] at F
   clear hb
   iterate 3 refine B7 F Aa Aa Aa Aa Aa Aa Aa fun a F => ?_
   refine ls F W Aa (Am F Aa Aa Aa).q fun a w F W => ?_
   refine Ae (Ab ?_)
   exact ⟨_, H, F.re ⟨rfl, Aa, Aa, Aa, trivial⟩, W⟩
  have H := A6 (BK hb) H
  rw [hb] at F
  clear hb
  refine Ax F W (Af F Aa Aa Aa Aa) Aa (Aj Aa) (Ao (v := Value.agg #[.int .i64 p0.1, v1, v2]) 0 F Aa Aa IB Aa).q fun a w F W => ?_
  refine IM (Af F Aa Aa Aa Aa) ?_
  obtain ⟨x2, h1, H⟩ := Al H
  refine ls F W Aa (B3 (v := Value.bool x2) F LW Aa (fun w W => HR any w (v1) (v2) p0 _ h1 (((Ap h_v1) : DT _ _ _ _ _ _) w W).nx (((Ap h_v2) : DT _ _ _ _ _ _) w W).nx)) fun a w F W => ?_
  refine Ax F W (Af F Aa Aa Aa Aa) Aa (Aj Aa) (Fc F Aa).q fun a w F W => ?_
  refine ls F W Aa (Ak F Aa Aa Aa).q fun a w F W => ?_
  refine Ae (Ab ?_)
  exact ⟨_, H, F.re ⟨rfl, Aa, Aa, Aa, trivial⟩, W⟩
 rintro a w ⟨x1, hj, F, W⟩
 have hj := Bg hj
 subst hj
 have H := K1
 clear G1 K1
 refine AC F Aa (fun hb => ?_) fun hb => ?_
 ·
  have H := A5 hb H
  rw [hb] at F
  clear hb
  refine Ai (Ac ?_)
  obtain ⟨x3, h2, H⟩ := Al H
  refine ls F W Aa (B3 (v := Value.bool x3) F H6 Aa (fun w W => ER any w _ h2)) fun a w F W => ?_
  refine ls F W Aa (Ag F Aa).q fun a w F W => ?_
  refine Ae (Ab (AN (AY ?_)))
  have H := Bg H
  subst H
  refine Bz (.inl Aa) F W Aa (Az F Aa) ?_
  exact ⟨rfl, W.done⟩
 have H := A6 (by rw [hb]; decide) H
 rw [hb] at F
 clear hb
 refine As (Ab (Ai (Ac ?_)))
 refine ls F W Aa (Ao (v := Value.agg #[.int .i64 p0.1, v1, v2]) 0 F Aa Aa IB Aa).q fun a w F W => ?_
 obtain ⟨x4, h3, H⟩ := Al H
 rcases x4 with x5 | x6
 ·
  have H := KK H
  refine BT (Ml := []) (Zl := []) (M := [(b1, [.int .i64 p0.1, v1, v2])]) (Z := []) (β := Nat × Value × Value × Value) (rv := fun x => .tuple #[.pointer (some ⟨x.1, 0, none⟩), .int .i64 0]) (MM := fun x => [(x.1, [.int .i64 x5.1.1, x.2.1, x.2.2.1, x.2.2.2])]) (ZZ := fun x => [Be x.2.1 Bx x5.1.2.1, Be x.2.2.1 Cb x5.1.2.2, row x.2.2.2 51 AB x5.2]) F W H7 Aa Aa (fun hL => EI _ w (v1) (v2) p0 _ h3 (W.old s_v1) ((Ap h_v2) w W).nx) fun x a w F W => ?_
  obtain ⟨b2, v4, v5, v6⟩ := x
  have W : Stw ⟨Y, [], w0⟩ [(b2, [.int .i64 x5.1.1, v4, v5, v6]), (b1, [.int .i64 p0.1, v1, v2])] [Be v4 Bx x5.1.2.1, Be v5 Cb x5.1.2.2, row v6 51 AB x5.2] w := W
  refine ls F W Aa (Ad F Aa).q fun a w F W => ?_
  refine ls F W Aa (AU (v := Value.pointer (some ⟨b2, 0, none⟩)) F Aa Aa).q fun a w F W => ?_
  refine ls F W Aa (AU (v := Value.int .i64 0) F Aa Aa).q fun a w F W => ?_
  iterate 2 refine ls F W Aa (Ag F Aa).q fun a w F W => ?_
  refine Ae (Ab (Ai (Ai (Ac ?_))))
  refine ls F W Aa (Ad F Aa).q fun a w F W => ?_
  refine ls F W Aa (G0 F Aa Aa).q fun a w F W => ?_
  rw [show decide ((0 : Int) ≠ 0) = false from by decide] at F
  refine Ae (Ab ?_)
  refine EB F Aa ?_
  refine As (Ab (Ai (Ac ?_)))
  refine ls F W Aa (Ag F Aa).q fun a w F W => ?_
  refine Ae (Ab (Ai (Ac ?_)))
  iterate 2 refine ls F W Aa (Ag F Aa).q fun a w F W => ?_
  refine Ae (Ab (Ai (Ac ?_)))
  refine ls F W Aa (Ag F Aa).q fun a w F W => ?_
  refine Ae (Ab ?_)
  obtain ⟨o2, G2, K2, L2⟩ := Jh H
  refine AO (fun a w => ∃ x7 : Int, ∃ x8 : List (Int × Int × Int × Int × Int × Int), ∃ x9 : List (Int × Int), ∃ x10 : List (Int × Int × Int × (Int × Int × Int × Int) × Int × Int), ∃ v7 : Value, ∃ v8 : Value, ∃ v9 : Value, some (Sum.inl (x7, x8, x9, x10)) = some o2 ∧ Fr 204 [] [(4, .bool false)] a ∧ Stw ⟨Y, [], w0⟩ (Dy b2 x7 v7 v8 v9 b1 p0 v1 v2) [Be v7 Bx x8, Be v8 Cb x9, row v9 51 AB x10] w) ?_ ?_
  ·
   have H := G2
   clear G2 K2
   refine Ai (Ac ?_)
   refine ls F W Aa (Ag F Aa).q fun a w F W => ?_
   refine Ae (Ab (AA ?_))
   have W := W.nilRow 3 (Rp.int .i64)
   have W := W.nilRow 3 (Rp.int .i64)
   have W := W.nilRow 4 Rp.bool
   have W := W.frontZ (i := 5) Aa Aa
   have W := W.frontZ (i := 5) Aa Aa
   have W := W.frontZ (i := 5) Aa Aa
   have W := W.frontZ (i := 3) Aa Aa
   have W := W.frontZ (i := 4) Aa Aa
   have W := W.frontZ (i := 5) Aa Aa
   have W := W.frontM (i := 1) Aa Aa
   have W := W.frontM (i := 1) Aa Aa
   refine BG H (fun s a w => ∃ v10 : Value, ∃ v11 : Value, ∃ v12 : Value, ∃ v13 : Value, ∃ v14 : Value, ∃ v15 : Value, Fr 204 [] [(1, v3), (2, .pointer (some ⟨b1, 0, none⟩)), (4, .bool false), (5, .pointer (some ⟨b2, 0, none⟩)), (7, .int .i64 s.1), (8, v10), (9, v11), (10, v12), (11, .int .i64 s.2.2.2.2.1)] a ∧ Stw ⟨Y, [], w0⟩ [(b2, [.int .i64 s.2.2.2.2.2.1, v13, v14, v15]), (b1, [.int .i64 p0.1, v1, v2])] [row v10 3 (Rp.int .i64) s.2.1, row v11 3 (Rp.int .i64) s.2.2.1, row v12 4 Rp.bool s.2.2.2.1, Be v13 Bx s.2.2.2.2.2.2.1, Be v14 Cb s.2.2.2.2.2.2.2.1, row v15 51 AB s.2.2.2.2.2.2.2.2] w) ⟨(Value.slice none 0 0), (Value.slice none 0 0), (Value.slice none 0 0), (v4), (v5), (v6), F.re ⟨rfl, Aa, Aa, Aa, Aa, Aa, Aa, Aa, Aa, trivial⟩, W⟩ fun s o a w H L3 hR => ?_
   obtain ⟨x11, x12, x13, x14, x15, x16, x17, x18, x19⟩ := s
   obtain ⟨v10, v11, v12, v13, v14, v15, F, W⟩ := hR
   have F : Fr 204 [] [(1, v3), (2, .pointer (some ⟨b1, 0, none⟩)), (4, .bool false), (5, .pointer (some ⟨b2, 0, none⟩)), (7, .int .i64 x11), (8, v10), (9, v11), (10, v12), (11, .int .i64 x15)] a := F
   have W : Stw ⟨Y, [], w0⟩ (Dy b2 x16 v13 v14 v15 b1 p0 v1 v2) [row v10 3 (Rp.int .i64) x12, row v11 3 (Rp.int .i64) x13, row v12 4 Rp.bool x14, Be v13 Bx x17, Be v14 Cb x18, row v15 51 AB x19] w := W
   rw [CA] at H
   refine Ai ?_
   refine AO (fun a w => Fr 204 [] [(1, v3), (2, .pointer (some ⟨b1, 0, none⟩)), (4, .bool false), (5, .pointer (some ⟨b2, 0, none⟩)), (7, .int .i64 x11), (8, v10), (9, v11), (10, v12), (11, .int .i64 x15), (49, .bool (decide (x15 < (p1.length : Int)) && decide (x15 < 60)))] a ∧ Stw ⟨Y, [], w0⟩ (Dy b2 x16 v13 v14 v15 b1 p0 v1 v2) [row v10 3 (Rp.int .i64) x12, row v11 3 (Rp.int .i64) x13, row v12 4 Rp.bool x14, Be v13 Bx x17, Be v14 Cb x18, row v15 51 AB x19] w) ?_ ?_
   ·
    refine Ac ?_
    iterate 2 refine ls F W Aa (Ad F Aa).q fun a w F W => ?_
    refine ls F W Aa (Cp (r := HY) (l := p1) KF Aa F Aa (Ap h_v3)).q fun a w F W => ?_
    refine ls F W Aa (Bm F Aa Aa).q fun a w F W => ?_
    refine ls F W Aa (Ad F Aa).q fun a w F W => ?_
    rcases Bool.eq_false_or_eq_true (decide (x15 < (p1.length : Int))) with hb0 | hb0
    ·
     rw [hb0] at F
     refine Ax F W (Af F Aa Aa Aa Aa) Aa (Aj Aa) (Ad F Aa).q fun a w F W => ?_
     refine Ax F W (Af F Aa Aa Aa Aa) Aa (Aj Aa) (Bm F Aa Aa).q fun a w F W => ?_
     refine ls F W Aa (Am F Aa Aa Aa).q fun a w F W => ?_
     refine Ae (Ab ?_)
     exact ⟨F.re ⟨rfl, Aa, Aa, Aa, Aa, Aa, Aa, Aa, Aa, (Ev (by try rw [hb0]; all_goals simp only [Ez])), trivial⟩, W⟩
    rw [hb0] at F
    iterate 2 refine B7 F Aa Aa Aa Aa Aa Aa Aa fun a F => ?_
    refine ls F W Aa (Ak F Aa Aa Aa).q fun a w F W => ?_
    refine Ae (Ab ?_)
    exact ⟨F.re ⟨rfl, Aa, Aa, Aa, Aa, Aa, Aa, Aa, Aa, (Ev (by try rw [hb0]; all_goals simp only [Ez])), trivial⟩, W⟩
   rintro a w ⟨F, W⟩
   refine AC F Aa (fun hb => ?_) fun hb => ?_
   ·
    have H := A5 hb H
    rw [hb] at F
    clear hb
    refine As (Ab ?_)
    obtain ⟨o4, G4, K4, L4⟩ := Jh H
    refine AO (fun a w => ∃ x20 : Int, ∃ x21 : List Int, ∃ x22 : List Int, ∃ x23 : List Bool, ∃ x24 : Int, ∃ x25 : List (Int × Int × Int × Int × Int × Int), ∃ x26 : List (Int × Int), ∃ x27 : List (Int × Int × Int × (Int × Int × Int × Int) × Int × Int), ∃ v16 : Value, ∃ v17 : Value, ∃ v18 : Value, ∃ v19 : Value, ∃ v20 : Value, ∃ v21 : Value, some (Sum.inl (x20, x21, x22, x23, x24, x25, x26, x27)) = some o4 ∧ Fr 204 [] [(1, v3), (2, .pointer (some ⟨b1, 0, none⟩)), (4, .bool false), (5, .pointer (some ⟨b2, 0, none⟩)), (7, .int .i64 x20), (8, v16), (9, v17), (10, v18), (11, .int .i64 x15)] a ∧ Stw ⟨Y, [], w0⟩ (Dy b2 x24 v19 v20 v21 b1 p0 v1 v2) [row v16 3 (Rp.int .i64) x21, row v17 3 (Rp.int .i64) x22, row v18 4 Rp.bool x23, Be v19 Bx x25, Be v20 Cb x26, row v21 51 AB x27] w) ?_ ?_
    ·
     have H := G4
     clear G4 K4
     refine AA (Ai ?_)
     obtain ⟨o5, G5, K5⟩ := Al H
     refine AO (fun a w => ∃ x28 : Bool, some (x28) = some o5 ∧ Fr 204 [] [(1, v3), (2, .pointer (some ⟨b1, 0, none⟩)), (4, .bool false), (5, .pointer (some ⟨b2, 0, none⟩)), (7, .int .i64 x11), (8, v10), (9, v11), (10, v12), (11, .int .i64 x15), (65, .bool x28)] a ∧ Stw ⟨Y, [], w0⟩ (Dy b2 x16 v13 v14 v15 b1 p0 v1 v2) [row v10 3 (Rp.int .i64) x12, row v11 3 (Rp.int .i64) x13, row v12 4 Rp.bool x14, Be v13 Bx x17, Be v14 Cb x18, row v15 51 AB x19] w) ?_ ?_
     ·
      have H := G5
      clear G5 K5
      refine Ac ?_
      iterate 2 refine ls F W Aa (Ad F Aa).q fun a w F W => ?_
      obtain ⟨x29, h4, H⟩ := Al H
      refine ls F W Aa (AW (r := HY) JB F Aa Aa (Ap h_v3) h4).q fun a w F W => ?_
      refine ls F W Aa (Ah GR Aa Aa Aa T3 F Aa (Dd v3 + (x15).toNat * 10 + 1) Aa).q fun a w F W => ?_
      refine ls F W Aa (Av (y := Value.int .i64 x29.2.1) (j := 1) (i := x15) F Aa Aa (Ap h_v3) h4 JC.to T3 Aa).q fun a w F W => ?_
      refine ls F W Aa (Bm F Aa Aa).q fun a w F W => ?_
      refine ls F W Aa (Ad F Aa).q fun a w F W => ?_
      rcases Bool.eq_false_or_eq_true (decide (x29.2.1 < 0)) with hb | hb
      ·
       have H := A5 (BJ hb) H
       rw [hb] at F
       clear hb
       iterate 6 refine B7 F Aa Aa Aa Aa Aa Aa Aa fun a F => ?_
       refine ls F W Aa (Am F Aa Aa Aa).q fun a w F W => ?_
       refine Ae (Ab ?_)
       have W := W.frontZ (i := 5) Aa Aa
       have W := W.frontZ (i := 5) Aa Aa
       have W := W.frontZ (i := 5) Aa Aa
       have W := W.frontZ (i := 5) Aa Aa
       have W := W.frontZ (i := 5) Aa Aa
       have W := W.frontZ (i := 5) Aa Aa
       have W := W.frontM (i := 1) Aa Aa
       have W := W.frontM (i := 1) Aa Aa
       exact ⟨_, H, F.re ⟨rfl, Aa, Aa, Aa, Aa, Aa, Aa, Aa, Aa, Aa, trivial⟩, W⟩
      have H := A6 (BK hb) H
      rw [hb] at F
      clear hb
      iterate 2 refine Ax F W (Af F Aa Aa Aa Aa) Aa (Aj Aa) (Ad F Aa).q fun a w F W => ?_
      obtain ⟨x30, h5, H⟩ := Al H
      refine Ax F W (Af F Aa Aa Aa Aa) Aa (Aj Aa) (AW (r := HY) JB F Aa Aa (Ap h_v3) h5).q fun a w F W => ?_
      refine Ax F W (Af F Aa Aa Aa Aa) Aa (Aj Aa) (Ah GR Aa Aa Aa T3 F Aa (Dd v3 + (x15).toNat * 10 + 1) Aa).q fun a w F W => ?_
      refine Ax F W (Af F Aa Aa Aa Aa) Aa (Aj Aa) (Av (y := Value.int .i64 x30.2.1) (j := 1) (i := x15) F Aa Aa (Ap h_v3) h5 JC.to T3 Aa).q fun a w F W => ?_
      refine Ax F W (Af F Aa Aa Aa Aa) Aa (Aj Aa) (DP F Aa Aa).q fun a w F W => ?_
      refine ls F W Aa (Ak F Aa Aa Aa).q fun a w F W => ?_
      refine Ae (Ab ?_)
      have W := W.frontZ (i := 5) Aa Aa
      have W := W.frontZ (i := 5) Aa Aa
      have W := W.frontZ (i := 5) Aa Aa
      have W := W.frontZ (i := 5) Aa Aa
      have W := W.frontZ (i := 5) Aa Aa
      have W := W.frontZ (i := 5) Aa Aa
      have W := W.frontM (i := 1) Aa Aa
      have W := W.frontM (i := 1) Aa Aa
      exact ⟨_, H, F.re ⟨rfl, Aa, Aa, Aa, Aa, Aa, Aa, Aa, Aa, Aa, trivial⟩, W⟩
     rintro a w ⟨x28, hj, F, W⟩
     have hj := Bg hj
     subst hj
     have H := K5
     clear G5 K5
     refine AC F Aa (fun hb => ?_) fun hb => ?_
     ·
      have H := A5 hb H
      rw [hb] at F
      clear hb
      refine Ai (Ac ?_)
      obtain ⟨x31, h6, H⟩ := Al H
      refine ls F W Aa (B3 (v := Value.bool x31) F H6 Aa (fun w W => ER any w _ h6)) fun a w F W => ?_
      refine ls F W Aa (Ag F Aa).q fun a w F W => ?_
      refine Ae (Ab (AN (AY (BX ?_))))
      iterate 2 refine AY ?_
      refine BX (AY ?_)
      have H := L4 _ H
      have H := L3 _ H
      have H := L2 _ H
      have H := Bg H
      subst H
      refine Bz (.inl Aa) F W Aa (Az F Aa) ?_
      exact ⟨rfl, W.done⟩
     have H := A6 (by rw [hb]; decide) H
     rw [hb] at F
     clear hb
     refine As (Ab (Ai (Ac ?_)))
     iterate 3 refine ls F W Aa (Ad F Aa).q fun a w F W => ?_
     obtain ⟨x32, h7, H⟩ := Al H
     refine ls F W Aa (AW (r := HY) JB F Aa Aa (Ap h_v3) h7).q fun a w F W => ?_
     refine ls F W Aa (Ah GR Aa Aa Aa T3 F Aa (Dd v3 + (x15).toNat * 10 + 1) Aa).q fun a w F W => ?_
     refine ls F W Aa (Av (y := Value.int .i64 x32.2.1) (j := 1) (i := x15) F Aa Aa (Ap h_v3) h7 JC.to T3 Aa).q fun a w F W => ?_
     refine ls F W Aa (KS F Aa Aa (by decide) Aa).q fun a w F W => ?_
     refine ls F W Aa (BE F Aa Aa Aa).q fun a w F W => ?_
     refine ls F W Aa (Ag F Aa).q fun a w F W => ?_
     refine Ae (Ab ?_)
     obtain ⟨o6, G6, K6⟩ := Al H
     refine AO (fun a w => ∃ x33 : Int, some (x33) = some o6 ∧ Fr 204 [] [(1, v3), (2, .pointer (some ⟨b1, 0, none⟩)), (4, .bool false), (5, .pointer (some ⟨b2, 0, none⟩)), (7, .int .i64 x11), (8, v10), (9, v11), (10, v12), (11, .int .i64 x15), (12, .int .i64 x33)] a ∧ Stw ⟨Y, [], w0⟩ (Dy b2 x16 v13 v14 v15 b1 p0 v1 v2) [row v10 3 (Rp.int .i64) x12, row v11 3 (Rp.int .i64) x13, row v12 4 Rp.bool x14, Be v13 Bx x17, Be v14 Cb x18, row v15 51 AB x19] w) ?_ ?_
     ·
      have H := G6
      clear G6 K6
      refine Ai (Ac ?_)
      refine ls F W Aa (Ad F Aa).q fun a w F W => ?_
      obtain ⟨x34, h8, H⟩ := Al H
      refine ls F W Aa (B3 (v := Value.int .i64 x34) F La Aa (fun w W => Dw any w b2 (v13) (v14) (v15) ((x16, x17, x18), x19) _ h8 (((CP 3 Aa) : DT _ _ _ _ _ _) w W).nx (((CP 4 Aa) : DT _ _ _ _ _ _) w W).nx (((Aw 5 Aa) : DT _ _ _ _ _ _) w W).nx (I7 W 0 Aa))) fun a w F W => ?_
      refine ls F W Aa (Ag F Aa).q fun a w F W => ?_
      refine Ae (Ab ?_)
      refine AO (fun a w => Fr 204 [] [(1, v3), (2, .pointer (some ⟨b1, 0, none⟩)), (4, .bool false), (5, .pointer (some ⟨b2, 0, none⟩)), (7, .int .i64 x11), (8, v10), (9, v11), (10, v12), (11, .int .i64 x15), (12, .int .i64 (Ay (x11 + (Int.tmod x32.2.1 8)))), (13, .int .i64 x34), (83, .bool (decide (0 ≤ x34) && decide (x34 < (Ay (x11 + (Int.tmod x32.2.1 8))))))] a ∧ Stw ⟨Y, [], w0⟩ (Dy b2 x16 v13 v14 v15 b1 p0 v1 v2) [row v10 3 (Rp.int .i64) x12, row v11 3 (Rp.int .i64) x13, row v12 4 Rp.bool x14, Be v13 Bx x17, Be v14 Cb x18, row v15 51 AB x19] w) ?_ ?_
      ·
       refine Ac ?_
       refine ls F W Aa (Ad F Aa).q fun a w F W => ?_
       refine ls F W Aa (Fe F Aa Aa).q fun a w F W => ?_
       refine ls F W Aa (Ad F Aa).q fun a w F W => ?_
       rcases Bool.eq_false_or_eq_true (decide (0 ≤ x34)) with hb0 | hb0
       ·
        rw [hb0] at F
        iterate 2 refine Ax F W (Af F Aa Aa Aa Aa) Aa (Aj Aa) (Ad F Aa).q fun a w F W => ?_
        refine Ax F W (Af F Aa Aa Aa Aa) Aa (Aj Aa) (Bm F Aa Aa).q fun a w F W => ?_
        refine ls F W Aa (Am F Aa Aa Aa).q fun a w F W => ?_
        refine Ae (Ab ?_)
        exact ⟨F.re ⟨rfl, Aa, Aa, Aa, Aa, Aa, Aa, Aa, Aa, Aa, Aa, (Ev (by try rw [hb0]; all_goals simp only [Ez])), trivial⟩, W⟩
       rw [hb0] at F
       iterate 3 refine B7 F Aa Aa Aa Aa Aa Aa Aa fun a F => ?_
       refine ls F W Aa (Ak F Aa Aa Aa).q fun a w F W => ?_
       refine Ae (Ab ?_)
       exact ⟨F.re ⟨rfl, Aa, Aa, Aa, Aa, Aa, Aa, Aa, Aa, Aa, Aa, (Ev (by try rw [hb0]; all_goals simp only [Ez])), trivial⟩, W⟩
      rintro a w ⟨F, W⟩
      refine AC F Aa (fun hb => ?_) fun hb => ?_
      ·
       have H := A5 hb H
       rw [hb] at F
       clear hb
       refine Ac ?_
       refine ls F W Aa (Ad F Aa).q fun a w F W => ?_
       refine ls F W Aa (Ag F Aa).q fun a w F W => ?_
       refine Ae (Ab ?_)
       have W := W.frontZ (i := 5) Aa Aa
       have W := W.frontZ (i := 5) Aa Aa
       have W := W.frontZ (i := 5) Aa Aa
       have W := W.frontZ (i := 5) Aa Aa
       have W := W.frontZ (i := 5) Aa Aa
       have W := W.frontZ (i := 5) Aa Aa
       have W := W.frontM (i := 1) Aa Aa
       have W := W.frontM (i := 1) Aa Aa
       exact ⟨_, H, F.re ⟨rfl, Aa, Aa, Aa, Aa, Aa, Aa, Aa, Aa, Aa, trivial⟩, W⟩
      have H := A6 (by rw [hb]; decide) H
      rw [hb] at F
      clear hb
      refine As (Ab ?_)
      have W := W.frontZ (i := 5) Aa Aa
      have W := W.frontZ (i := 5) Aa Aa
      have W := W.frontZ (i := 5) Aa Aa
      have W := W.frontZ (i := 5) Aa Aa
      have W := W.frontZ (i := 5) Aa Aa
      have W := W.frontZ (i := 5) Aa Aa
      have W := W.frontM (i := 1) Aa Aa
      have W := W.frontM (i := 1) Aa Aa
      exact ⟨_, H, F.re ⟨rfl, Aa, Aa, Aa, Aa, Aa, Aa, Aa, Aa, Aa, trivial⟩, W⟩
     rintro a w ⟨x33, hj, F, W⟩
     have hj := Bg hj
     subst hj
     have H := K6
     clear G6 K6
     refine Ai (Ac ?_)
     refine ls F W Aa (Ad F Aa).q fun a w F W => ?_
     refine ls F W Aa (Ag F Aa).q fun a w F W => ?_
     refine Ae (Ab (Ai (Ac ?_)))
     iterate 2 refine ls F W Aa (Ad F Aa).q fun a w F W => ?_
     obtain ⟨x35, h9, H⟩ := Al H
     have W := W.frontZ (i := 5) Aa Aa
     have W := W.frontZ (i := 5) Aa Aa
     have W := W.frontZ (i := 5) Aa Aa
     refine BT (Ml := [(b2, [.int .i64 x16, v13, v14, v15])]) (Zl := [Be v13 Bx x17, Be v14 Cb x18, row v15 51 AB x19]) (M := [(b1, [.int .i64 p0.1, v1, v2])]) (Z := [row v10 3 (Rp.int .i64) x12, row v11 3 (Rp.int .i64) x13, row v12 4 Rp.bool x14]) (β := Value × Value × Value × Value) (rv := fun x => x.1) (MM := fun x => [(b2, [.int .i64 x35.2.1.1, x.2.1, x.2.2.1, x.2.2.2])]) (ZZ := fun x => [Be x.2.1 Bx x35.2.1.2.1, Be x.2.2.1 Cb x35.2.1.2.2, row x.2.2.2 51 AB x35.2.2, row x.1 51 AB x35.1]) F W LZ Aa Aa (fun hL => FV _ _ w b2 (v13) (v14) (v15) ((x16, x17, x18), x19) x33 _ h9 hL) fun x a w F W => ?_
     obtain ⟨v22, v23, v24, v25⟩ := x
     have W : Stw ⟨Y, [], w0⟩ [(b2, [.int .i64 x35.2.1.1, v23, v24, v25]), (b1, [.int .i64 p0.1, v1, v2])] [Be v23 Bx x35.2.1.2.1, Be v24 Cb x35.2.1.2.2, row v25 51 AB x35.2.2, row v22 51 AB x35.1, row v10 3 (Rp.int .i64) x12, row v11 3 (Rp.int .i64) x13, row v12 4 Rp.bool x14] w := W
     refine ls F W Aa (Ag F Aa).q fun a w F W => ?_
     refine Ae (Ab ?_)
     obtain ⟨o7, G7, K7⟩ := Al H
     refine AO (fun a w => ∃ x36 : List (Int × Int × Int × (Int × Int × Int × Int) × Int × Int), ∃ x37 : Int, ∃ x38 : List (Int × Int × Int × Int × Int × Int), ∃ x39 : List (Int × Int), ∃ x40 : List (Int × Int × Int × (Int × Int × Int × Int) × Int × Int), ∃ v26 : Value, ∃ v27 : Value, ∃ v28 : Value, ∃ v29 : Value, some ((x36, x37, x38, x39, x40)) = some o7 ∧ Fr 204 [] [(1, v3), (2, .pointer (some ⟨b1, 0, none⟩)), (4, .bool false), (5, .pointer (some ⟨b2, 0, none⟩)), (7, .int .i64 x33), (8, v10), (9, v11), (10, v12), (11, .int .i64 x15), (14, v26)] a ∧ Stw ⟨Y, [], w0⟩ (Dy b2 x37 v27 v28 v29 b1 p0 v1 v2) [row v10 3 (Rp.int .i64) x12, row v11 3 (Rp.int .i64) x13, row v12 4 Rp.bool x14, row v26 51 AB x36, Be v27 Bx x38, Be v28 Cb x39, row v29 51 AB x40] w) ?_ ?_
     ·
      have H := G7
      clear G7 K7
      refine Ai (Ac ?_)
      iterate 2 refine ls F W Aa (Ad F Aa).q fun a w F W => ?_
      obtain ⟨x41, h10, H⟩ := Al H
      refine ls F W Aa (AW (r := HY) JB F Aa Aa (Ap h_v3) h10).q fun a w F W => ?_
      refine ls F W Aa (Ah GR Aa Aa Aa T3 F Aa (Dd v3 + (x15).toNat * 10) Aa).q fun a w F W => ?_
      refine ls F W Aa (Av (y := Value.int .i64 x41.1) (j := 0) (i := x15) F Aa Aa (Ap h_v3) h10 JC.to T3 Aa).q fun a w F W => ?_
      refine ls F W Aa (Cm F Aa Aa).q fun a w F W => ?_
      refine Ae (Ab ?_)
      refine AC F Aa (fun hb => ?_) fun hb => ?_
      ·
       have H := A5 (BJ hb) H
       rw [hb] at F
       clear hb
       refine Ai (Ac ?_)
       iterate 4 refine ls F W Aa (Ad F Aa).q fun a w F W => ?_
       obtain ⟨x42, h11, H⟩ := Al H
       refine ls F W Aa (AW (r := HY) JB F Aa Aa (Ap h_v3) h11).q fun a w F W => ?_
       refine ls F W Aa (Ah GR Aa Aa Aa T3 F Aa (Dd v3 + (x15).toNat * 10 + 5) Aa).q fun a w F W => ?_
       refine ls F W Aa (Av (y := Value.int .i64 x42.2.2.2.2.2.1) (j := 5) (i := x15) F Aa Aa (Ap h_v3) h11 JC.to T3 Aa).q fun a w F W => ?_
       obtain ⟨x43, h12, H⟩ := Al H
       have W := W.frontZ (i := 2) Aa Aa
       have W := W.frontZ (i := 2) Aa Aa
       have W := W.frontZ (i := 2) Aa Aa
       refine BT (Ml := [(b2, [.int .i64 x35.2.1.1, v23, v24, v25])]) (Zl := [Be v23 Bx x35.2.1.2.1, Be v24 Cb x35.2.1.2.2, row v25 51 AB x35.2.2]) (M := [(b1, [.int .i64 p0.1, v1, v2])]) (Z := [row v22 51 AB x35.1, row v10 3 (Rp.int .i64) x12, row v11 3 (Rp.int .i64) x13, row v12 4 Rp.bool x14]) (β := Value × Value × Value) (rv := fun x => .tuple #[.agg #[.int .i64 x43.1.1, .int .i64 x43.1.2.1, .int .i64 x43.1.2.2.1, .int .i64 x43.1.2.2.2.1.1, .int .i64 x43.1.2.2.2.1.2.1, .int .i64 x43.1.2.2.2.1.2.2.1, .int .i64 x43.1.2.2.2.1.2.2.2, .int .i64 x43.1.2.2.2.2.1, .int .i64 x43.1.2.2.2.2.2], .int .i64 x43.2.1]) (MM := fun x => [(b2, [.int .i64 x43.2.2.1.1, x.1, x.2.1, x.2.2])]) (ZZ := fun x => [Be x.1 Bx x43.2.2.1.2.1, Be x.2.1 Cb x43.2.2.1.2.2, row x.2.2 51 AB x43.2.2.2]) F W KQ Aa Aa (fun hL => DB _ _ w b2 (v23) (v24) (v25) x35.2 x33 x42.2.2.2.2.2.1 _ h12 hL) fun x a w F W => ?_
       obtain ⟨v30, v31, v32⟩ := x
       have W : Stw ⟨Y, [], w0⟩ [(b2, [.int .i64 x43.2.2.1.1, v30, v31, v32]), (b1, [.int .i64 p0.1, v1, v2])] [Be v30 Bx x43.2.2.1.2.1, Be v31 Cb x43.2.2.1.2.2, row v32 51 AB x43.2.2.2, row v22 51 AB x35.1, row v10 3 (Rp.int .i64) x12, row v11 3 (Rp.int .i64) x13, row v12 4 Rp.bool x14] w := W
       refine ls F W Aa (Ad F Aa).q fun a w F W => ?_
       refine ls F W Aa (AU (v := Value.agg #[.int .i64 x43.1.1, .int .i64 x43.1.2.1, .int .i64 x43.1.2.2.1, .int .i64 x43.1.2.2.2.1.1, .int .i64 x43.1.2.2.2.1.2.1, .int .i64 x43.1.2.2.2.1.2.2.1, .int .i64 x43.1.2.2.2.1.2.2.2, .int .i64 x43.1.2.2.2.2.1, .int .i64 x43.1.2.2.2.2.2]) F Aa Aa).q fun a w F W => ?_
       refine ls F W Aa (AU (v := Value.int .i64 x43.2.1) F Aa Aa).q fun a w F W => ?_
       refine BZ (cs := (CD)) F W Aa Hg Aa fun b3 a w F W => ?_
       refine Bl (vs := (Hd x43)) (M' := [(b3, (Hd x43)), (b2, [.int .i64 x43.2.2.1.1, v30, v31, v32]), (b1, [.int .i64 p0.1, v1, v2])]) 0 F W Aa Aa Aa Dk Aa Aa Aa Aa Aa fun w W => ?_
       refine ls F W Aa (Ag F Aa).q fun a w F W => ?_
       refine Ae (Ab (Ai (Ac ?_)))
       refine ls F W Aa (Ad F Aa).q fun a w F W => ?_
       refine ls F W Aa (Cm F Aa Aa).q fun a w F W => ?_
       refine Ae (Ab ?_)
       refine AC F Aa (fun hb => ?_) fun hb => ?_
       ·
        have H := A5 (BJ hb) H
        rw [hb] at F
        clear hb
        refine Ac ?_
        refine ls F W Aa (Ad F Aa).q fun a w F W => ?_
        refine ls F W Aa (Ao (v := Value.agg #[.int .i64 x43.1.1, .int .i64 x43.1.2.1, .int .i64 x43.1.2.2.1, .int .i64 x43.1.2.2.2.1.1, .int .i64 x43.1.2.2.2.1.2.1, .int .i64 x43.1.2.2.2.1.2.2.1, .int .i64 x43.1.2.2.2.1.2.2.2, .int .i64 x43.1.2.2.2.2.1, .int .i64 x43.1.2.2.2.2.2]) 0 F Aa Aa Dk Aa).q fun a w F W => ?_
        refine EU (z := Value.agg #[.int .i64 0, .int .i64 0, .int .i64 0, .int .i64 0, .int .i64 0, .int .i64 0, .int .i64 0, .int .i64 0, .int .i64 0]) (cs := (Hd x43)) AB ([x43.1] : List (Int × Int × Int × (Int × Int × Int × Int) × Int × Int)) F W Aa Ea Hg Aa Aa Aa Aa Aa Aa (EM.repL _ _ ([x43.1] : List (Int × Int × Int × (Int × Int × Int × Int) × Int × Int))) fun v33 a w F W => ?_
        obtain ⟨x44, h13, H⟩ := Al H
        refine C9 (r := AB) (i := 4) F W Aa Ea Aa Aa Aa Aa (DN W 0 Aa) h13 Aa fun v34 a w F W => ?_
        have W : Stw ⟨Y, [], w0⟩ [(b3, (Hd x43)), (b2, [.int .i64 x43.2.2.1.1, v30, v31, v32]), (b1, [.int .i64 p0.1, v1, v2])] [row v34 51 AB x44, row v33 51 AB ([x43.1] : List (Int × Int × Int × (Int × Int × Int × Int) × Int × Int)), Be v30 Bx x43.2.2.1.2.1, Be v31 Cb x43.2.2.1.2.2, row v32 51 AB x43.2.2.2, row v10 3 (Rp.int .i64) x12, row v11 3 (Rp.int .i64) x13, row v12 4 Rp.bool x14] w := W
        refine ls F W Aa (Ag F Aa).q fun a w F W => ?_
        refine Ae (Ab ?_)
        have W := W.frontZ (i := 4) Aa Aa
        have W := W.frontZ (i := 4) Aa Aa
        have W := W.frontZ (i := 4) Aa Aa
        have W := W.frontZ (i := 3) Aa Aa
        have W := W.frontZ (i := 7) Aa Aa
        have W := W.frontZ (i := 7) Aa Aa
        have W := W.frontZ (i := 7) Aa Aa
        have W := W.frontM (i := 2) Aa Aa
        have W := W.frontM (i := 2) Aa Aa
        have W := W.sub (M' := [(b2, [.int .i64 x43.2.2.1.1, v30, v31, v32]), (b1, [.int .i64 p0.1, v1, v2])]) (Z' := [row v10 3 (Rp.int .i64) x12, row v11 3 (Rp.int .i64) x13, row v12 4 Rp.bool x14, row v34 51 AB x44, Be v30 Bx x43.2.2.1.2.1, Be v31 Cb x43.2.2.1.2.2, row v32 51 AB x43.2.2.2]) (List.Sublist.cons_cons _ (List.Sublist.cons_cons _ (List.nil_sublist _))) (List.Sublist.cons_cons _ (List.Sublist.cons_cons _ (List.Sublist.cons_cons _ (List.Sublist.cons_cons _ (List.Sublist.cons_cons _ (List.Sublist.cons_cons _ (List.Sublist.cons_cons _ (List.nil_sublist _))))))))
        exact ⟨_, _, _, _, _, (v34), (v30), (v31), (v32), H, F.re ⟨rfl, Aa, Aa, Aa, Aa, Aa, Aa, Aa, Aa, Aa, trivial⟩, W⟩
       have H := A6 (BK hb) H
       rw [hb] at F
       clear hb
       refine As (Ab ?_)
       have W := W.frontZ (i := 2) Aa Aa
       have W := W.frontZ (i := 2) Aa Aa
       have W := W.frontZ (i := 2) Aa Aa
       have W := W.frontZ (i := 3) Aa Aa
       have W := W.frontZ (i := 6) Aa Aa
       have W := W.frontZ (i := 6) Aa Aa
       have W := W.frontZ (i := 6) Aa Aa
       have W := W.frontM (i := 2) Aa Aa
       have W := W.frontM (i := 2) Aa Aa
       have W := W.sub (M' := [(b2, [.int .i64 x43.2.2.1.1, v30, v31, v32]), (b1, [.int .i64 p0.1, v1, v2])]) (Z' := [row v10 3 (Rp.int .i64) x12, row v11 3 (Rp.int .i64) x13, row v12 4 Rp.bool x14, row v22 51 AB x35.1, Be v30 Bx x43.2.2.1.2.1, Be v31 Cb x43.2.2.1.2.2, row v32 51 AB x43.2.2.2]) (List.Sublist.cons_cons _ (List.Sublist.cons_cons _ (List.nil_sublist _))) (List.Sublist.refl _)
       exact ⟨_, _, _, _, _, (v22), (v30), (v31), (v32), H, F.re ⟨rfl, Aa, Aa, Aa, Aa, Aa, Aa, Aa, Aa, Aa, trivial⟩, W⟩
      have H := A6 (BK hb) H
      rw [hb] at F
      clear hb
      refine As (Ab ?_)
      have W := W.frontZ (i := 2) Aa Aa
      have W := W.frontZ (i := 2) Aa Aa
      have W := W.frontZ (i := 2) Aa Aa
      have W := W.frontZ (i := 3) Aa Aa
      have W := W.frontZ (i := 6) Aa Aa
      have W := W.frontZ (i := 6) Aa Aa
      have W := W.frontZ (i := 6) Aa Aa
      have W := W.frontM (i := 1) Aa Aa
      have W := W.frontM (i := 1) Aa Aa
      exact ⟨_, _, _, _, _, (v22), (v23), (v24), (v25), H, F.re ⟨rfl, Aa, Aa, Aa, Aa, Aa, Aa, Aa, Aa, Aa, trivial⟩, W⟩
     rintro a w ⟨x36, x37, x38, x39, x40, v26, v27, v28, v29, hj, F, W⟩
     have hj := Bg hj
     subst hj
     have H := K7
     clear G7 K7
     obtain ⟨o8, G8, K8, L8⟩ := Jh H
     refine AO (fun a w => ∃ x45 : List Bool, some (Sum.inl x45) = some o8 ∧ Fr 204 [] [(1, v3), (2, .pointer (some ⟨b1, 0, none⟩)), (4, .bool false), (5, .pointer (some ⟨b2, 0, none⟩)), (7, .int .i64 x33), (8, v10), (9, v11), (10, v12), (11, .int .i64 x15)] a ∧ Stw ⟨Y, [], w0⟩ (Dy b2 x37 v27 v28 v29 b1 p0 v1 v2) [row v10 3 (Rp.int .i64) x12, row v11 3 (Rp.int .i64) x13, row v12 4 Rp.bool x45, Be v27 Bx x38, Be v28 Cb x39, row v29 51 AB x40] w) ?_ ?_
     ·
      have H := G8
      clear G8 K8
      refine Ai (Ac ?_)
      refine ls F W Aa (Ag F Aa).q fun a w F W => ?_
      refine Ae (Ab (AA ?_))
      have W := W.frontZ (i := 6) Aa Aa
      have W := W.frontZ (i := 6) Aa Aa
      have W := W.frontZ (i := 6) Aa Aa
      have W := W.frontZ (i := 6) Aa Aa
      have W := W.frontZ (i := 6) Aa Aa
      have W := W.frontZ (i := 6) Aa Aa
      have W := W.frontZ (i := 6) Aa Aa
      have W := W.frontM (i := 1) Aa Aa
      have W := W.frontM (i := 1) Aa Aa
      refine BG H (fun s a w => Fr 204 [] [(1, v3), (2, .pointer (some ⟨b1, 0, none⟩)), (4, .bool false), (5, .pointer (some ⟨b2, 0, none⟩)), (7, .int .i64 x33), (8, v10), (9, v11), (10, v12), (11, .int .i64 x15), (14, v26), (17, .int .i64 s.2)] a ∧ Stw ⟨Y, [], w0⟩ (Dy b2 x37 v27 v28 v29 b1 p0 v1 v2) [row v10 3 (Rp.int .i64) x12, row v11 3 (Rp.int .i64) x13, row v12 4 Rp.bool s.1, row v26 51 AB x36, Be v27 Bx x38, Be v28 Cb x39, row v29 51 AB x40] w) ⟨F.re ⟨rfl, Aa, Aa, Aa, Aa, Aa, Aa, Aa, Aa, Aa, Aa, trivial⟩, W⟩ fun s o a w H L9 hR => ?_
      obtain ⟨x46, x47⟩ := s
      obtain ⟨F, W⟩ := hR
      have F : Fr 204 [] [(1, v3), (2, .pointer (some ⟨b1, 0, none⟩)), (4, .bool false), (5, .pointer (some ⟨b2, 0, none⟩)), (7, .int .i64 x33), (8, v10), (9, v11), (10, v12), (11, .int .i64 x15), (14, v26), (17, .int .i64 x47)] a := F
      have W : Stw ⟨Y, [], w0⟩ (Dy b2 x37 v27 v28 v29 b1 p0 v1 v2) [row v10 3 (Rp.int .i64) x12, row v11 3 (Rp.int .i64) x13, row v12 4 Rp.bool x46, row v26 51 AB x36, Be v27 Bx x38, Be v28 Cb x39, row v29 51 AB x40] w := W
      rw [Cy] at H
      refine Ai (Ai (Ac ?_))
      iterate 2 refine ls F W Aa (Ad F Aa).q fun a w F W => ?_
      refine ls F W Aa (Cp (r := AB) (l := x36) Gf Aa F Aa (Aw 3 Aa)).q fun a w F W => ?_
      refine ls F W Aa (Bm F Aa Aa).q fun a w F W => ?_
      refine Ae (Ab ?_)
      refine AC F Aa (fun hb => ?_) fun hb => ?_
      ·
       have H := A5 (BJ hb) H
       rw [hb] at F
       clear hb
       refine As (Ab (Ai (AA (Ai (Ac ?_)))))
       iterate 2 refine ls F W Aa (Ad F Aa).q fun a w F W => ?_
       obtain ⟨x48, h14, H⟩ := Al H
       refine ls F W Aa (AW (r := AB) Ea F Aa Aa (Aw 3 Aa) h14).q fun a w F W => ?_
       refine ls F W Aa (Ah Ge Aa Aa Aa T3 F Aa (Dd v26 + (x47).toNat * 9) Aa).q fun a w F W => ?_
       refine ls F W Aa (Av (y := Value.int .i64 x48.1) (j := 0) (i := x47) F Aa Aa (Aw 3 Aa) h14 EM.to T3 Aa).q fun a w F W => ?_
       refine ls F W Aa (Ag F Aa).q fun a w F W => ?_
       refine Ae (Ab (Ai ?_))
       obtain ⟨o10, G10, K10⟩ := Al H
       refine AO (fun a w => ∃ x49 : Bool, some (x49) = some o10 ∧ Fr 204 [] [(1, v3), (2, .pointer (some ⟨b1, 0, none⟩)), (4, .bool false), (5, .pointer (some ⟨b2, 0, none⟩)), (7, .int .i64 x33), (8, v10), (9, v11), (10, v12), (11, .int .i64 x15), (14, v26), (17, .int .i64 x47), (18, .int .i64 x48.1), (155, .bool x49)] a ∧ Stw ⟨Y, [], w0⟩ (Dy b2 x37 v27 v28 v29 b1 p0 v1 v2) [row v10 3 (Rp.int .i64) x12, row v11 3 (Rp.int .i64) x13, row v12 4 Rp.bool x46, row v26 51 AB x36, Be v27 Bx x38, Be v28 Cb x39, row v29 51 AB x40] w) ?_ ?_
       ·
        have H := G10
        clear G10 K10
        refine CB W MO (by kernel_rfl) ?_
        refine qs F Aa (Ad F Aa).q fun a F => ?_
        refine qs F Aa (Bm F Aa Aa).q fun a F => ?_
        refine qs F Aa (Ad F Aa).q fun a F => ?_
        rcases Bool.eq_false_or_eq_true (decide (x48.1 < 0)) with hb | hb
        ·
         have H := A5 (BJ hb) H
         rw [hb] at F
         clear hb
         iterate 4 refine Ee F (Dp F Aa Aa Aa Aa Aa) Aa Aa fun a F => ?_
         refine qs F Aa (Am F Aa Aa Aa).q fun a F => ?_
         refine qs F Aa (Ad F Aa).q fun a F => ?_
         iterate 4 refine Ee F (Dp F Aa Aa Aa Aa Aa) Aa Aa fun a F => ?_
         refine qs F Aa (Am F Aa Aa Aa).q fun a F => ?_
         refine qs F Aa (Ad F Aa).q fun a F => ?_
         iterate 17 refine Ee F (Dp F Aa Aa Aa Aa Aa) Aa Aa fun a F => ?_
         refine qs F Aa (Am F Aa Aa Aa).q fun a F => ?_
         refine BL fun w W => ?_
         refine Ab ?_
         have W := W.frontZ (i := 6) Aa Aa
         have W := W.frontZ (i := 6) Aa Aa
         have W := W.frontZ (i := 6) Aa Aa
         have W := W.frontZ (i := 6) Aa Aa
         have W := W.frontZ (i := 6) Aa Aa
         have W := W.frontZ (i := 6) Aa Aa
         have W := W.frontZ (i := 6) Aa Aa
         have W := W.frontM (i := 1) Aa Aa
         have W := W.frontM (i := 1) Aa Aa
         exact ⟨_, H, F.re ⟨rfl, Aa, Aa, Aa, Aa, Aa, Aa, Aa, Aa, Aa, Aa, Aa, Aa, trivial⟩, W⟩
        have H := A6 (BK hb) H
        rw [hb] at F
        clear hb
        iterate 2 refine Cw F (Af F Aa Aa Aa Aa) Aa (Aj Aa) (Ad F Aa).q fun a F => ?_
        refine Cw F (Af F Aa Aa Aa Aa) Aa (Aj Aa) (Cp (r := (Rp.int .i64)) (l := x12) Kh Aa F Aa (Aw 0 Aa)).q fun a F => ?_
        refine Cw F (Af F Aa Aa Aa Aa) Aa (Aj Aa) (Fe F Aa Aa).q fun a F => ?_
        refine qs F Aa (Ak F Aa Aa Aa).q fun a F => ?_
        refine qs F Aa (Ad F Aa).q fun a F => ?_
        rcases Bool.eq_false_or_eq_true (decide ((x12.length : Int) ≤ x48.1)) with hb | hb
        ·
         have H := A5 (BJ hb) H
         rw [hb] at F
         clear hb
         iterate 4 refine Ee F (Dp F Aa Aa Aa Aa Aa) Aa Aa fun a F => ?_
         refine qs F Aa (Am F Aa Aa Aa).q fun a F => ?_
         refine qs F Aa (Ad F Aa).q fun a F => ?_
         iterate 17 refine Ee F (Dp F Aa Aa Aa Aa Aa) Aa Aa fun a F => ?_
         refine qs F Aa (Am F Aa Aa Aa).q fun a F => ?_
         refine BL fun w W => ?_
         refine Ab ?_
         have W := W.frontZ (i := 6) Aa Aa
         have W := W.frontZ (i := 6) Aa Aa
         have W := W.frontZ (i := 6) Aa Aa
         have W := W.frontZ (i := 6) Aa Aa
         have W := W.frontZ (i := 6) Aa Aa
         have W := W.frontZ (i := 6) Aa Aa
         have W := W.frontZ (i := 6) Aa Aa
         have W := W.frontM (i := 1) Aa Aa
         have W := W.frontM (i := 1) Aa Aa
         exact ⟨_, H, F.re ⟨rfl, Aa, Aa, Aa, Aa, Aa, Aa, Aa, Aa, Aa, Aa, Aa, Aa, trivial⟩, W⟩
        have H := A6 (BK hb) H
        rw [hb] at F
        clear hb
        iterate 2 refine Cw F (Af F Aa Aa Aa Aa) Aa (Aj Aa) (Ad F Aa).q fun a F => ?_
        obtain ⟨x50, h15, H⟩ := Al H
        refine Cw F (Af F Aa Aa Aa Aa) Aa (Aj Aa) (AW (r := Rp.bool) K0 F Aa Aa (Aw 2 Aa) h15).q fun a F => ?_
        refine Cw F (Af F Aa Aa Aa Aa) Aa (Aj Aa) (Av (y := Value.bool x50) (j := 0) (i := x48.1) F Aa Aa (Aw 2 Aa) h15 Fl.bool.to T4 Aa).q fun a F => ?_
        refine qs F Aa (Ak F Aa Aa Aa).q fun a F => ?_
        refine qs F Aa (Ad F Aa).q fun a F => ?_
        rcases Bool.eq_false_or_eq_true x50 with hb | hb
        ·
         have H := A5 hb H
         rw [hb] at F
         clear hb
         iterate 17 refine Ee F (Dp F Aa Aa Aa Aa Aa) Aa Aa fun a F => ?_
         refine qs F Aa (Am F Aa Aa Aa).q fun a F => ?_
         refine BL fun w W => ?_
         refine Ab ?_
         have W := W.frontZ (i := 6) Aa Aa
         have W := W.frontZ (i := 6) Aa Aa
         have W := W.frontZ (i := 6) Aa Aa
         have W := W.frontZ (i := 6) Aa Aa
         have W := W.frontZ (i := 6) Aa Aa
         have W := W.frontZ (i := 6) Aa Aa
         have W := W.frontZ (i := 6) Aa Aa
         have W := W.frontM (i := 1) Aa Aa
         have W := W.frontM (i := 1) Aa Aa
         exact ⟨_, H, F.re ⟨rfl, Aa, Aa, Aa, Aa, Aa, Aa, Aa, Aa, Aa, Aa, Aa, Aa, trivial⟩, W⟩
        have H := A6 (by rw [hb]; decide) H
        rw [hb] at F
        clear hb
        refine Cw F (Af F Aa Aa Aa Aa) Aa (Aj Aa) (Ao (v := Value.agg #[.int .i64 p0.1, v1, v2]) 1 F Aa Aa IB Aa).q fun a F => ?_
        iterate 2 refine Cw F (Af F Aa Aa Aa Aa) Aa (Aj Aa) (Ad F Aa).q fun a F => ?_
        obtain ⟨x51, h16, H⟩ := Al H
        refine Cw F (Af F Aa Aa Aa Aa) Aa (Aj Aa) (AW (r := AB) Ea F Aa Aa (Aw 3 Aa) h16).q fun a F => ?_
        refine Cw F (Af F Aa Aa Aa Aa) Aa (Aj Aa) (Av (y := Value.agg #[.int .i64 x51.1, .int .i64 x51.2.1, .int .i64 x51.2.2.1, .int .i64 x51.2.2.2.1.1, .int .i64 x51.2.2.2.1.2.1, .int .i64 x51.2.2.2.1.2.2.1, .int .i64 x51.2.2.2.1.2.2.2, .int .i64 x51.2.2.2.2.1, .int .i64 x51.2.2.2.2.2]) (j := 0) (i := x47) F Aa Aa (Aw 3 Aa) h16 EM.to Dk Aa).q fun a F => ?_
        iterate 2 refine Cw F (Af F Aa Aa Aa Aa) Aa (Aj Aa) (Ad F Aa).q fun a F => ?_
        obtain ⟨x52, h17, H⟩ := Al H
        refine Cw F (Af F Aa Aa Aa Aa) Aa (Aj Aa) (AW (r := (Rp.int .i64)) KA F Aa Aa (Aw 1 Aa) h17).q fun a F => ?_
        refine Cw F (Af F Aa Aa Aa Aa) Aa (Aj Aa) (Av (y := Value.int .i64 x52) (j := 0) (i := x48.1) F Aa Aa (Aw 1 Aa) h17 Fl.int.to T3 Aa).q fun a F => ?_
        iterate 3 refine Cw F (Af F Aa Aa Aa Aa) Aa (Aj Aa) (Ad F Aa).q fun a F => ?_
        obtain ⟨x53, h18, H⟩ := Al H
        refine Cw F (Af F Aa Aa Aa Aa) Aa (Aj Aa) (AW (r := (Rp.int .i64)) KA F Aa Aa (Aw 0 Aa) h18).q fun a F => ?_
        refine Cw F (Af F Aa Aa Aa Aa) Aa (Aj Aa) (Av (y := Value.int .i64 x53) (j := 0) (i := x48.1) F Aa Aa (Aw 0 Aa) h18 Fl.int.to T3 Aa).q fun a F => ?_
        refine Cw F (Af F Aa Aa Aa Aa) Aa (Aj Aa) (CT F Aa Aa Aa).q fun a F => ?_
        obtain ⟨x54, h19, H⟩ := Al H
        refine Cw F (Af F Aa Aa Aa Aa) Aa (Aj Aa) (B3 (v := Value.bool x54) F Mz Aa (fun w W => H4 any w (v1) (v2) p0 x51 x52 (Ay (x33 - x53)) _ h19 (((Ap h_v1) : DT _ _ _ _ _ _) w W).nx (((Ap h_v2) : DT _ _ _ _ _ _) w W).nx)) fun a F => ?_
        refine Cw F (Af F Aa Aa Aa Aa) Aa (Aj Aa) (Fc F Aa).q fun a F => ?_
        refine qs F Aa (Ak F Aa Aa Aa).q fun a F => ?_
        refine BL fun w W => ?_
        refine Ab ?_
        have W := W.frontZ (i := 6) Aa Aa
        have W := W.frontZ (i := 6) Aa Aa
        have W := W.frontZ (i := 6) Aa Aa
        have W := W.frontZ (i := 6) Aa Aa
        have W := W.frontZ (i := 6) Aa Aa
        have W := W.frontZ (i := 6) Aa Aa
        have W := W.frontZ (i := 6) Aa Aa
        have W := W.frontM (i := 1) Aa Aa
        have W := W.frontM (i := 1) Aa Aa
        exact ⟨_, H, F.re ⟨rfl, Aa, Aa, Aa, Aa, Aa, Aa, Aa, Aa, Aa, Aa, Aa, Aa, trivial⟩, W⟩
       rintro a w ⟨x49, hj, F, W⟩
       have hj := Bg hj
       subst hj
       have H := K10
       clear G10 K10
       refine AC F Aa (fun hb => ?_) fun hb => ?_
       ·
        have H := A5 hb H
        rw [hb] at F
        clear hb
        refine Ai (Ac ?_)
        refine ls F W Aa (Ag F Aa).q fun a w F W => ?_
        refine Ae (Ab (AN (AY (BX ?_))))
        iterate 2 refine AY ?_
        refine BX (AY (BX ?_))
        iterate 2 refine AY ?_
        refine BX (AY ?_)
        have H := L9 _ H
        have H := L8 _ H
        have H := L4 _ H
        have H := L3 _ H
        have H := L2 _ H
        have H := Bg H
        subst H
        refine Bz (.inl Aa) F W Aa (Az F Aa) ?_
        exact ⟨rfl, W.done⟩
       have H := A6 (by rw [hb]; decide) H
       rw [hb] at F
       clear hb
       refine As (Ab (Ac ?_))
       iterate 2 refine ls F W Aa (Ad F Aa).q fun a w F W => ?_
       obtain ⟨x55, h20, H⟩ := Al H
       refine ls F W Aa (AW (r := Rp.bool) K0 F Aa Aa (Aw 2 Aa) h20).q fun a w F W => ?_
       refine CF (i := x48.1) (j := 0) (vs := [.bool true]) (x' := true) F W Aa Aa Aa (k := 2) Aa Aa h20 T4 Aa Aa Aa Aa (fun A cs _ => Fl.bool.sto (by rfl) _ _ _) fun w W => ?_
       refine Ae (AZ (Ab (Ac ?_)))
       refine ls F W Aa (Ad F Aa).q fun a w F W => ?_
       refine ls F W Aa (BE F Aa Aa Aa).q fun a w F W => ?_
       refine ls F W Aa (Ag F Aa).q fun a w F W => ?_
       refine Ae (Ab ?_)
       have W := W.frontZ (i := 6) Aa Aa
       have W := W.frontZ (i := 6) Aa Aa
       have W := W.frontZ (i := 6) Aa Aa
       have W := W.frontZ (i := 6) Aa Aa
       have W := W.frontZ (i := 4) Aa Aa
       have W := W.frontZ (i := 6) Aa Aa
       have W := W.frontZ (i := 6) Aa Aa
       have W := W.frontM (i := 1) Aa Aa
       have W := W.frontM (i := 1) Aa Aa
       exact ⟨_, H, F.re ⟨rfl, Aa, Aa, Aa, Aa, Aa, Aa, Aa, Aa, Aa, Aa, trivial⟩, W⟩
      have H := A6 (BK hb) H
      rw [hb] at F
      clear hb
      refine BF ?_
      iterate 2 refine Cf ?_
      refine BI (Ab ?_)
      have W := W.frontZ (i := 6) Aa Aa
      have W := W.frontZ (i := 6) Aa Aa
      have W := W.frontZ (i := 6) Aa Aa
      have W := W.frontZ (i := 5) Aa Aa
      have W := W.frontZ (i := 5) Aa Aa
      have W := W.frontZ (i := 5) Aa Aa
      have W := W.frontM (i := 1) Aa Aa
      have W := W.frontM (i := 1) Aa Aa
      have W := W.sub (M' := (Dy b2 x37 v27 v28 v29 b1 p0 v1 v2)) (Z' := [row v10 3 (Rp.int .i64) x12, row v11 3 (Rp.int .i64) x13, row v12 4 Rp.bool x46, Be v27 Bx x38, Be v28 Cb x39, row v29 51 AB x40]) (List.Sublist.refl _) (List.Sublist.cons_cons _ (List.Sublist.cons_cons _ (List.Sublist.cons_cons _ (List.Sublist.cons_cons _ (List.Sublist.cons_cons _ (List.Sublist.cons_cons _ (List.nil_sublist _)))))))
      have H := L9 _ H
      exact ⟨_, H, F.re ⟨rfl, Aa, Aa, Aa, Aa, Aa, Aa, Aa, Aa, trivial⟩, W⟩
     rintro a w ⟨x45, hj, F, W⟩
     have H := K8 _ hj
     clear hj G8 K8 L8
     obtain ⟨o11, G11, K11⟩ := Al H
     refine AO (fun a w => ∃ x56 : Bool, ∃ x57 : Int, ∃ x58 : List (Int × Int × Int × Int × Int × Int), ∃ x59 : List (Int × Int), ∃ x60 : List (Int × Int × Int × (Int × Int × Int × Int) × Int × Int), ∃ v35 : Value, ∃ v36 : Value, ∃ v37 : Value, some ((x56, x57, x58, x59, x60)) = some o11 ∧ Fr 204 [] [(1, v3), (2, .pointer (some ⟨b1, 0, none⟩)), (4, .bool false), (5, .pointer (some ⟨b2, 0, none⟩)), (7, .int .i64 x33), (8, v10), (9, v11), (10, v12), (11, .int .i64 x15), (187, .bool x56)] a ∧ Stw ⟨Y, [], w0⟩ (Dy b2 x57 v35 v36 v37 b1 p0 v1 v2) [row v10 3 (Rp.int .i64) x12, row v11 3 (Rp.int .i64) x13, row v12 4 Rp.bool x45, Be v35 Bx x58, Be v36 Cb x59, row v37 51 AB x60] w) ?_ ?_
     ·
      have H := G11
      clear G11 K11
      refine HL 26 W MO (by kernel_rfl) ?_
      iterate 2 refine qs F Aa (Ad F Aa).q fun a F => ?_
      obtain ⟨x61, h21, H⟩ := Al H
      refine qs F Aa (AW (r := HY) JB F Aa Aa (Ap h_v3) h21).q fun a F => ?_
      refine qs F Aa (Ah GR Aa Aa Aa T3 F Aa (Dd v3 + (x15).toNat * 10) Aa).q fun a F => ?_
      refine qs F Aa (Av (y := Value.int .i64 x61.1) (j := 0) (i := x15) F Aa Aa (Ap h_v3) h21 JC.to T3 Aa).q fun a F => ?_
      refine qs F Aa (Bm F Aa Aa).q fun a F => ?_
      refine qs F Aa (Ad F Aa).q fun a F => ?_
      rcases Bool.eq_false_or_eq_true (decide (x61.1 < 3)) with hb | hb
      ·
       have H := A5 (BJ hb) H
       rw [hb] at F
       clear hb
       iterate 4 refine Cw F (Af F Aa Aa Aa Aa) Aa (Aj Aa) (Ad F Aa).q fun a F => ?_
       obtain ⟨x62, h22, H⟩ := Al H
       refine Cw F (Af F Aa Aa Aa Aa) Aa (Aj Aa) (AW (r := HY) JB F Aa Aa (Ap h_v3) h22).q fun a F => ?_
       refine Cw F (Af F Aa Aa Aa Aa) Aa (Aj Aa) (Ah GR Aa Aa Aa T3 F Aa (Dd v3 + (x15).toNat * 10 + 2) Aa).q fun a F => ?_
       refine Cw F (Af F Aa Aa Aa Aa) Aa (Aj Aa) (Av (y := Value.int .i64 x62.2.2.1) (j := 2) (i := x15) F Aa Aa (Ap h_v3) h22 JC.to T3 Aa).q fun a F => ?_
       iterate 2 refine Cw F (Af F Aa Aa Aa Aa) Aa (Aj Aa) (Ad F Aa).q fun a F => ?_
       obtain ⟨x63, h23, H⟩ := Al H
       refine Cw F (Af F Aa Aa Aa Aa) Aa (Aj Aa) (AW (r := HY) JB F Aa Aa (Ap h_v3) h23).q fun a F => ?_
       refine Cw F (Af F Aa Aa Aa Aa) Aa (Aj Aa) (Ah GR Aa Aa Aa T3 F Aa (Dd v3 + (x15).toNat * 10 + 3) Aa).q fun a F => ?_
       refine Cw F (Af F Aa Aa Aa Aa) Aa (Aj Aa) (Av (y := Value.int .i64 x63.2.2.2.1) (j := 3) (i := x15) F Aa Aa (Ap h_v3) h23 JC.to T3 Aa).q fun a F => ?_
       refine Cw F (Af F Aa Aa Aa Aa) Aa (Aj Aa) (Ad F Aa).q fun a F => ?_
       refine Cw F (Af F Aa Aa Aa Aa) Aa (Aj Aa) (Cp (r := (Rp.int .i64)) (l := x12) Kh Aa F Aa (Aw 0 Aa)).q fun a F => ?_
       iterate 2 refine Cw F (Af F Aa Aa Aa Aa) Aa (Aj Aa) (Ad F Aa).q fun a F => ?_
       obtain ⟨x64, h24, H⟩ := Al H
       refine Cw F (Af F Aa Aa Aa Aa) Aa (Aj Aa) (AW (r := HY) JB F Aa Aa (Ap h_v3) h24).q fun a F => ?_
       refine Cw F (Af F Aa Aa Aa Aa) Aa (Aj Aa) (Ah GR Aa Aa Aa Lp F Aa (Dd v3 + (x15).toNat * 10 + 6) Aa).q fun a F => ?_
       refine Cw F (Af F Aa Aa Aa Aa) Aa (Aj Aa) (Av (y := Value.agg #[.int .i64 x64.2.2.2.2.2.2.1, .int .i64 x64.2.2.2.2.2.2.2.1, .int .i64 x64.2.2.2.2.2.2.2.2.1, .int .i64 x64.2.2.2.2.2.2.2.2.2]) (j := 6) (i := x15) F Aa Aa (Ap h_v3) h24 JC.to Lp Aa).q fun a F => ?_
       refine BL fun w W => ?_
       refine IM (Af F Aa Aa Aa Aa) ?_
       obtain ⟨x65, h25, H⟩ := Al H
       have W := W.frontZ (i := 5) Aa Aa
       have W := W.frontZ (i := 5) Aa Aa
       have W := W.frontZ (i := 5) Aa Aa
       refine BT (Ml := [(b2, [.int .i64 x37, v27, v28, v29])]) (Zl := [Be v27 Bx x38, Be v28 Cb x39, row v29 51 AB x40]) (M := [(b1, [.int .i64 p0.1, v1, v2])]) (Z := [row v10 3 (Rp.int .i64) x12, row v11 3 (Rp.int .i64) x13, row v12 4 Rp.bool x45]) (β := Value × Value × Value) (rv := fun x => .int .i64 x65.1) (MM := fun x => [(b2, [.int .i64 x65.2.1.1, x.1, x.2.1, x.2.2])]) (ZZ := fun x => [Be x.1 Bx x65.2.1.2.1, Be x.2.1 Cb x65.2.1.2.2, row x.2.2 51 AB x65.2.2]) F W LB Aa Aa (fun hL => Er _ _ w b2 (v27) (v28) (v29) ((x37, x38, x39), x40) x33 x62.2.2.1 x63.2.2.2.1 (x12.length : Int) x64.2.2.2.2.2.2 _ h25 hL) fun x a w F W => ?_
       obtain ⟨v38, v39, v40⟩ := x
       have W : Stw ⟨Y, [], w0⟩ [(b2, [.int .i64 x65.2.1.1, v38, v39, v40]), (b1, [.int .i64 p0.1, v1, v2])] [Be v38 Bx x65.2.1.2.1, Be v39 Cb x65.2.1.2.2, row v40 51 AB x65.2.2, row v10 3 (Rp.int .i64) x12, row v11 3 (Rp.int .i64) x13, row v12 4 Rp.bool x45] w := W
       refine Ax F W (Af F Aa Aa Aa Aa) Aa (Aj Aa) (Cm F Aa Aa).q fun a w F W => ?_
       refine ls F W Aa (Am F Aa Aa Aa).q fun a w F W => ?_
       refine Ae (Ab ?_)
       have W := W.frontZ (i := 2) Aa Aa
       have W := W.frontZ (i := 2) Aa Aa
       have W := W.frontZ (i := 2) Aa Aa
       have W := W.frontZ (i := 5) Aa Aa
       have W := W.frontZ (i := 5) Aa Aa
       have W := W.frontZ (i := 5) Aa Aa
       have W := W.frontM (i := 1) Aa Aa
       have W := W.frontM (i := 1) Aa Aa
       exact ⟨_, _, _, _, _, (v38), (v39), (v40), H, F.re ⟨rfl, Aa, Aa, Aa, Aa, Aa, Aa, Aa, Aa, Aa, trivial⟩, W⟩
      have H := A6 (BK hb) H
      rw [hb] at F
      clear hb
      iterate 19 refine Ee F (Dp F Aa Aa Aa Aa Aa) Aa Aa fun a F => ?_
      refine BL fun w W => ?_
      iterate 2 refine B7 F Aa Aa Aa Aa Aa Aa Aa fun a F => ?_
      refine ls F W Aa (Ak F Aa Aa Aa).q fun a w F W => ?_
      refine Ae (Ab ?_)
      have W := W.frontZ (i := 5) Aa Aa
      have W := W.frontZ (i := 5) Aa Aa
      have W := W.frontZ (i := 5) Aa Aa
      have W := W.frontZ (i := 5) Aa Aa
      have W := W.frontZ (i := 5) Aa Aa
      have W := W.frontZ (i := 5) Aa Aa
      have W := W.frontM (i := 1) Aa Aa
      have W := W.frontM (i := 1) Aa Aa
      exact ⟨_, _, _, _, _, (v27), (v28), (v29), H, F.re ⟨rfl, Aa, Aa, Aa, Aa, Aa, Aa, Aa, Aa, Aa, trivial⟩, W⟩
     rintro a w ⟨x56, x57, x58, x59, x60, v35, v36, v37, hj, F, W⟩
     have hj := Bg hj
     subst hj
     have H := K11
     clear G11 K11
     refine AC F Aa (fun hb => ?_) fun hb => ?_
     ·
      have H := A5 hb H
      rw [hb] at F
      clear hb
      refine Ai (Ac ?_)
      iterate 2 refine ls F W Aa (Ad F Aa).q fun a w F W => ?_
      refine EU (z := Value.int .i64 0) (cs := [.int .i64 x33]) (Rp.int .i64) ([x33] : List Int) F W Aa KA Z3 Aa Aa Aa Aa Aa Aa (Fl.int.repL _ _ ([x33] : List Int)) fun v41 a w F W => ?_
      obtain ⟨x66, h26, H⟩ := Al H
      refine C9 (r := (Rp.int .i64)) (i := 1) F W Aa KA Aa Aa Aa Aa (DN W 0 Aa) h26 Aa fun v42 a w F W => ?_
      have W : Stw ⟨Y, [], w0⟩ (Dy b2 x57 v35 v36 v37 b1 p0 v1 v2) [row v42 3 (Rp.int .i64) x66, row v41 3 (Rp.int .i64) ([x33] : List Int), row v11 3 (Rp.int .i64) x13, row v12 4 Rp.bool x45, Be v35 Bx x58, Be v36 Cb x59, row v37 51 AB x60] w := W
      refine ls F W Aa (Ag F Aa).q fun a w F W => ?_
      refine Ae (Ab (Ai (Ac ?_)))
      iterate 3 refine ls F W Aa (Ad F Aa).q fun a w F W => ?_
      obtain ⟨x67, h27, H⟩ := Al H
      refine ls F W Aa (AW (r := HY) JB F Aa Aa (Ap h_v3) h27).q fun a w F W => ?_
      refine ls F W Aa (Ah GR Aa Aa Aa T3 F Aa (Dd v3 + (x15).toNat * 10 + 2) Aa).q fun a w F W => ?_
      refine ls F W Aa (Av (y := Value.int .i64 x67.2.2.1) (j := 2) (i := x15) F Aa Aa (Ap h_v3) h27 JC.to T3 Aa).q fun a w F W => ?_
      refine EU (z := Value.int .i64 0) (cs := [.int .i64 x67.2.2.1]) (Rp.int .i64) ([x67.2.2.1] : List Int) F W Aa KA Z3 Aa Aa Aa Aa Aa Aa (Fl.int.repL _ _ ([x67.2.2.1] : List Int)) fun v43 a w F W => ?_
      obtain ⟨x68, h28, H⟩ := Al H
      refine C9 (r := (Rp.int .i64)) (i := 3) F W Aa KA Aa Aa Aa Aa (DN W 0 Aa) h28 Aa fun v44 a w F W => ?_
      have W : Stw ⟨Y, [], w0⟩ (Dy b2 x57 v35 v36 v37 b1 p0 v1 v2) [row v44 3 (Rp.int .i64) x68, row v43 3 (Rp.int .i64) ([x67.2.2.1] : List Int), row v42 3 (Rp.int .i64) x66, row v41 3 (Rp.int .i64) ([x33] : List Int), row v12 4 Rp.bool x45, Be v35 Bx x58, Be v36 Cb x59, row v37 51 AB x60] w := W
      refine ls F W Aa (Ag F Aa).q fun a w F W => ?_
      refine Ae (Ab (Ac ?_))
      refine ls F W Aa (Ad F Aa).q fun a w F W => ?_
      refine EU (z := Value.bool false) (cs := [.bool false]) Rp.bool ([false] : List Bool) F W Aa K0 Z4 Aa Aa Aa Aa Aa Aa (Fl.bool.repL _ _ ([false] : List Bool)) fun v45 a w F W => ?_
      obtain ⟨x69, h29, H⟩ := Al H
      refine C9 (r := Rp.bool) (i := 5) F W Aa K0 Aa Aa Aa Aa (DN W 0 Aa) h29 Aa fun v46 a w F W => ?_
      have W : Stw ⟨Y, [], w0⟩ (Dy b2 x57 v35 v36 v37 b1 p0 v1 v2) [row v46 4 Rp.bool x69, row v45 4 Rp.bool ([false] : List Bool), row v44 3 (Rp.int .i64) x68, row v43 3 (Rp.int .i64) ([x67.2.2.1] : List Int), row v42 3 (Rp.int .i64) x66, row v41 3 (Rp.int .i64) ([x33] : List Int), Be v35 Bx x58, Be v36 Cb x59, row v37 51 AB x60] w := W
      refine ls F W Aa (Ag F Aa).q fun a w F W => ?_
      refine Ae (AZ (Ab ?_))
      have W := W.frontZ (i := 8) Aa Aa
      have W := W.frontZ (i := 8) Aa Aa
      have W := W.frontZ (i := 8) Aa Aa
      have W := W.frontZ (i := 3) Aa Aa
      have W := W.frontZ (i := 5) Aa Aa
      have W := W.frontZ (i := 7) Aa Aa
      have W := W.frontM (i := 1) Aa Aa
      have W := W.frontM (i := 1) Aa Aa
      have W := W.sub (M' := (Dy b2 x57 v35 v36 v37 b1 p0 v1 v2)) (Z' := [row v42 3 (Rp.int .i64) x66, row v44 3 (Rp.int .i64) x68, row v46 4 Rp.bool x69, Be v35 Bx x58, Be v36 Cb x59, row v37 51 AB x60]) (List.Sublist.refl _) (List.Sublist.cons_cons _ (List.Sublist.cons_cons _ (List.Sublist.cons_cons _ (List.Sublist.cons_cons _ (List.Sublist.cons_cons _ (List.Sublist.cons_cons _ (List.nil_sublist _)))))))
      exact ⟨_, _, _, _, _, _, _, _, (v42), (v44), (v46), (v35), (v36), (v37), H, F.re ⟨rfl, Aa, Aa, Aa, Aa, Aa, Aa, Aa, Aa, trivial⟩, W⟩
     have H := A6 (by rw [hb]; decide) H
     rw [hb] at F
     clear hb
     refine As (AZ (Ab ?_))
     have W := W.frontZ (i := 5) Aa Aa
     have W := W.frontZ (i := 5) Aa Aa
     have W := W.frontZ (i := 5) Aa Aa
     have W := W.frontZ (i := 5) Aa Aa
     have W := W.frontZ (i := 5) Aa Aa
     have W := W.frontZ (i := 5) Aa Aa
     have W := W.frontM (i := 1) Aa Aa
     have W := W.frontM (i := 1) Aa Aa
     exact ⟨_, _, _, _, _, _, _, _, (v10), (v11), (v12), (v35), (v36), (v37), H, F.re ⟨rfl, Aa, Aa, Aa, Aa, Aa, Aa, Aa, Aa, trivial⟩, W⟩
    rintro a w ⟨x20, x21, x22, x23, x24, x25, x26, x27, v16, v17, v18, v19, v20, v21, hj, F, W⟩
    have H := K4 _ hj
    clear hj G4 K4 L4
    refine Ac ?_
    refine ls F W Aa (Ad F Aa).q fun a w F W => ?_
    refine ls F W Aa (BE F Aa Aa Aa).q fun a w F W => ?_
    refine ls F W Aa (Ag F Aa).q fun a w F W => ?_
    refine Ae (Ab ?_)
    have W := W.frontZ (i := 5) Aa Aa
    have W := W.frontZ (i := 5) Aa Aa
    have W := W.frontZ (i := 5) Aa Aa
    have W := W.frontZ (i := 5) Aa Aa
    have W := W.frontZ (i := 5) Aa Aa
    have W := W.frontZ (i := 5) Aa Aa
    have W := W.frontM (i := 1) Aa Aa
    have W := W.frontM (i := 1) Aa Aa
    exact ⟨_, H, (v16), (v17), (v18), (v19), (v20), (v21), F.re ⟨rfl, Aa, Aa, Aa, Aa, Aa, Aa, Aa, Aa, trivial⟩, W⟩
   have H := A6 (by rw [hb]; decide) H
   rw [hb] at F
   clear hb
   refine BF ?_
   iterate 2 refine Cf ?_
   refine BI (Ab ?_)
   have W := W.frontZ (i := 5) Aa Aa
   have W := W.frontZ (i := 5) Aa Aa
   have W := W.frontZ (i := 5) Aa Aa
   have W := W.frontM (i := 1) Aa Aa
   have W := W.frontM (i := 1) Aa Aa
   have W := W.sub (M' := (Dy b2 x16 v13 v14 v15 b1 p0 v1 v2)) (Z' := [Be v13 Bx x17, Be v14 Cb x18, row v15 51 AB x19]) (List.Sublist.refl _) (List.Sublist.cons_cons _ (List.Sublist.cons_cons _ (List.Sublist.cons_cons _ (List.nil_sublist _))))
   have H := L3 _ H
   exact ⟨_, _, _, _, (v13), (v14), (v15), H, F.re ⟨rfl, trivial⟩, W⟩
  rintro a w ⟨x7, x8, x9, x10, v7, v8, v9, hj, F, W⟩
  have H := K2 _ hj
  clear hj G2 K2 L2
  refine Ai (Ac ?_)
  obtain ⟨x70, h30, H⟩ := Al H
  refine ls F W Aa (B3 (v := Value.bool x70) F H6 Aa (fun w W => ER any w _ h30)) fun a w F W => ?_
  refine ls F W Aa (Ag F Aa).q fun a w F W => ?_
  refine Ae (Ab (AN ?_))
  have H := Bg H
  subst H
  refine Bz (.inl Aa) F W Aa (Az F Aa) ?_
  exact ⟨rfl, W.done⟩
 have H := KL H
 refine BT (Ml := []) (Zl := []) (M := [(b1, [.int .i64 p0.1, v1, v2])]) (Z := []) (β := Unit) (rv := fun x => .tuple #[.pointer none, .int .i64 2]) (MM := fun x => []) (ZZ := fun x => []) F W H7 Aa Aa (fun hL => EI _ w (v1) (v2) p0 _ h3 (W.old s_v1) ((Ap h_v2) w W).nx) fun x a w F W => ?_
 have W : Stw ⟨Y, [], w0⟩ [(b1, [.int .i64 p0.1, v1, v2])] [] w := W
 refine ls F W Aa (Ad F Aa).q fun a w F W => ?_
 refine ls F W Aa (AU (v := Value.pointer none) F Aa Aa).q fun a w F W => ?_
 refine ls F W Aa (AU (v := Value.int .i64 2) F Aa Aa).q fun a w F W => ?_
 iterate 2 refine ls F W Aa (Ag F Aa).q fun a w F W => ?_
 refine Ae (Ab (Ai (Ai (Ac ?_))))
 refine ls F W Aa (Ad F Aa).q fun a w F W => ?_
 refine ls F W Aa (G0 F Aa Aa).q fun a w F W => ?_
 rw [show decide ((2 : Int) ≠ 0) = true from by decide] at F
 refine Ae (Ab ?_)
 refine D6 F Aa ?_
 refine Ai (Ac ?_)
 refine ls F W Aa (Ag F Aa).q fun a w F W => ?_
 refine Ae (Ab (AN (AY ?_)))
 have H := Bg H
 subst H
 refine Bz (.inl Aa) F W Aa (Az F Aa) ?_
 exact ⟨rfl, W.done⟩
end Go.Proofs.Ytemacefkdopgaaa
