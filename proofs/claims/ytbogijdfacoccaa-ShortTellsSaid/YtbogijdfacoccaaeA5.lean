/- The functions of layer 19, Gn. Conditions: none. -/
import Derived.Test.YtbogijdfacoccaaeA4
namespace Go.Proofs.Ytbogijdfacoccaa
open Go Go.RowKit
set_option linter.unusedVariables false
set_option linter.unusedSimpArgs false
set_option maxRecDepth 20000
theorem RH : Has Try.prog 14 := ⟨fun args w => Aj Try.func14 rfl (by decide) args w⟩
noncomputable def Ep (p1 : List Int) (x3 : List Int) (x4 : List Int) (x7 : Int) (x9 : (List (Int × Int × Int))) : (Int × Int) → Option ((Int × Int) ⊕ Int)
  | (x11, x12) => (if 0 ≤ x12 then (((ix x9 x12).bind fun x15 => (F5 p1 x3 x7 x15).bind fun x16 => (if x16 = true then (ix x9 x12).bind fun x17 => (ix x4 x17.2.1).bind fun x18 => (ix x4 x7).bind fun x19 => some (decide ((BI (x18 + 1)) = x19)) else some false)).bind fun x14 => (if x14 = true then (ix x9 x12).bind fun x20 => some x20.1 else some x11)).bind fun x13 => some (.inl (x13, BI (x12 - 1))) else some (.inr x11))
noncomputable def Ev (p0 : Int × (List (Int × Int × Int × Int × Int × Int)) × (List (Int × Int))) (p1 : List Int) (p2 : Int) (x2 : Int × Int) (x3 : List Int) (x4 : List Int) : (List Int × Int) → Option ((List Int × Int) ⊕ (List Int))
  | (x6, x7) => (if x7 < p0.1 then ((E8 p0 x7).bind fun x9 => (AH (Ep p1 x3 x4 x7 x9) ((-1), BI ((x9.length : Int) - 1))).bind fun x10 => (if x7 = x2.1 then (ix p0.2.2 p2).bind fun x22 => some x22.2 else some x10).bind fun x21 => (Hz x6 ([x21] : List Int)).bind fun x23 => some x23).bind fun x8 => some (.inl (x8, BI (x7 + 1))) else some (.inr x6))
noncomputable def Ee (p0 : Int × (List (Int × Int × Int × Int × Int × Int)) × (List (Int × Int))) (p1 : List Int) (p2 : Int) : Option (List Int × Int) := (D5 p0 p1).bind fun x1 => (if (!x1) = true then some (([] : List Int), 2) else (if (decide (p2 < 0) || decide ((p0.2.2.length : Int) ≤ p2)) = true then some (([] : List Int), 7) else (ix p0.2.2 p2).bind fun x2 => (CQ p0 p1 x2.1).bind fun x3 => (DW p0 p1 x2.1).bind fun x4 => (AH (Ev p0 p1 p2 x2 x3 x4) ([], 0)).bind fun x5 => some (x5, 0)))
theorem JJ (Y : Nat → Prop) (w0 : World) (v1 : Value) (v2 : Value) (v3 : Value) (p0 : Int × (List (Int × Int × Int × Int × Int × Int)) × (List (Int × Int))) (p1 : List Int) (p2 : Int) (r : List Int × Int) (H : Ee p0 p1 p2 = some r) (h_v1 : Sl w0 (NX []) Ff v1 p0.2.1) (h_v2 : Sl w0 (NX []) Fa v2 p0.2.2) (h_v3 : Sl w0 (NX []) (Rp.int .u64) v3 p1) :
    Calls Try.prog 18 #[.agg #[.int .i64 p0.1, v1, v2], v3, .int .i64 p2] w0 fun e w' => ∃ x : Value, e = .returned (.tuple #[x, .int .i64 r.2]) ∧ Stw ⟨Y, [], w0⟩ [] [row (x) 3 (Rp.int .i64) r.1] w' := by
 refine enter Try.func18 Aa Try.ntmps18 Aa fun a F => ?_
 have W := Stw.start Y w0
 unfold Ee at H
 refine Ah (Ab ?_)
 refine DO (cs := [.int .i64 p0.1, v1, v2]) F W Aa Aa Aa fun b1 a w F W => ?_
 iterate 2 refine ls F W Aa (Ad F Aa).q fun a w F W => ?_
 refine Ae (Ac (Ah (Ah (Ab ?_))))
 refine ls F W Aa (Ap (v := Value.agg #[.int .i64 p0.1, v1, v2]) 0 F Aa Aa GC Aa).q fun a w F W => ?_
 refine ls F W Aa (Af F Aa).q fun a w F W => ?_
 obtain ⟨x1, h1, H⟩ := Al H
 refine ls F W Aa (AX (v := Value.bool x1) F RT Aa (fun w W => Hh any w (v1) (v2) (v3) p0 p1 _ h1 (((Ak h_v1) : Dw _ _ _ _ _ _) w W).nx (((Ak h_v2) : Dw _ _ _ _ _ _) w W).nx (((Ak h_v3) : Dw _ _ _ _ _ _) w W).nx)) fun a w F W => ?_
 refine ls F W Aa (E6 F Aa).q fun a w F W => ?_
 refine Ae (Ac ?_)
 refine Av F Aa (fun hb => ?_) fun hb => ?_
 ·
  have H := AN hb H
  rw [hb] at F
  clear hb
  refine Ah (Ab ?_)
  iterate 2 refine ls F W Aa (Ad F Aa).q fun a w F W => ?_
  refine Ae (Ac (Ax (AL ?_)))
  have H := AP H
  subst H
  refine FK (.inl Aa) F W Aa (Au F Aa) (Au F Aa) ?_
  have W := W.nilRow 3 (Rp.int .i64)
  have W := W.sub (M' := []) (Z' := [row (Value.slice none 0 0) 3 (Rp.int .i64) ([])]) (List.nil_sublist _) (List.Sublist.refl _)
  exact ⟨(Value.slice none 0 0), Aa, W⟩
 have H := AO (by rw [hb]; decide) H
 rw [hb] at F
 clear hb
 refine Ao (Ac (Ah ?_))
 refine AE (fun a w => Fr 102 [] [(1, v3), (2, .int .i64 p2), (3, .pointer (some ⟨b1, 0, none⟩)), (6, .slice none 0 0), (7, .int .i64 0), (28, .bool (decide (p2 < 0) || decide ((p0.2.2.length : Int) ≤ p2)))] a ∧ Stw ⟨Y, [], w0⟩ [(b1, [.int .i64 p0.1, v1, v2])] [] w) ?_ ?_
 ·
  refine Ab ?_
  refine ls F W Aa (Af F Aa).q fun a w F W => ?_
  refine ls F W Aa (Bb F Aa Aa).q fun a w F W => ?_
  refine ls F W Aa (Af F Aa).q fun a w F W => ?_
  rcases Bool.eq_false_or_eq_true (decide (p2 < 0)) with hb0 | hb0
  ·
   rw [hb0] at F
   iterate 5 refine CL F Aa Aa Aa Aa Aa Aa Aa fun a F => ?_
   refine ls F W Aa (Aw F Aa Aa Aa).q fun a w F W => ?_
   refine Ae (Ac ?_)
   exact ⟨F.re ⟨rfl, Aa, Aa, Aa, Aa, (by show some (Value.bool true) = some (Value.bool (decide (p2 < 0) || decide ((p0.2.2.length : Int) ≤ p2))); try rw [hb0]; all_goals simp only [Bool.not_true, Bool.not_false, Bool.true_and, Bool.false_and, Bool.true_or, Bool.false_or, Bool.and_true, Bool.or_false, cond_true, cond_false]), trivial⟩, W⟩
  rw [hb0] at F
  refine AG F W (Ag F Aa Aa Aa Aa) Aa (Am Aa) (Af F Aa).q fun a w F W => ?_
  refine AG F W (Ag F Aa Aa Aa Aa) Aa (Am Aa) (Ai Cw Aa Aa Aa GF F Aa 2 Aa).q fun a w F W => ?_
  refine AG F W (Ag F Aa Aa Aa Aa) Aa (Am Aa) (Ap (v := v2) 0 F Aa Aa GF Aa).q fun a w F W => ?_
  refine AG F W (Ag F Aa Aa Aa Aa) Aa (Am Aa) (Bm (r := Fa) (l := p0.2.2) JU Aa F Aa (Ak h_v2)).q fun a w F W => ?_
  refine AG F W (Ag F Aa Aa Aa Aa) Aa (Am Aa) (Fk F Aa Aa).q fun a w F W => ?_
  refine ls F W Aa (Ay F Aa Aa Aa).q fun a w F W => ?_
  refine Ae (Ac ?_)
  exact ⟨F.re ⟨rfl, Aa, Aa, Aa, Aa, (by show some (Value.bool (decide ((p0.2.2.length : Int) ≤ p2))) = some (Value.bool (decide (p2 < 0) || decide ((p0.2.2.length : Int) ≤ p2))); try rw [hb0]; all_goals simp only [Bool.not_true, Bool.not_false, Bool.true_and, Bool.false_and, Bool.true_or, Bool.false_or, Bool.and_true, Bool.or_false, cond_true, cond_false]), trivial⟩, W⟩
 rintro a w ⟨F, W⟩
 refine Av F Aa (fun hb => ?_) fun hb => ?_
 ·
  have H := AN hb H
  rw [hb] at F
  clear hb
  refine Ah (Ab ?_)
  iterate 2 refine ls F W Aa (Ad F Aa).q fun a w F W => ?_
  refine Ae (Ac (Ax (AL ?_)))
  have H := AP H
  subst H
  refine FK (.inl Aa) F W Aa (Au F Aa) (Au F Aa) ?_
  have W := W.nilRow 3 (Rp.int .i64)
  have W := W.sub (M' := []) (Z' := [row (Value.slice none 0 0) 3 (Rp.int .i64) ([])]) (List.nil_sublist _) (List.Sublist.refl _)
  exact ⟨(Value.slice none 0 0), Aa, W⟩
 have H := AO (by rw [hb]; decide) H
 rw [hb] at F
 clear hb
 refine Ao (Ac (Ah (Ab ?_)))
 refine ls F W Aa (Ai Cw Aa Aa Aa GF F Aa 2 Aa).q fun a w F W => ?_
 refine ls F W Aa (Ap (v := v2) 0 F Aa Aa GF Aa).q fun a w F W => ?_
 refine ls F W Aa (Af F Aa).q fun a w F W => ?_
 obtain ⟨x2, h2, H⟩ := Al H
 refine ls F W Aa (AC (r := Fa) PU F Aa Aa (Ak h_v2) h2).q fun a w F W => ?_
 refine ls F W Aa (Ai JP Aa Aa Aa T3 F Aa (Ew v2 + (p2).toNat * 2) Aa).q fun a w F W => ?_
 refine ls F W Aa (As (y := Value.int .i64 x2.1) (j := 0) (i := p2) F Aa Aa (Ak h_v2) h2 PW.to T3 Aa).q fun a w F W => ?_
 refine ls F W Aa (Ad F Aa).q fun a w F W => ?_
 refine Ae (Ac (Ah ?_))
 refine Ii [(true, 0), (true, 1), (true, 2), (true, 4), (true, 5), (true, 6), (false, 3), (false, 7), (false, 8), (false, 9)] (CN ⟨Y, [], w0⟩ [(some 3, b1, [.int .i64 p0.1, v1, v2]), (some 7, b1, [.int .i64 p0.1, v1, v2])] []) (fun ch a d v w h => by cases d <;> exact h) MO (by kernel_rfl) W (fun w W => ⟨_, _, W, (all_cons (fun _ => (.head _)) (all_cons (fun _ => (.head _)) AF)), AF⟩) fun w W => ?_
 refine DU (R := [3]) F Aa Aa (yC fun M Z hN hZ => FF (cs := [.int .i64 p0.1, v1, v2]) (v := Value.agg #[.int .i64 p0.1, v1, v2]) F Aa (hN ((some 3), b1, [.int .i64 p0.1, v1, v2]) (.head _) Aa) GC Aa) (by kernel_rfl) Aa fun a F => ?_
 iterate 2 refine DU (R := []) F Aa Aa (yC fun M Z hN hZ => Af F Aa) Aa Aa fun a F => ?_
 refine DU (R := [7]) F Aa Aa (yC fun M Z hN hZ => FF (cs := [.int .i64 p0.1, v1, v2]) (v := Value.agg #[.int .i64 p0.1, v1, v2]) F Aa (hN ((some 7), b1, [.int .i64 p0.1, v1, v2]) (.tail _ (.head _)) Aa) GC Aa) (by kernel_rfl) Aa fun a F => ?_
 iterate 2 refine DU (R := []) F Aa Aa (yC fun M Z hN hZ => Af F Aa) Aa Aa fun a F => ?_
 refine GD Aa ?_
 obtain ⟨x3, h3, H⟩ := Al H
 refine Bi (Ml := []) (Zl := []) (M := [(b1, [.int .i64 p0.1, v1, v2])]) (Z := []) (β := Value) (rv := fun x => x) (MM := fun x => []) (ZZ := fun x => [row x 59 (Rp.int .u64) x3]) F W RV Aa Aa (fun hL => GY _ w (v1) (v2) (v3) p0 p1 x2.1 _ h3 ((Ak h_v1) w W).nx ((Ak h_v2) w W).nx ((Ak h_v3) w W).nx) fun x a w F W => ?_
 obtain ⟨v4, rfl⟩ : ∃ y, y = x := ⟨x, rfl⟩
 have W : Stw ⟨Y, [], w0⟩ [(b1, [.int .i64 p0.1, v1, v2])] [row v4 59 (Rp.int .u64) x3] w := W
 refine CK (N2 := []) (NZ2 := []) (N3 := [(some 3, b1, [.int .i64 p0.1, v1, v2]), (some 7, b1, [.int .i64 p0.1, v1, v2])]) (NZ3 := []) W Aa Aa (all_cons (fun h => AU (by kernel_rfl) h) (all_cons (fun _ => (.head _)) AF)) AF ?_
 refine GD Aa ?_
 obtain ⟨x4, h4, H⟩ := Al H
 refine Bi (Ml := []) (Zl := []) (M := [(b1, [.int .i64 p0.1, v1, v2])]) (Z := [row v4 59 (Rp.int .u64) x3]) (β := Value) (rv := fun x => x) (MM := fun x => []) (ZZ := fun x => [row x 3 (Rp.int .i64) x4]) F W Sn Aa Aa (fun hL => Jb _ w (v1) (v2) (v3) p0 p1 x2.1 _ h4 ((Ak h_v1) w W).nx ((Ak h_v2) w W).nx ((Ak h_v3) w W).nx) fun x a w F W => ?_
 obtain ⟨v5, rfl⟩ : ∃ y, y = x := ⟨x, rfl⟩
 have W : Stw ⟨Y, [], w0⟩ [(b1, [.int .i64 p0.1, v1, v2])] [row v5 3 (Rp.int .i64) x4, row v4 59 (Rp.int .u64) x3] w := W
 refine CK (N2 := []) (NZ2 := []) (N3 := [(some 3, b1, [.int .i64 p0.1, v1, v2]), (some 7, b1, [.int .i64 p0.1, v1, v2])]) (NZ3 := []) W Aa Aa (all_cons (fun h => AU (by kernel_rfl) h) (all_cons (fun h => AU (by kernel_rfl) h) AF)) AF ?_
 refine GD Aa ?_
 refine ls F W Aa (Ad F Aa).q fun a w F W => ?_
 refine CK (N2 := []) (NZ2 := []) (N3 := [(some 3, b1, [.int .i64 p0.1, v1, v2]), (some 7, b1, [.int .i64 p0.1, v1, v2])]) (NZ3 := []) W Aa Aa (all_cons (fun h => AU (by kernel_rfl) h) (all_cons (fun h => AU (by kernel_rfl) h) AF)) AF ?_
 refine GD Aa ?_
 refine ls F W Aa (Ad F Aa).q fun a w F W => ?_
 refine CK (N2 := []) (NZ2 := []) (N3 := [(some 3, b1, [.int .i64 p0.1, v1, v2]), (some 7, b1, [.int .i64 p0.1, v1, v2])]) (NZ3 := []) W Aa Aa (all_cons (fun h => AU (by kernel_rfl) h) (all_cons (fun h => AU (by kernel_rfl) h) AF)) AF ?_
 refine Jx (Ac (Ah (Ab ?_)))
 refine ls F W Aa (Ad F Aa).q fun a w F W => ?_
 refine Ae (Ac ?_)
 obtain ⟨o1, G1, K1⟩ := Al H
 refine AE (fun a w => ∃ x5 : List Int, ∃ v6 : Value, some (x5) = some o1 ∧ Fr 102 [] [(6, .slice none 0 0), (7, .int .i64 0), (11, v6)] a ∧ Stw ⟨Y, [], w0⟩ [(b1, [.int .i64 p0.1, v1, v2])] [row v6 3 (Rp.int .i64) x5] w) ?_ ?_
 ·
  have H := G1
  clear G1 K1
  refine Ah (Ab ?_)
  refine ls F W Aa (Ad F Aa).q fun a w F W => ?_
  refine Ae (Ac (Aq ?_))
  have W := W.nilRow 3 (Rp.int .i64)
  have W := W.frontZ (i := 1) Aa Aa
  have W := W.frontZ (i := 2) Aa Aa
  refine A4 H (fun s a w => ∃ v7 : Value, Fr 102 [] [(1, v3), (2, .int .i64 p2), (3, .pointer (some ⟨b1, 0, none⟩)), (6, .slice none 0 0), (7, .int .i64 0), (8, .int .i64 x2.1), (9, v4), (10, v5), (11, v7), (12, .int .i64 s.2)] a ∧ Stw ⟨Y, [], w0⟩ [(b1, [.int .i64 p0.1, v1, v2])] [row v4 59 (Rp.int .u64) x3, row v5 3 (Rp.int .i64) x4, row v7 3 (Rp.int .i64) s.1] w) ⟨(Value.slice none 0 0), F.re ⟨rfl, Aa, Aa, Aa, Aa, Aa, Aa, Aa, Aa, Aa, trivial⟩, W⟩ fun s o a w H L2 hR => ?_
  obtain ⟨x6, x7⟩ := s
  obtain ⟨v7, F, W⟩ := hR
  have F : Fr 102 [] [(1, v3), (2, .int .i64 p2), (3, .pointer (some ⟨b1, 0, none⟩)), (6, .slice none 0 0), (7, .int .i64 0), (8, .int .i64 x2.1), (9, v4), (10, v5), (11, v7), (12, .int .i64 x7)] a := F
  have W : Stw ⟨Y, [], w0⟩ [(b1, [.int .i64 p0.1, v1, v2])] [row v4 59 (Rp.int .u64) x3, row v5 3 (Rp.int .i64) x4, row v7 3 (Rp.int .i64) x6] w := W
  rw [Ev] at H
  refine Ah (Ah (Ab ?_))
  refine ls F W Aa (Af F Aa).q fun a w F W => ?_
  refine ls F W Aa (Ai Cw Aa Aa Aa T3 F Aa 0 Aa).q fun a w F W => ?_
  refine ls F W Aa (Ap (v := Value.int .i64 p0.1) 0 F Aa Aa T3 Aa).q fun a w F W => ?_
  refine ls F W Aa (Bb F Aa Aa).q fun a w F W => ?_
  refine Ae (Ac ?_)
  refine Av F Aa (fun hb => ?_) fun hb => ?_
  ·
   have H := AN (Bd hb) H
   rw [hb] at F
   clear hb
   refine Ao (Ac ?_)
   obtain ⟨o3, G3, K3⟩ := Al H
   refine AE (fun a w => ∃ x8 : List Int, ∃ v8 : Value, some (x8) = some o3 ∧ Fr 102 [] [(1, v3), (2, .int .i64 p2), (3, .pointer (some ⟨b1, 0, none⟩)), (6, .slice none 0 0), (7, .int .i64 0), (8, .int .i64 x2.1), (9, v4), (10, v5), (11, v8), (12, .int .i64 x7)] a ∧ Stw ⟨Y, [], w0⟩ [(b1, [.int .i64 p0.1, v1, v2])] [row v4 59 (Rp.int .u64) x3, row v5 3 (Rp.int .i64) x4, row v8 3 (Rp.int .i64) x8] w) ?_ ?_
   ·
    have H := G3
    clear G3 K3
    refine Aq (Ah (Ab ?_))
    refine ls F W Aa (Ad F Aa).q fun a w F W => ?_
    refine Ae (Ac (Ah (Ab ?_)))
    refine ls F W Aa (Ap (v := Value.agg #[.int .i64 p0.1, v1, v2]) 0 F Aa Aa GC Aa).q fun a w F W => ?_
    refine ls F W Aa (Af F Aa).q fun a w F W => ?_
    obtain ⟨x9, h5, H⟩ := Al H
    refine Bi (Ml := []) (Zl := []) (M := [(b1, [.int .i64 p0.1, v1, v2])]) (Z := [row v4 59 (Rp.int .u64) x3, row v5 3 (Rp.int .i64) x4, row v7 3 (Rp.int .i64) x6]) (β := Value) (rv := fun x => x) (MM := fun x => []) (ZZ := fun x => [row x 79 Gd x9]) F W Se Aa Aa (fun hL => HE _ w (v1) (v2) p0 x7 _ h5 ((Ak h_v1) w W).nx ((Ak h_v2) w W).nx) fun x a w F W => ?_
    obtain ⟨v9, rfl⟩ : ∃ y, y = x := ⟨x, rfl⟩
    have W : Stw ⟨Y, [], w0⟩ [(b1, [.int .i64 p0.1, v1, v2])] [row v9 79 Gd x9, row v4 59 (Rp.int .u64) x3, row v5 3 (Rp.int .i64) x4, row v7 3 (Rp.int .i64) x6] w := W
    refine ls F W Aa (Ad F Aa).q fun a w F W => ?_
    refine Ae (Ac ?_)
    obtain ⟨o4, G4, K4⟩ := Al H
    refine AE (fun a w => ∃ x10 : Int, some (x10) = some o4 ∧ Fr 102 [] [(1, v3), (2, .int .i64 p2), (3, .pointer (some ⟨b1, 0, none⟩)), (6, .slice none 0 0), (7, .int .i64 0), (8, .int .i64 x2.1), (9, v4), (10, v5), (11, v7), (12, .int .i64 x7), (13, .int .i64 x10)] a ∧ Stw ⟨Y, [], w0⟩ [(b1, [.int .i64 p0.1, v1, v2])] [row v4 59 (Rp.int .u64) x3, row v5 3 (Rp.int .i64) x4, row v7 3 (Rp.int .i64) x6] w) ?_ ?_
    ·
     have H := G4
     clear G4 K4
     refine Ah (Ab ?_)
     refine ls F W Aa (Af F Aa).q fun a w F W => ?_
     refine ls F W Aa (Bm (r := Gd) (l := x9) P9 Aa F Aa (An 0 Aa)).q fun a w F W => ?_
     refine ls F W Aa (FJ F Aa Aa Aa).q fun a w F W => ?_
     refine ls F W Aa (Ad F Aa).q fun a w F W => ?_
     refine Ae (Ac (Aq ?_))
     have W := W.frontZ (i := 3) Aa Aa
     have W := W.frontZ (i := 3) Aa Aa
     have W := W.frontZ (i := 3) Aa Aa
     refine A4 H (fun s a w => Fr 102 [] [(1, v3), (2, .int .i64 p2), (3, .pointer (some ⟨b1, 0, none⟩)), (6, .slice none 0 0), (7, .int .i64 0), (8, .int .i64 x2.1), (9, v4), (10, v5), (11, v7), (12, .int .i64 x7), (13, .int .i64 s.1), (14, v9), (15, .int .i64 s.2)] a ∧ Stw ⟨Y, [], w0⟩ [(b1, [.int .i64 p0.1, v1, v2])] [row v4 59 (Rp.int .u64) x3, row v5 3 (Rp.int .i64) x4, row v7 3 (Rp.int .i64) x6, row v9 79 Gd x9] w) ⟨F.re ⟨rfl, Aa, Aa, Aa, Aa, Aa, Aa, Aa, Aa, Aa, Aa, Aa, Aa, trivial⟩, W⟩ fun s o a w H L5 hR => ?_
     obtain ⟨x11, x12⟩ := s
     obtain ⟨F, W⟩ := hR
     have F : Fr 102 [] [(1, v3), (2, .int .i64 p2), (3, .pointer (some ⟨b1, 0, none⟩)), (6, .slice none 0 0), (7, .int .i64 0), (8, .int .i64 x2.1), (9, v4), (10, v5), (11, v7), (12, .int .i64 x7), (13, .int .i64 x11), (14, v9), (15, .int .i64 x12)] a := F
     have W : Stw ⟨Y, [], w0⟩ [(b1, [.int .i64 p0.1, v1, v2])] [row v4 59 (Rp.int .u64) x3, row v5 3 (Rp.int .i64) x4, row v7 3 (Rp.int .i64) x6, row v9 79 Gd x9] w := W
     rw [Ep] at H
     refine Ah (Ah (Ab ?_))
     refine ls F W Aa (Af F Aa).q fun a w F W => ?_
     refine ls F W Aa (Fk F Aa Aa).q fun a w F W => ?_
     refine Ae (Ac ?_)
     refine Av F Aa (fun hb => ?_) fun hb => ?_
     ·
      have H := AN (Bd hb) H
      rw [hb] at F
      clear hb
      refine Ao (Ac ?_)
      obtain ⟨o6, G6, K6⟩ := Al H
      refine AE (fun a w => ∃ x13 : Int, some (x13) = some o6 ∧ Fr 102 [] [(1, v3), (2, .int .i64 p2), (3, .pointer (some ⟨b1, 0, none⟩)), (6, .slice none 0 0), (7, .int .i64 0), (8, .int .i64 x2.1), (9, v4), (10, v5), (11, v7), (12, .int .i64 x7), (13, .int .i64 x13), (14, v9), (15, .int .i64 x12)] a ∧ Stw ⟨Y, [], w0⟩ [(b1, [.int .i64 p0.1, v1, v2])] [row v4 59 (Rp.int .u64) x3, row v5 3 (Rp.int .i64) x4, row v7 3 (Rp.int .i64) x6, row v9 79 Gd x9] w) ?_ ?_
      ·
       have H := G6
       clear G6 K6
       refine Aq ?_
       obtain ⟨o7, G7, K7⟩ := Al H
       refine AE (fun a w => ∃ x14 : Bool, some (x14) = some o7 ∧ Fr 102 [] [(1, v3), (2, .int .i64 p2), (3, .pointer (some ⟨b1, 0, none⟩)), (6, .slice none 0 0), (7, .int .i64 0), (8, .int .i64 x2.1), (9, v4), (10, v5), (11, v7), (12, .int .i64 x7), (13, .int .i64 x11), (14, v9), (15, .int .i64 x12), (82, .bool x14)] a ∧ Stw ⟨Y, [], w0⟩ [(b1, [.int .i64 p0.1, v1, v2])] [row v4 59 (Rp.int .u64) x3, row v5 3 (Rp.int .i64) x4, row v7 3 (Rp.int .i64) x6, row v9 79 Gd x9] w) ?_ ?_
       ·
        have H := G7
        clear G7 K7
        refine Cb W MO (by kernel_rfl) ?_
        iterate 5 refine qs F Aa (Af F Aa).q fun a F => ?_
        obtain ⟨x15, h6, H⟩ := Al H
        refine qs F Aa (AC (r := Gd) Qq F Aa Aa (An 3 Aa) h6).q fun a F => ?_
        refine qs F Aa (As (y := Value.agg #[.int .i64 x15.1, .int .i64 x15.2.1, .int .i64 x15.2.2]) (j := 0) (i := x12) F Aa Aa (An 3 Aa) h6 Qt.to Su Aa).q fun a F => ?_
        obtain ⟨x16, h7, H⟩ := Al H
        refine qs F Aa (AX (v := Value.bool x16) F Sk Aa (fun w W => J3 any w (v3) (v4) p1 x3 x7 x15 _ h7 (((Ak h_v3) : Dw _ _ _ _ _ _) w W).nx (((An 0 Aa) : Dw _ _ _ _ _ _) w W).nx)) fun a F => ?_
        refine qs F Aa (Af F Aa).q fun a F => ?_
        rcases Bool.eq_false_or_eq_true x16 with hb | hb
        ·
         have H := AN hb H
         rw [hb] at F
         clear hb
         iterate 3 refine Bu F (Ag F Aa Aa Aa Aa) Aa (Am Aa) (Af F Aa).q fun a F => ?_
         obtain ⟨x17, h8, H⟩ := Al H
         refine Bu F (Ag F Aa Aa Aa Aa) Aa (Am Aa) (AC (r := Gd) Qq F Aa Aa (An 3 Aa) h8).q fun a F => ?_
         refine Bu F (Ag F Aa Aa Aa Aa) Aa (Am Aa) (Ai Lh Aa Aa Aa T3 F Aa (Ew v9 + (x12).toNat * 3 + 1) Aa).q fun a F => ?_
         refine Bu F (Ag F Aa Aa Aa Aa) Aa (Am Aa) (As (y := Value.int .i64 x17.2.1) (j := 1) (i := x12) F Aa Aa (An 3 Aa) h8 Qt.to T3 Aa).q fun a F => ?_
         obtain ⟨x18, h9, H⟩ := Al H
         refine Bu F (Ag F Aa Aa Aa Aa) Aa (Am Aa) (AC (r := (Rp.int .i64)) Fi F Aa Aa (An 1 Aa) h9).q fun a F => ?_
         refine Bu F (Ag F Aa Aa Aa Aa) Aa (Am Aa) (As (y := Value.int .i64 x18) (j := 0) (i := x17.2.1) F Aa Aa (An 1 Aa) h9 Fl.int.to T3 Aa).q fun a F => ?_
         refine Bu F (Ag F Aa Aa Aa Aa) Aa (Am Aa) (Bw F Aa Aa Aa).q fun a F => ?_
         iterate 2 refine Bu F (Ag F Aa Aa Aa Aa) Aa (Am Aa) (Af F Aa).q fun a F => ?_
         obtain ⟨x19, h10, H⟩ := Al H
         refine Bu F (Ag F Aa Aa Aa Aa) Aa (Am Aa) (AC (r := (Rp.int .i64)) Fi F Aa Aa (An 1 Aa) h10).q fun a F => ?_
         refine Bu F (Ag F Aa Aa Aa Aa) Aa (Am Aa) (As (y := Value.int .i64 x19) (j := 0) (i := x7) F Aa Aa (An 1 Aa) h10 Fl.int.to T3 Aa).q fun a F => ?_
         refine Bu F (Ag F Aa Aa Aa Aa) Aa (Am Aa) (Cf F Aa Aa).q fun a F => ?_
         refine qs F Aa (Aw F Aa Aa Aa).q fun a F => ?_
         refine Bf fun w W => ?_
         refine Ac ?_
         have W := W.frontZ (i := 3) Aa Aa
         have W := W.frontZ (i := 3) Aa Aa
         have W := W.frontZ (i := 3) Aa Aa
         have W := W.frontZ (i := 3) Aa Aa
         exact ⟨_, H, F.re ⟨rfl, Aa, Aa, Aa, Aa, Aa, Aa, Aa, Aa, Aa, Aa, Aa, Aa, Aa, trivial⟩, W⟩
        have H := AO (by rw [hb]; decide) H
        rw [hb] at F
        clear hb
        iterate 14 refine D1 F (Cu F Aa Aa Aa Aa Aa) Aa Aa fun a F => ?_
        refine qs F Aa (Ay F Aa Aa Aa).q fun a F => ?_
        refine Bf fun w W => ?_
        refine Ac ?_
        have W := W.frontZ (i := 3) Aa Aa
        have W := W.frontZ (i := 3) Aa Aa
        have W := W.frontZ (i := 3) Aa Aa
        have W := W.frontZ (i := 3) Aa Aa
        exact ⟨_, H, F.re ⟨rfl, Aa, Aa, Aa, Aa, Aa, Aa, Aa, Aa, Aa, Aa, Aa, Aa, Aa, trivial⟩, W⟩
       rintro a w ⟨x14, hj, F, W⟩
       have hj := AP hj
       subst hj
       have H := K7
       clear G7 K7
       refine Av F Aa (fun hb => ?_) fun hb => ?_
       ·
        have H := AN hb H
        rw [hb] at F
        clear hb
        refine Ab ?_
        iterate 2 refine ls F W Aa (Af F Aa).q fun a w F W => ?_
        obtain ⟨x20, h11, H⟩ := Al H
        refine ls F W Aa (AC (r := Gd) Qq F Aa Aa (An 3 Aa) h11).q fun a w F W => ?_
        refine ls F W Aa (Ai Lh Aa Aa Aa T3 F Aa (Ew v9 + (x12).toNat * 3) Aa).q fun a w F W => ?_
        refine ls F W Aa (As (y := Value.int .i64 x20.1) (j := 0) (i := x12) F Aa Aa (An 3 Aa) h11 Qt.to T3 Aa).q fun a w F W => ?_
        refine ls F W Aa (Ad F Aa).q fun a w F W => ?_
        refine Ae (AK (Ac ?_))
        have W := W.frontZ (i := 3) Aa Aa
        have W := W.frontZ (i := 3) Aa Aa
        have W := W.frontZ (i := 3) Aa Aa
        have W := W.frontZ (i := 3) Aa Aa
        exact ⟨_, H, F.re ⟨rfl, Aa, Aa, Aa, Aa, Aa, Aa, Aa, Aa, Aa, Aa, Aa, Aa, trivial⟩, W⟩
       have H := AO (by rw [hb]; decide) H
       rw [hb] at F
       clear hb
       refine Ao (AK (Ac ?_))
       have W := W.frontZ (i := 3) Aa Aa
       have W := W.frontZ (i := 3) Aa Aa
       have W := W.frontZ (i := 3) Aa Aa
       have W := W.frontZ (i := 3) Aa Aa
       exact ⟨_, H, F.re ⟨rfl, Aa, Aa, Aa, Aa, Aa, Aa, Aa, Aa, Aa, Aa, Aa, Aa, trivial⟩, W⟩
      rintro a w ⟨x13, hj, F, W⟩
      have hj := AP hj
      subst hj
      have H := K6
      clear G6 K6
      refine Ab ?_
      refine ls F W Aa (Af F Aa).q fun a w F W => ?_
      refine ls F W Aa (FJ F Aa Aa Aa).q fun a w F W => ?_
      refine ls F W Aa (Ad F Aa).q fun a w F W => ?_
      refine Ae (Ac ?_)
      have W := W.frontZ (i := 3) Aa Aa
      have W := W.frontZ (i := 3) Aa Aa
      have W := W.frontZ (i := 3) Aa Aa
      have W := W.frontZ (i := 3) Aa Aa
      exact ⟨_, H, F.re ⟨rfl, Aa, Aa, Aa, Aa, Aa, Aa, Aa, Aa, Aa, Aa, Aa, Aa, trivial⟩, W⟩
     have H := AO (Be hb) H
     rw [hb] at F
     clear hb
     refine A9 ?_
     iterate 2 refine Bl ?_
     refine A7 (Ac ?_)
     have W := W.frontZ (i := 2) Aa Aa
     have W := W.frontZ (i := 2) Aa Aa
     have W := W.frontZ (i := 2) Aa Aa
     have W := W.sub (M' := [(b1, [.int .i64 p0.1, v1, v2])]) (Z' := [row v4 59 (Rp.int .u64) x3, row v5 3 (Rp.int .i64) x4, row v7 3 (Rp.int .i64) x6]) (List.Sublist.refl _) (List.Sublist.cons_cons _ (List.Sublist.cons_cons _ (List.Sublist.cons_cons _ (List.nil_sublist _))))
     have H := L5 _ H
     exact ⟨_, H, F.re ⟨rfl, Aa, Aa, Aa, Aa, Aa, Aa, Aa, Aa, Aa, Aa, trivial⟩, W⟩
    rintro a w ⟨x10, hj, F, W⟩
    have hj := AP hj
    subst hj
    have H := K4
    clear G4 K4
    obtain ⟨o8, G8, K8⟩ := Al H
    refine AE (fun a w => ∃ x21 : Int, some (x21) = some o8 ∧ Fr 102 [] [(1, v3), (2, .int .i64 p2), (3, .pointer (some ⟨b1, 0, none⟩)), (6, .slice none 0 0), (7, .int .i64 0), (8, .int .i64 x2.1), (9, v4), (10, v5), (11, v7), (12, .int .i64 x7), (13, .int .i64 x21)] a ∧ Stw ⟨Y, [], w0⟩ [(b1, [.int .i64 p0.1, v1, v2])] [row v4 59 (Rp.int .u64) x3, row v5 3 (Rp.int .i64) x4, row v7 3 (Rp.int .i64) x6] w) ?_ ?_
    ·
     have H := G8
     clear G8 K8
     refine Ah (Ab ?_)
     iterate 2 refine ls F W Aa (Af F Aa).q fun a w F W => ?_
     refine ls F W Aa (Cf F Aa Aa).q fun a w F W => ?_
     refine Ae (Ac ?_)
     refine Av F Aa (fun hb => ?_) fun hb => ?_
     ·
      have H := AN (Bd hb) H
      rw [hb] at F
      clear hb
      refine Ab ?_
      refine ls F W Aa (Ai Cw Aa Aa Aa GF F Aa 2 Aa).q fun a w F W => ?_
      refine ls F W Aa (Ap (v := v2) 0 F Aa Aa GF Aa).q fun a w F W => ?_
      refine ls F W Aa (Af F Aa).q fun a w F W => ?_
      obtain ⟨x22, h12, H⟩ := Al H
      refine ls F W Aa (AC (r := Fa) PU F Aa Aa (Ak h_v2) h12).q fun a w F W => ?_
      refine ls F W Aa (Ai JP Aa Aa Aa T3 F Aa (Ew v2 + (p2).toNat * 2 + 1) Aa).q fun a w F W => ?_
      refine ls F W Aa (As (y := Value.int .i64 x22.2) (j := 1) (i := p2) F Aa Aa (Ak h_v2) h12 PW.to T3 Aa).q fun a w F W => ?_
      refine ls F W Aa (Ad F Aa).q fun a w F W => ?_
      refine Ae (Ac ?_)
      have W := W.frontZ (i := 2) Aa Aa
      have W := W.frontZ (i := 2) Aa Aa
      have W := W.frontZ (i := 2) Aa Aa
      exact ⟨_, H, F.re ⟨rfl, Aa, Aa, Aa, Aa, Aa, Aa, Aa, Aa, Aa, Aa, trivial⟩, W⟩
     have H := AO (Be hb) H
     rw [hb] at F
     clear hb
     refine Ao (Ac ?_)
     have W := W.frontZ (i := 2) Aa Aa
     have W := W.frontZ (i := 2) Aa Aa
     have W := W.frontZ (i := 2) Aa Aa
     exact ⟨_, H, F.re ⟨rfl, Aa, Aa, Aa, Aa, Aa, Aa, Aa, Aa, Aa, Aa, trivial⟩, W⟩
    rintro a w ⟨x21, hj, F, W⟩
    have hj := AP hj
    subst hj
    have H := K8
    clear G8 K8
    refine Ab ?_
    iterate 2 refine ls F W Aa (Af F Aa).q fun a w F W => ?_
    refine Dq (z := Value.int .i64 0) (cs := [.int .i64 x21]) (Rp.int .i64) ([x21] : List Int) F W Aa Fi Z3 Aa Aa Aa Aa Aa Aa (Fl.int.repL _ _ ([x21] : List Int)) fun v10 a w F W => ?_
    obtain ⟨x23, h13, H⟩ := Al H
    refine Cj (r := (Rp.int .i64)) (i := 3) F W Aa Fi Aa Aa Aa Aa (Cz W 0 Aa) h13 Aa fun v11 a w F W => ?_
    have W : Stw ⟨Y, [], w0⟩ [(b1, [.int .i64 p0.1, v1, v2])] [row v11 3 (Rp.int .i64) x23, row v10 3 (Rp.int .i64) ([x21] : List Int), row v4 59 (Rp.int .u64) x3, row v5 3 (Rp.int .i64) x4] w := W
    refine ls F W Aa (Ad F Aa).q fun a w F W => ?_
    refine Ae (AK (Ac ?_))
    have W := W.frontZ (i := 3) Aa Aa
    have W := W.frontZ (i := 3) Aa Aa
    have W := W.sub (M' := [(b1, [.int .i64 p0.1, v1, v2])]) (Z' := [row v4 59 (Rp.int .u64) x3, row v5 3 (Rp.int .i64) x4, row v11 3 (Rp.int .i64) x23]) (List.Sublist.refl _) (List.Sublist.cons_cons _ (List.Sublist.cons_cons _ (List.Sublist.cons_cons _ (List.nil_sublist _))))
    exact ⟨_, (v11), H, F.re ⟨rfl, Aa, Aa, Aa, Aa, Aa, Aa, Aa, Aa, Aa, trivial⟩, W⟩
   rintro a w ⟨x8, v8, hj, F, W⟩
   have hj := AP hj
   subst hj
   have H := K3
   clear G3 K3
   refine Ab ?_
   refine ls F W Aa (Af F Aa).q fun a w F W => ?_
   refine ls F W Aa (Bw F Aa Aa Aa).q fun a w F W => ?_
   refine ls F W Aa (Ad F Aa).q fun a w F W => ?_
   refine Ae (Ac ?_)
   have W := W.frontZ (i := 2) Aa Aa
   have W := W.frontZ (i := 2) Aa Aa
   have W := W.frontZ (i := 2) Aa Aa
   exact ⟨_, H, (v8), F.re ⟨rfl, Aa, Aa, Aa, Aa, Aa, Aa, Aa, Aa, Aa, trivial⟩, W⟩
  have H := AO (Be hb) H
  rw [hb] at F
  clear hb
  refine A9 ?_
  iterate 2 refine Bl ?_
  refine A7 (Ac ?_)
  have W := W.frontZ (i := 2) Aa Aa
  have W := W.sub (M' := [(b1, [.int .i64 p0.1, v1, v2])]) (Z' := [row v7 3 (Rp.int .i64) x6]) (List.Sublist.refl _) (List.Sublist.cons_cons _ (List.nil_sublist _))
  have H := L2 _ H
  exact ⟨_, (v7), H, F.re ⟨rfl, Aa, Aa, trivial⟩, W⟩
 rintro a w ⟨x5, v6, hj, F, W⟩
 have hj := AP hj
 subst hj
 have H := K1
 clear G1 K1
 refine Ah (Ab ?_)
 refine ls F W Aa (Af F Aa).q fun a w F W => ?_
 iterate 2 refine ls F W Aa (Ad F Aa).q fun a w F W => ?_
 refine Ae (Ac (Ax ?_))
 have H := AP H
 subst H
 refine FK (.inl Aa) F W Aa (Au F Aa) (Au F Aa) ?_
 have W := W.sub (M' := []) (Z' := [row v6 3 (Rp.int .i64) x5]) (List.nil_sublist _) (List.Sublist.refl _)
 exact ⟨(v6), Aa, W⟩
theorem So : Has Try.prog 18 := ⟨fun args w => Aj Try.func18 rfl (by decide) args w⟩
noncomputable def Ch (p0 : Int × (List (Int × Int × Int × Int × Int × Int)) × (List (Int × Int))) (p1 : List Int) (x4 : Int) : (List Int × Int) → Option ((List Int × Int) ⊕ ((List Int) ⊕ ((List (List Int)) ⊕ ((List (List Int) × Int) ⊕ ((List (List Int)) ⊕ (List (List Int) × Int))))))
  | (x7, x8) => (if x8 < (p0.2.2.length : Int) then (Ee p0 p1 x8).bind fun x9 => (ix x9.1 x4).bind fun x10 => (if x10 = (-1) then some (.inr (.inr (.inr (.inr (.inr (([] : List (List Int)), 7)))))) else (ix x9.1 x4).bind fun x11 => (Hz x7 ([x11] : List Int)).bind fun x12 => some (.inl (x12, BI (x8 + 1)))) else some (.inr (.inl x7)))
noncomputable def C5 (p0 : Int × (List (Int × Int × Int × Int × Int × Int)) × (List (Int × Int))) (p1 : List Int) : (List (List Int) × Int) → Option ((List (List Int) × Int) ⊕ ((List (List Int)) ⊕ (List (List Int) × Int)))
  | (x3, x4) => (if x4 < p0.1 then HK (HK (AH (Ch p0 p1 x4) ([], 0)) fun x6 => (Hz x3 ([x6] : List (List Int))).bind fun x13 => some (.inl x13)) fun x5 => some (.inl (x5, BI (x4 + 1))) else some (.inr (.inl x3)))
noncomputable def Ek (p0 : Int × (List (Int × Int × Int × Int × Int × Int)) × (List (Int × Int))) (p1 : List Int) : Option (List (List Int) × Int) := (D5 p0 p1).bind fun x1 => (if (!x1) = true then some (([] : List (List Int)), 2) else HK (AH (C5 p0 p1) ([], 0)) fun x2 => some (x2, 0))
theorem LA (Y : Nat → Prop) (w0 : World) (v1 : Value) (v2 : Value) (v3 : Value) (p0 : Int × (List (Int × Int × Int × Int × Int × Int)) × (List (Int × Int))) (p1 : List Int) (r : List (List Int) × Int) (H : Ek p0 p1 = some r) (h_v1 : Sl w0 (NX []) Ff v1 p0.2.1) (h_v2 : Sl w0 (NX []) Fa v2 p0.2.2) (h_v3 : Sl w0 (NX []) (Rp.int .u64) v3 p1) :
    Calls Try.prog 20 #[.agg #[.int .i64 p0.1, v1, v2], v3] w0 fun e w' => ∃ x : Value, e = .returned (.tuple #[x, .int .i64 r.2]) ∧ Stw ⟨Y, [], w0⟩ [] [row (x) 36 (Rp.slice (Rp.int .i64)) r.1] w' := by
 refine enter Try.func20 Aa Try.ntmps20 Aa fun a F => ?_
 have W := Stw.start Y w0
 unfold Ek at H
 refine Ah (Ab ?_)
 refine DO (cs := [.int .i64 p0.1, v1, v2]) F W Aa Aa Aa fun b1 a w F W => ?_
 iterate 2 refine ls F W Aa (Ad F Aa).q fun a w F W => ?_
 refine Ae (Ac (Ah (Ah (Ab ?_))))
 refine ls F W Aa (Ap (v := Value.agg #[.int .i64 p0.1, v1, v2]) 0 F Aa Aa GC Aa).q fun a w F W => ?_
 refine ls F W Aa (Af F Aa).q fun a w F W => ?_
 obtain ⟨x1, h1, H⟩ := Al H
 refine ls F W Aa (AX (v := Value.bool x1) F RT Aa (fun w W => Hh any w (v1) (v2) (v3) p0 p1 _ h1 (((Ak h_v1) : Dw _ _ _ _ _ _) w W).nx (((Ak h_v2) : Dw _ _ _ _ _ _) w W).nx (((Ak h_v3) : Dw _ _ _ _ _ _) w W).nx)) fun a w F W => ?_
 refine ls F W Aa (E6 F Aa).q fun a w F W => ?_
 refine Ae (Ac ?_)
 refine Av F Aa (fun hb => ?_) fun hb => ?_
 ·
  have H := AN hb H
  rw [hb] at F
  clear hb
  refine Ah (Ab ?_)
  iterate 2 refine ls F W Aa (Ad F Aa).q fun a w F W => ?_
  refine Ae (Ac (Ax (AL ?_)))
  have H := AP H
  subst H
  refine FK (.inl Aa) F W Aa (Au F Aa) (Au F Aa) ?_
  have W := W.nilRow 36 (Rp.slice (Rp.int .i64))
  have W := W.sub (M' := []) (Z' := [row (Value.slice none 0 0) 36 (Rp.slice (Rp.int .i64)) ([])]) (List.nil_sublist _) (List.Sublist.refl _)
  exact ⟨(Value.slice none 0 0), Aa, W⟩
 have H := AO (by rw [hb]; decide) H
 rw [hb] at F
 clear hb
 refine Ao (Ac (Ah (Ab ?_)))
 refine ls F W Aa (Ad F Aa).q fun a w F W => ?_
 refine Ae (Ac ?_)
 obtain ⟨o1, G1, K1, L1⟩ := MZ H
 refine AE (fun a w => ∃ x2 : List (List Int), ∃ v4 : Value, some (Sum.inl x2) = some o1 ∧ Fr 53 [] [(4, .slice none 0 0), (5, .int .i64 0), (6, v4)] a ∧ Stw ⟨Y, [], w0⟩ [(b1, [.int .i64 p0.1, v1, v2])] [row v4 36 (Rp.slice (Rp.int .i64)) x2] w) ?_ ?_
 ·
  have H := G1
  clear G1 K1
  refine Ah (Ab ?_)
  refine ls F W Aa (Ad F Aa).q fun a w F W => ?_
  refine Ae (Ac (Aq ?_))
  have W := W.nilRow 36 (Rp.slice (Rp.int .i64))
  refine A4 H (fun s a w => ∃ v5 : Value, Fr 53 [] [(1, v3), (2, .pointer (some ⟨b1, 0, none⟩)), (4, .slice none 0 0), (5, .int .i64 0), (6, v5), (7, .int .i64 s.2)] a ∧ Stw ⟨Y, [], w0⟩ [(b1, [.int .i64 p0.1, v1, v2])] [row v5 36 (Rp.slice (Rp.int .i64)) s.1] w) ⟨(Value.slice none 0 0), F.re ⟨rfl, Aa, Aa, Aa, Aa, Aa, trivial⟩, W⟩ fun s o a w H L2 hR => ?_
  obtain ⟨x3, x4⟩ := s
  obtain ⟨v5, F, W⟩ := hR
  have F : Fr 53 [] [(1, v3), (2, .pointer (some ⟨b1, 0, none⟩)), (4, .slice none 0 0), (5, .int .i64 0), (6, v5), (7, .int .i64 x4)] a := F
  have W : Stw ⟨Y, [], w0⟩ [(b1, [.int .i64 p0.1, v1, v2])] [row v5 36 (Rp.slice (Rp.int .i64)) x3] w := W
  rw [C5] at H
  refine Ah (Ah (Ab ?_))
  refine ls F W Aa (Af F Aa).q fun a w F W => ?_
  refine ls F W Aa (Ai Cw Aa Aa Aa T3 F Aa 0 Aa).q fun a w F W => ?_
  refine ls F W Aa (Ap (v := Value.int .i64 p0.1) 0 F Aa Aa T3 Aa).q fun a w F W => ?_
  refine ls F W Aa (Bb F Aa Aa).q fun a w F W => ?_
  refine Ae (Ac ?_)
  refine Av F Aa (fun hb => ?_) fun hb => ?_
  ·
   have H := AN (Bd hb) H
   rw [hb] at F
   clear hb
   refine Ao (Ac ?_)
   obtain ⟨o3, G3, K3, L3⟩ := MZ H
   refine AE (fun a w => ∃ x5 : List (List Int), ∃ v6 : Value, some (Sum.inl x5) = some o3 ∧ Fr 53 [] [(1, v3), (2, .pointer (some ⟨b1, 0, none⟩)), (4, .slice none 0 0), (5, .int .i64 0), (6, v6), (7, .int .i64 x4)] a ∧ Stw ⟨Y, [], w0⟩ [(b1, [.int .i64 p0.1, v1, v2])] [row v6 36 (Rp.slice (Rp.int .i64)) x5] w) ?_ ?_
   ·
    have H := G3
    clear G3 K3
    refine Aq (Ah (Ab ?_))
    refine ls F W Aa (Ad F Aa).q fun a w F W => ?_
    refine Ae (Ac ?_)
    obtain ⟨o4, G4, K4, L4⟩ := MZ H
    refine AE (fun a w => ∃ x6 : List Int, ∃ v7 : Value, some (Sum.inl x6) = some o4 ∧ Fr 53 [] [(1, v3), (2, .pointer (some ⟨b1, 0, none⟩)), (4, .slice none 0 0), (5, .int .i64 0), (6, v5), (7, .int .i64 x4), (8, v7)] a ∧ Stw ⟨Y, [], w0⟩ [(b1, [.int .i64 p0.1, v1, v2])] [row v5 36 (Rp.slice (Rp.int .i64)) x3, row v7 3 (Rp.int .i64) x6] w) ?_ ?_
    ·
     have H := G4
     clear G4 K4
     refine Ah (Ab ?_)
     refine ls F W Aa (Ad F Aa).q fun a w F W => ?_
     refine Ae (Ac (Aq ?_))
     have W := W.nilRow 3 (Rp.int .i64)
     have W := W.frontZ (i := 1) Aa Aa
     refine A4 H (fun s a w => ∃ v8 : Value, Fr 53 [] [(1, v3), (2, .pointer (some ⟨b1, 0, none⟩)), (4, .slice none 0 0), (5, .int .i64 0), (6, v5), (7, .int .i64 x4), (8, v8), (9, .int .i64 s.2)] a ∧ Stw ⟨Y, [], w0⟩ [(b1, [.int .i64 p0.1, v1, v2])] [row v5 36 (Rp.slice (Rp.int .i64)) x3, row v8 3 (Rp.int .i64) s.1] w) ⟨(Value.slice none 0 0), F.re ⟨rfl, Aa, Aa, Aa, Aa, Aa, Aa, Aa, trivial⟩, W⟩ fun s o a w H L5 hR => ?_
     obtain ⟨x7, x8⟩ := s
     obtain ⟨v8, F, W⟩ := hR
     have F : Fr 53 [] [(1, v3), (2, .pointer (some ⟨b1, 0, none⟩)), (4, .slice none 0 0), (5, .int .i64 0), (6, v5), (7, .int .i64 x4), (8, v8), (9, .int .i64 x8)] a := F
     have W : Stw ⟨Y, [], w0⟩ [(b1, [.int .i64 p0.1, v1, v2])] [row v5 36 (Rp.slice (Rp.int .i64)) x3, row v8 3 (Rp.int .i64) x7] w := W
     rw [Ch] at H
     refine Ah (Ah (Ab ?_))
     refine ls F W Aa (Af F Aa).q fun a w F W => ?_
     refine ls F W Aa (Ai Cw Aa Aa Aa GF F Aa 2 Aa).q fun a w F W => ?_
     refine ls F W Aa (Ap (v := v2) 0 F Aa Aa GF Aa).q fun a w F W => ?_
     refine ls F W Aa (Bm (r := Fa) (l := p0.2.2) JU Aa F Aa (Ak h_v2)).q fun a w F W => ?_
     refine ls F W Aa (Bb F Aa Aa).q fun a w F W => ?_
     refine Ae (Ac ?_)
     refine Av F Aa (fun hb => ?_) fun hb => ?_
     ·
      have H := AN (Bd hb) H
      rw [hb] at F
      clear hb
      refine Ao (Ac (Ah (Aq (Ah (Ab ?_)))))
      refine ls F W Aa (Ap (v := Value.agg #[.int .i64 p0.1, v1, v2]) 0 F Aa Aa GC Aa).q fun a w F W => ?_
      iterate 2 refine ls F W Aa (Af F Aa).q fun a w F W => ?_
      obtain ⟨x9, h2, H⟩ := Al H
      refine Bi (Ml := []) (Zl := []) (M := [(b1, [.int .i64 p0.1, v1, v2])]) (Z := [row v5 36 (Rp.slice (Rp.int .i64)) x3, row v8 3 (Rp.int .i64) x7]) (β := Value) (rv := fun x => .tuple #[x, .int .i64 x9.2]) (MM := fun x => []) (ZZ := fun x => [row x 3 (Rp.int .i64) x9.1]) F W So Aa Aa (fun hL => JJ _ w (v1) (v2) (v3) p0 p1 x8 _ h2 ((Ak h_v1) w W).nx ((Ak h_v2) w W).nx ((Ak h_v3) w W).nx) fun x a w F W => ?_
      obtain ⟨v9, rfl⟩ : ∃ y, y = x := ⟨x, rfl⟩
      have W : Stw ⟨Y, [], w0⟩ [(b1, [.int .i64 p0.1, v1, v2])] [row v9 3 (Rp.int .i64) x9.1, row v5 36 (Rp.slice (Rp.int .i64)) x3, row v8 3 (Rp.int .i64) x7] w := W
      refine ls F W Aa (Af F Aa).q fun a w F W => ?_
      refine ls F W Aa (Bj (v := v9) F Aa Aa).q fun a w F W => ?_
      refine ls F W Aa (Bj (v := Value.int .i64 x9.2) F Aa Aa).q fun a w F W => ?_
      iterate 2 refine ls F W Aa (Ad F Aa).q fun a w F W => ?_
      refine Ae (Ac (Ah (Ah (Ab ?_))))
      iterate 2 refine ls F W Aa (Af F Aa).q fun a w F W => ?_
      obtain ⟨x10, h3, H⟩ := Al H
      refine ls F W Aa (AC (r := (Rp.int .i64)) Fi F Aa Aa (An 0 Aa) h3).q fun a w F W => ?_
      refine ls F W Aa (As (y := Value.int .i64 x10) (j := 0) (i := x4) F Aa Aa (An 0 Aa) h3 Fl.int.to T3 Aa).q fun a w F W => ?_
      refine ls F W Aa (Cf F Aa Aa).q fun a w F W => ?_
      refine Ae (Ac ?_)
      refine Av F Aa (fun hb => ?_) fun hb => ?_
      ·
       have H := AN (Bd hb) H
       rw [hb] at F
       clear hb
       refine Ah (Ab ?_)
       iterate 2 refine ls F W Aa (Ad F Aa).q fun a w F W => ?_
       refine Ae (Ac (Ax (AL (A8 ?_))))
       iterate 2 refine AL ?_
       refine A8 (AL (A8 ?_))
       iterate 2 refine AL ?_
       refine A8 (AL ?_)
       have H := L5 _ H
       have H := L4 _ H
       have H := L3 _ H
       have H := L2 _ H
       have H := L1 _ H
       have H := AP H
       subst H
       refine FK (.inl Aa) F W Aa (Au F Aa) (Au F Aa) ?_
       have W := W.nilRow 36 (Rp.slice (Rp.int .i64))
       have W := W.sub (M' := []) (Z' := [row (Value.slice none 0 0) 36 (Rp.slice (Rp.int .i64)) ([])]) (List.nil_sublist _) (List.Sublist.cons_cons _ (List.nil_sublist _))
       exact ⟨(Value.slice none 0 0), Aa, W⟩
      have H := AO (Be hb) H
      rw [hb] at F
      clear hb
      refine Ao (Ac (Ab ?_))
      iterate 3 refine ls F W Aa (Af F Aa).q fun a w F W => ?_
      obtain ⟨x11, h4, H⟩ := Al H
      refine ls F W Aa (AC (r := (Rp.int .i64)) Fi F Aa Aa (An 0 Aa) h4).q fun a w F W => ?_
      refine ls F W Aa (As (y := Value.int .i64 x11) (j := 0) (i := x4) F Aa Aa (An 0 Aa) h4 Fl.int.to T3 Aa).q fun a w F W => ?_
      refine Dq (z := Value.int .i64 0) (cs := [.int .i64 x11]) (Rp.int .i64) ([x11] : List Int) F W Aa Fi Z3 Aa Aa Aa Aa Aa Aa (Fl.int.repL _ _ ([x11] : List Int)) fun v10 a w F W => ?_
      obtain ⟨x12, h5, H⟩ := Al H
      refine Cj (r := (Rp.int .i64)) (i := 3) F W Aa Fi Aa Aa Aa Aa (Cz W 0 Aa) h5 Aa fun v11 a w F W => ?_
      have W : Stw ⟨Y, [], w0⟩ [(b1, [.int .i64 p0.1, v1, v2])] [row v11 3 (Rp.int .i64) x12, row v10 3 (Rp.int .i64) ([x11] : List Int), row v9 3 (Rp.int .i64) x9.1, row v5 36 (Rp.slice (Rp.int .i64)) x3] w := W
      refine ls F W Aa (Ad F Aa).q fun a w F W => ?_
      refine Ae (AK (Ac (Ab ?_)))
      refine ls F W Aa (Af F Aa).q fun a w F W => ?_
      refine ls F W Aa (Bw F Aa Aa Aa).q fun a w F W => ?_
      refine ls F W Aa (Ad F Aa).q fun a w F W => ?_
      refine Ae (Ac ?_)
      have W := W.frontZ (i := 3) Aa Aa
      have W := W.sub (M' := [(b1, [.int .i64 p0.1, v1, v2])]) (Z' := [row v5 36 (Rp.slice (Rp.int .i64)) x3, row v11 3 (Rp.int .i64) x12]) (List.Sublist.refl _) (List.Sublist.cons_cons _ (List.Sublist.cons_cons _ (List.nil_sublist _)))
      exact ⟨_, H, (v11), F.re ⟨rfl, Aa, Aa, Aa, Aa, Aa, Aa, Aa, trivial⟩, W⟩
     have H := AO (Be hb) H
     rw [hb] at F
     clear hb
     refine A9 ?_
     iterate 2 refine Bl ?_
     refine A7 (Ac ?_)
     have W := W.frontZ (i := 1) Aa Aa
     have W := W.frontZ (i := 1) Aa Aa
     have H := L5 _ H
     exact ⟨_, (v8), H, F.re ⟨rfl, Aa, Aa, Aa, Aa, Aa, Aa, trivial⟩, W⟩
    rintro a w ⟨x6, v7, hj, F, W⟩
    have H := K4 _ hj
    clear hj G4 K4 L4
    refine Ab ?_
    iterate 2 refine ls F W Aa (Af F Aa).q fun a w F W => ?_
    have W := W.frontZ (i := 1) Aa Aa
    have W := W.freeze
    refine Dq (z := Value.slice none 0 0) (cs := [v7]) (Rp.slice (Rp.int .i64)) ([x6] : List (List Int)) F W Aa PV Sr Aa Aa Aa (Hn Aa (F0 (W.oneF (k := 0) Aa)) Aa LS) Aa Aa ⟨[v7], _, Aa, ⟨_, Aa, (W.item (i := 0) Aa)⟩, Aa⟩ fun v12 a w F W => ?_
    obtain ⟨x13, h6, H⟩ := Al H
    refine Cj (r := (Rp.slice (Rp.int .i64))) (i := 2) F W Aa PV Aa Aa Aa Aa (Cz W 0 Aa) h6 Aa fun v13 a w F W => ?_
    have W : Stw ⟨Y, [], w0⟩ [(b1, [.int .i64 p0.1, v1, v2])] [row v13 36 (Rp.slice (Rp.int .i64)) x13, row v12 36 (Rp.slice (Rp.int .i64)) ([x6] : List (List Int)), LD v7 (Rp.int .i64) x6] w := W
    refine ls F W Aa (Ad F Aa).q fun a w F W => ?_
    refine Ae (AK (Ac ?_))
    have W := W.sub (M' := [(b1, [.int .i64 p0.1, v1, v2])]) (Z' := [row v13 36 (Rp.slice (Rp.int .i64)) x13]) (List.Sublist.refl _) (List.Sublist.cons_cons _ (List.nil_sublist _))
    exact ⟨_, (v13), H, F.re ⟨rfl, Aa, Aa, Aa, Aa, Aa, trivial⟩, W⟩
   rintro a w ⟨x5, v6, hj, F, W⟩
   have H := K3 _ hj
   clear hj G3 K3 L3
   refine Ab ?_
   refine ls F W Aa (Af F Aa).q fun a w F W => ?_
   refine ls F W Aa (Bw F Aa Aa Aa).q fun a w F W => ?_
   refine ls F W Aa (Ad F Aa).q fun a w F W => ?_
   refine Ae (Ac ?_)
   exact ⟨_, H, (v6), F.re ⟨rfl, Aa, Aa, Aa, Aa, Aa, trivial⟩, W⟩
  have H := AO (Be hb) H
  rw [hb] at F
  clear hb
  refine A9 ?_
  iterate 2 refine Bl ?_
  refine A7 (Ac ?_)
  have H := L2 _ H
  exact ⟨_, (v5), H, F.re ⟨rfl, Aa, Aa, trivial⟩, W⟩
 rintro a w ⟨x2, v4, hj, F, W⟩
 have H := K1 _ hj
 clear hj G1 K1 L1
 refine Ah (Ab ?_)
 refine ls F W Aa (Af F Aa).q fun a w F W => ?_
 iterate 2 refine ls F W Aa (Ad F Aa).q fun a w F W => ?_
 refine Ae (Ac (Ax ?_))
 have H := AP H
 subst H
 refine FK (.inl Aa) F W Aa (Au F Aa) (Au F Aa) ?_
 have W := W.sub (M' := []) (Z' := [row v4 36 (Rp.slice (Rp.int .i64)) x2]) (List.nil_sublist _) (List.Sublist.refl _)
 exact ⟨(v4), Aa, W⟩
theorem Tr : Has Try.prog 20 := ⟨fun args w => Aj Try.func20 rfl (by decide) args w⟩
abbrev RU (p : Value × List Int) : List Int := p.2
theorem Rl : Ex (Rp.slice (Rp.int .i64)) (Rp.vsl (Rp.int .i64)) RU := Ex.sliceF
abbrev QR (a : Value × List Int) : List Value := [a.1]
theorem RS : JX (Rp.vsl (Rp.int .i64)) QR := JX.vsl
noncomputable def C0 (x15 : (List (Nat × List Int)) × Int) (x16 : List (List Int) × Int) : Int → Option (Int ⊕ (Unit ⊕ Bool))
  | x17 => (if x17 < (x16.1.length : Int) then (ix x15.1 x17).bind fun x18 => (ix x16.1 x17).bind fun x19 => (EA x18.2 x19).bind fun x20 => (Kk x18.1).bind fun x21 => (if (!x20) = true then some (.inr (.inr false)) else some (.inl (BI (x17 + 1)))) else some (.inr (.inl ())))
noncomputable def DG (p0 : Int × (List (Int × Int × Int × Int × Int × Int)) × (List (Int × Int))) (p1 : List Int) (p2 : Int) (p3 : Int) : Option Bool := (if (!(Fv p0 p1)) = true then (EY).bind fun x1 => some x1 else (Hg p1).bind fun x2 => ((BO p0 x2 p2).bind fun x4 => (FE x4).bind fun x5 => (CQ p0 p1 p2).bind fun x6 => (F7 x5 x6).bind fun x7 => (if (!x7) = true then some true else (Cl p0 x2 p2).bind fun x8 => (DW p0 p1 p2).bind fun x9 => (EA x8 x9).bind fun x10 => some (!x10))).bind fun x3 => (if x3 = true then some false else (B9 p0 x2 p3).bind fun x11 => (Ee p0 p1 p3).bind fun x12 => ((EA x11.1 x12.1).bind fun x14 => (if (!x14) = true then some true else some (decide (x11.2 ≠ x12.2)))).bind fun x13 => (if x13 = true then some false else (Cg p0 x2).bind fun x15 => (Ek p0 p1).bind fun x16 => (if (decide ((x15.1.length : Int) ≠ (x16.1.length : Int)) || decide (x15.2 ≠ x16.2)) = true then some false else HK (AH (C0 x15 x16) 0) fun _ => (EY).bind fun x22 => some x22))))
theorem IM (Y : Nat → Prop) (w0 : World) (v1 : Value) (v2 : Value) (v3 : Value) (p0 : Int × (List (Int × Int × Int × Int × Int × Int)) × (List (Int × Int))) (p1 : List Int) (p2 : Int) (p3 : Int) (r : Bool) (H : DG p0 p1 p2 p3 = some r) (h_v1 : Sl w0 (NX []) Ff v1 p0.2.1) (h_v2 : Sl w0 (NX []) Fa v2 p0.2.2) (h_v3 : Sl w0 (NX []) (Rp.int .u64) v3 p1) :
    Calls Try.prog 3 #[.agg #[.int .i64 p0.1, v1, v2], v3, .int .i64 p2, .int .i64 p3] w0 fun e w' => e = .returned (.bool r) ∧ Below w0.heap.size w0 w' := by
 refine enter Try.func3 Aa Try.ntmps3 Aa fun a F => ?_
 have W := Stw.start Y w0
 unfold DG at H
 refine Ah (Ab ?_)
 refine DO (cs := [.int .i64 p0.1, v1, v2]) F W Aa Aa Aa fun b1 a w F W => ?_
 refine ls F W Aa (Ad F Aa).q fun a w F W => ?_
 refine Ae (Ac (Ah (Ah (Ab ?_))))
 refine ls F W Aa (Ap (v := Value.agg #[.int .i64 p0.1, v1, v2]) 0 F Aa Aa GC Aa).q fun a w F W => ?_
 refine ls F W Aa (Af F Aa).q fun a w F W => ?_
 refine ls F W Aa (AX (v := Value.bool (Fv p0 p1)) F H7 Aa (fun w W => Mg any w (v1) (v2) (v3) p0 p1 _ Aa (((Ak h_v1) : Dw _ _ _ _ _ _) w W).nx (((Ak h_v2) : Dw _ _ _ _ _ _) w W).nx (((Ak h_v3) : Dw _ _ _ _ _ _) w W).nx)) fun a w F W => ?_
 refine ls F W Aa (E6 F Aa).q fun a w F W => ?_
 refine Ae (Ac ?_)
 refine Av F Aa (fun hb => ?_) fun hb => ?_
 ·
  have H := AN hb H
  rw [hb] at F
  clear hb
  refine Ah (Ab ?_)
  obtain ⟨x1, h1, H⟩ := Al H
  refine ls F W Aa (AX (v := Value.bool x1) F H8 Aa (fun w W => IZ any w _ h1)) fun a w F W => ?_
  refine ls F W Aa (Ad F Aa).q fun a w F W => ?_
  refine Ae (Ac (Ax (AL ?_)))
  have H := AP H
  subst H
  refine AQ (.inl Aa) F W Aa (Au F Aa) ?_
  exact ⟨rfl, W.done⟩
 have H := AO (by rw [hb]; decide) H
 rw [hb] at F
 clear hb
 refine Ao (Ac (Ah (Ab ?_)))
 refine ls F W Aa (Af F Aa).q fun a w F W => ?_
 obtain ⟨x2, h2, H⟩ := Al H
 refine Bi (Ml := []) (Zl := []) (M := [(b1, [.int .i64 p0.1, v1, v2])]) (Z := []) (β := Value) (rv := fun x => x) (MM := fun x => []) (ZZ := fun x => [row x 56 (Rp.flt .f64) x2]) F W H9 Aa Aa (fun hL => M7 _ w (v3) p1 _ h2 ((Ak h_v3) w W).nx) fun x a w F W => ?_
 obtain ⟨v4, rfl⟩ : ∃ y, y = x := ⟨x, rfl⟩
 have W : Stw ⟨Y, [], w0⟩ [(b1, [.int .i64 p0.1, v1, v2])] [row v4 56 (Rp.flt .f64) x2] w := W
 refine ls F W Aa (Ad F Aa).q fun a w F W => ?_
 refine Ae (Ac (Ah ?_))
 obtain ⟨o1, G1, K1⟩ := Al H
 refine AE (fun a w => ∃ x3 : Bool, some (x3) = some o1 ∧ Fr 109 [] [(1, v3), (3, .int .i64 p3), (4, .pointer (some ⟨b1, 0, none⟩)), (8, .bool false), (9, v4), (46, .bool x3)] a ∧ Stw ⟨Y, [], w0⟩ [(b1, [.int .i64 p0.1, v1, v2])] [row v4 56 (Rp.flt .f64) x2] w) ?_ ?_
 ·
  have H := G1
  clear G1 K1
  refine Ii [(true, 0), (true, 1), (true, 2), (true, 5), (true, 6), (true, 7), (false, 3), (false, 4), (false, 8), (false, 9), (true, 10), (true, 11), (true, 12), (true, 13), (true, 14), (true, 16), (true, 17), (true, 18), (false, 15), (false, 19), (false, 20), (true, 21), (true, 22)] (CN ⟨Y, [], w0⟩ [(some 3, b1, [.int .i64 p0.1, v1, v2]), (some 8, b1, [.int .i64 p0.1, v1, v2])] []) (fun ch a d v w h => by cases d <;> exact h) MO (by kernel_rfl) W (fun w W => ⟨_, _, W, (all_cons (fun _ => (.head _)) (all_cons (fun _ => (.head _)) AF)), AF⟩) fun w W => ?_
  refine DU (R := [3]) F Aa Aa (yC fun M Z hN hZ => FF (cs := [.int .i64 p0.1, v1, v2]) (v := Value.agg #[.int .i64 p0.1, v1, v2]) F Aa (hN ((some 3), b1, [.int .i64 p0.1, v1, v2]) (.head _) Aa) GC Aa) (by kernel_rfl) Aa fun a F => ?_
  iterate 2 refine DU (R := []) F Aa Aa (yC fun M Z hN hZ => Af F Aa) Aa Aa fun a F => ?_
  refine DU (R := [8]) F Aa Aa (yC fun M Z hN hZ => FF (cs := [.int .i64 p0.1, v1, v2]) (v := Value.agg #[.int .i64 p0.1, v1, v2]) F Aa (hN ((some 8), b1, [.int .i64 p0.1, v1, v2]) (.tail _ (.head _)) Aa) GC Aa) (by kernel_rfl) Aa fun a F => ?_
  iterate 2 refine DU (R := []) F Aa Aa (yC fun M Z hN hZ => Af F Aa) Aa Aa fun a F => ?_
  refine GD Aa ?_
  obtain ⟨x4, h3, H⟩ := Al H
  refine Bi (Ml := []) (Zl := []) (M := [(b1, [.int .i64 p0.1, v1, v2])]) (Z := [row v4 56 (Rp.flt .f64) x2]) (β := {x : Value // NN x (x4)}) (rv := fun x => x.1) (MM := fun x => []) (ZZ := fun x => [row x.1 56 (Rp.flt .f64) x4]) F W RN Aa Aa (fun hL => FT _ w (v1) (v2) (v4) p0 x2 p2 _ h3 ((Ak h_v1) w W).nx ((Ak h_v2) w W).nx ((An 0 Aa) w W).nx) fun x a w F W => ?_
  obtain ⟨v5, rfl⟩ : ∃ y, y = x := ⟨x, rfl⟩
  have W : Stw ⟨Y, [], w0⟩ [(b1, [.int .i64 p0.1, v1, v2])] [row v5.1 56 (Rp.flt .f64) x4, row v4 56 (Rp.flt .f64) x2] w := W
  refine CK (N2 := []) (NZ2 := []) (N3 := [(some 3, b1, [.int .i64 p0.1, v1, v2]), (some 8, b1, [.int .i64 p0.1, v1, v2])]) (NZ3 := []) W Aa Aa (all_cons (fun h => AU (by kernel_rfl) h) (all_cons (fun _ => (.head _)) AF)) AF ?_
  refine GD Aa ?_
  obtain ⟨x5, h4, H⟩ := Al H
  refine Bi (Ml := []) (Zl := []) (M := [(b1, [.int .i64 p0.1, v1, v2])]) (Z := [row v5.1 56 (Rp.flt .f64) x4, row v4 56 (Rp.flt .f64) x2]) (β := Value) (rv := fun x => x) (MM := fun x => []) (ZZ := fun x => [row x 59 (Rp.int .u64) x5]) F W To Aa Aa (fun hL => Ly _ w (v5.1) x4 _ h4 ((An 0 Aa) w W).nx) fun x a w F W => ?_
  obtain ⟨v6, rfl⟩ : ∃ y, y = x := ⟨x, rfl⟩
  have W : Stw ⟨Y, [], w0⟩ [(b1, [.int .i64 p0.1, v1, v2])] [row v6 59 (Rp.int .u64) x5, row v5.1 56 (Rp.flt .f64) x4, row v4 56 (Rp.flt .f64) x2] w := W
  refine CK (N2 := []) (NZ2 := []) (N3 := [(some 3, b1, [.int .i64 p0.1, v1, v2]), (some 8, b1, [.int .i64 p0.1, v1, v2])]) (NZ3 := []) W Aa Aa (all_cons (fun h => AU (by kernel_rfl) h) (all_cons (fun _ => (.head _)) AF)) AF ?_
  refine GD Aa ?_
  obtain ⟨x6, h5, H⟩ := Al H
  refine Bi (Ml := []) (Zl := []) (M := [(b1, [.int .i64 p0.1, v1, v2])]) (Z := [row v6 59 (Rp.int .u64) x5, row v5.1 56 (Rp.flt .f64) x4, row v4 56 (Rp.flt .f64) x2]) (β := Value) (rv := fun x => x) (MM := fun x => []) (ZZ := fun x => [row x 59 (Rp.int .u64) x6]) F W RV Aa Aa (fun hL => GY _ w (v1) (v2) (v3) p0 p1 p2 _ h5 ((Ak h_v1) w W).nx ((Ak h_v2) w W).nx ((Ak h_v3) w W).nx) fun x a w F W => ?_
  obtain ⟨v7, rfl⟩ : ∃ y, y = x := ⟨x, rfl⟩
  have W : Stw ⟨Y, [], w0⟩ [(b1, [.int .i64 p0.1, v1, v2])] [row v7 59 (Rp.int .u64) x6, row v6 59 (Rp.int .u64) x5, row v5.1 56 (Rp.flt .f64) x4, row v4 56 (Rp.flt .f64) x2] w := W
  refine CK (N2 := []) (NZ2 := []) (N3 := [(some 3, b1, [.int .i64 p0.1, v1, v2]), (some 8, b1, [.int .i64 p0.1, v1, v2])]) (NZ3 := []) W Aa Aa (all_cons (fun h => AU (by kernel_rfl) h) (all_cons (fun h => AU (by kernel_rfl) h) AF)) AF ?_
  refine GD Aa ?_
  obtain ⟨x7, h6, H⟩ := Al H
  refine ls F W Aa (AX (v := Value.bool x7) F SJ Aa (fun w W => Nk any w (v6) (v7) x5 x6 _ h6 (((An 1 Aa) : Dw _ _ _ _ _ _) w W).nx (((An 0 Aa) : Dw _ _ _ _ _ _) w W).nx)) fun a w F W => ?_
  refine CK (N2 := [(some 15, b1, [.int .i64 p0.1, v1, v2]), (some 19, b1, [.int .i64 p0.1, v1, v2])]) (NZ2 := []) (N3 := [(some 3, b1, [.int .i64 p0.1, v1, v2]), (some 8, b1, [.int .i64 p0.1, v1, v2]), (some 15, b1, [.int .i64 p0.1, v1, v2]), (some 19, b1, [.int .i64 p0.1, v1, v2])]) (NZ3 := []) W Aa Aa (all_cons (fun h => AU (by kernel_rfl) h) (all_cons (fun h => AU (by kernel_rfl) h) (all_cons (fun _ => (.head _)) (all_cons (fun _ => (.head _)) AF)))) AF ?_
  refine DU (R := []) F Aa Aa (yC fun M Z hN hZ => E6 F Aa) Aa Aa fun a F => ?_
  refine DU (R := []) F Aa Aa (yC fun M Z hN hZ => Af F Aa) Aa Aa fun a F => ?_
  rcases Bool.eq_false_or_eq_true (!x7) with hb | hb
  ·
   have H := AN hb H
   rw [hb] at F
   clear hb
   iterate 6 refine NH F Aa (Cu F Aa Aa Aa Aa Aa) Aa Aa Aa fun a F => ?_
   refine GD Aa ?_
   refine CL F Aa Aa Aa Aa Aa Aa Aa fun a F => ?_
   refine CK (N2 := []) (NZ2 := []) (N3 := [(some 3, b1, [.int .i64 p0.1, v1, v2]), (some 8, b1, [.int .i64 p0.1, v1, v2]), (some 15, b1, [.int .i64 p0.1, v1, v2]), (some 19, b1, [.int .i64 p0.1, v1, v2])]) (NZ3 := []) W Aa Aa (all_cons (fun h => AU (by kernel_rfl) h) (all_cons (fun h => AU (by kernel_rfl) h) (all_cons (fun h => AU (by kernel_rfl) h) (all_cons (fun _ => (.head _)) AF)))) AF ?_
   refine GD Aa ?_
   refine CL F Aa Aa Aa Aa Aa Aa Aa fun a F => ?_
   refine CK (N2 := []) (NZ2 := []) (N3 := [(some 3, b1, [.int .i64 p0.1, v1, v2]), (some 8, b1, [.int .i64 p0.1, v1, v2]), (some 15, b1, [.int .i64 p0.1, v1, v2]), (some 19, b1, [.int .i64 p0.1, v1, v2])]) (NZ3 := []) W Aa Aa (all_cons (fun h => AU (by kernel_rfl) h) (all_cons (fun h => AU (by kernel_rfl) h) (all_cons (fun h => AU (by kernel_rfl) h) (all_cons (fun h => AU (by kernel_rfl) h) AF)))) AF ?_
   refine GD Aa ?_
   refine CL F Aa Aa Aa Aa Aa Aa Aa fun a F => ?_
   refine CK (N2 := []) (NZ2 := []) (N3 := [(some 3, b1, [.int .i64 p0.1, v1, v2]), (some 8, b1, [.int .i64 p0.1, v1, v2]), (some 15, b1, [.int .i64 p0.1, v1, v2]), (some 19, b1, [.int .i64 p0.1, v1, v2])]) (NZ3 := []) W Aa Aa (all_cons (fun h => AU (by kernel_rfl) h) (all_cons (fun h => AU (by kernel_rfl) h) (all_cons (fun h => AU (by kernel_rfl) h) (all_cons (fun h => AU (by kernel_rfl) h) AF)))) AF ?_
   refine NH F Aa (Cu F Aa Aa Aa Aa Aa) Aa Aa Aa fun a F => ?_
   refine DU (R := []) F Aa Aa (yC fun M Z hN hZ => Aw F Aa Aa Aa) Aa Aa fun a F => ?_
   refine Jx (Ac ?_)
   have W := W.frontZ (i := 3) Aa Aa
   have W := W.sub (M' := [(b1, [.int .i64 p0.1, v1, v2])]) (Z' := [row v4 56 (Rp.flt .f64) x2]) (List.Sublist.refl _) (List.Sublist.cons_cons _ (List.nil_sublist _))
   exact ⟨_, H, F.re ⟨rfl, Aa, Aa, Aa, Aa, Aa, trivial⟩, W⟩
  have H := AO (by rw [hb]; decide) H
  rw [hb] at F
  clear hb
  refine PH (R := [15]) F Aa (Ag F Aa Aa Aa Aa) Aa Aa (yC fun M Z hN hZ => FF (cs := [.int .i64 p0.1, v1, v2]) (v := Value.agg #[.int .i64 p0.1, v1, v2]) F Aa (hN ((some 15), b1, [.int .i64 p0.1, v1, v2]) (.tail _ (.tail _ (.head _))) Aa) GC Aa) (by kernel_rfl) Aa fun a F => ?_
  iterate 2 refine PH (R := []) F Aa (Ag F Aa Aa Aa Aa) Aa Aa (yC fun M Z hN hZ => Af F Aa) Aa Aa fun a F => ?_
  refine PH (R := [19]) F Aa (Ag F Aa Aa Aa Aa) Aa Aa (yC fun M Z hN hZ => FF (cs := [.int .i64 p0.1, v1, v2]) (v := Value.agg #[.int .i64 p0.1, v1, v2]) F Aa (hN ((some 19), b1, [.int .i64 p0.1, v1, v2]) (.tail _ (.tail _ (.tail _ (.head _)))) Aa) GC Aa) (by kernel_rfl) Aa fun a F => ?_
  iterate 2 refine PH (R := []) F Aa (Ag F Aa Aa Aa Aa) Aa Aa (yC fun M Z hN hZ => Af F Aa) Aa Aa fun a F => ?_
  refine GD Aa ?_
  refine Lz (Ag F Aa Aa Aa Aa) ?_
  obtain ⟨x8, h7, H⟩ := Al H
  refine Bi (Ml := []) (Zl := []) (M := [(b1, [.int .i64 p0.1, v1, v2])]) (Z := [row v7 59 (Rp.int .u64) x6, row v6 59 (Rp.int .u64) x5, row v5.1 56 (Rp.flt .f64) x4, row v4 56 (Rp.flt .f64) x2]) (β := Value) (rv := fun x => x) (MM := fun x => []) (ZZ := fun x => [row x 3 (Rp.int .i64) x8]) F W Sm Aa Aa (fun hL => Hw _ w (v1) (v2) (v4) p0 x2 p2 _ h7 ((Ak h_v1) w W).nx ((Ak h_v2) w W).nx ((An 3 Aa) w W).nx) fun x a w F W => ?_
  obtain ⟨v8, rfl⟩ : ∃ y, y = x := ⟨x, rfl⟩
  have W : Stw ⟨Y, [], w0⟩ [(b1, [.int .i64 p0.1, v1, v2])] [row v8 3 (Rp.int .i64) x8, row v7 59 (Rp.int .u64) x6, row v6 59 (Rp.int .u64) x5, row v5.1 56 (Rp.flt .f64) x4, row v4 56 (Rp.flt .f64) x2] w := W
  refine CK (N2 := []) (NZ2 := []) (N3 := [(some 3, b1, [.int .i64 p0.1, v1, v2]), (some 8, b1, [.int .i64 p0.1, v1, v2]), (some 15, b1, [.int .i64 p0.1, v1, v2]), (some 19, b1, [.int .i64 p0.1, v1, v2])]) (NZ3 := []) W Aa Aa (all_cons (fun h => AU (by kernel_rfl) h) (all_cons (fun h => AU (by kernel_rfl) h) (all_cons (fun h => AU (by kernel_rfl) h) (all_cons (fun _ => (.head _)) AF)))) AF ?_
  refine GD Aa ?_
  refine Lz (Ag F Aa Aa Aa Aa) ?_
  obtain ⟨x9, h8, H⟩ := Al H
  refine Bi (Ml := []) (Zl := []) (M := [(b1, [.int .i64 p0.1, v1, v2])]) (Z := [row v8 3 (Rp.int .i64) x8, row v7 59 (Rp.int .u64) x6, row v6 59 (Rp.int .u64) x5, row v5.1 56 (Rp.flt .f64) x4, row v4 56 (Rp.flt .f64) x2]) (β := Value) (rv := fun x => x) (MM := fun x => []) (ZZ := fun x => [row x 3 (Rp.int .i64) x9]) F W Sn Aa Aa (fun hL => Jb _ w (v1) (v2) (v3) p0 p1 p2 _ h8 ((Ak h_v1) w W).nx ((Ak h_v2) w W).nx ((Ak h_v3) w W).nx) fun x a w F W => ?_
  obtain ⟨v9, rfl⟩ : ∃ y, y = x := ⟨x, rfl⟩
  have W : Stw ⟨Y, [], w0⟩ [(b1, [.int .i64 p0.1, v1, v2])] [row v9 3 (Rp.int .i64) x9, row v8 3 (Rp.int .i64) x8, row v7 59 (Rp.int .u64) x6, row v6 59 (Rp.int .u64) x5, row v5.1 56 (Rp.flt .f64) x4, row v4 56 (Rp.flt .f64) x2] w := W
  refine CK (N2 := []) (NZ2 := []) (N3 := [(some 3, b1, [.int .i64 p0.1, v1, v2]), (some 8, b1, [.int .i64 p0.1, v1, v2]), (some 15, b1, [.int .i64 p0.1, v1, v2]), (some 19, b1, [.int .i64 p0.1, v1, v2])]) (NZ3 := []) W Aa Aa (all_cons (fun h => AU (by kernel_rfl) h) (all_cons (fun h => AU (by kernel_rfl) h) (all_cons (fun h => AU (by kernel_rfl) h) (all_cons (fun h => AU (by kernel_rfl) h) AF)))) AF ?_
  refine GD Aa ?_
  refine Lz (Ag F Aa Aa Aa Aa) ?_
  obtain ⟨x10, h9, H⟩ := Al H
  refine ls F W Aa (AX (v := Value.bool x10) F RH Aa (fun w W => HF any w (v8) (v9) x8 x9 _ h9 (((An 1 Aa) : Dw _ _ _ _ _ _) w W).nx (((An 0 Aa) : Dw _ _ _ _ _ _) w W).nx)) fun a w F W => ?_
  refine CK (N2 := []) (NZ2 := []) (N3 := [(some 3, b1, [.int .i64 p0.1, v1, v2]), (some 8, b1, [.int .i64 p0.1, v1, v2]), (some 15, b1, [.int .i64 p0.1, v1, v2]), (some 19, b1, [.int .i64 p0.1, v1, v2])]) (NZ3 := []) W Aa Aa (all_cons (fun h => AU (by kernel_rfl) h) (all_cons (fun h => AU (by kernel_rfl) h) (all_cons (fun h => AU (by kernel_rfl) h) (all_cons (fun h => AU (by kernel_rfl) h) AF)))) AF ?_
  refine PH (R := []) F Aa (Ag F Aa Aa Aa Aa) Aa Aa (yC fun M Z hN hZ => E6 F Aa) Aa Aa fun a F => ?_
  refine DU (R := []) F Aa Aa (yC fun M Z hN hZ => Ay F Aa Aa Aa) Aa Aa fun a F => ?_
  refine Jx (Ac ?_)
  have W := W.frontZ (i := 5) Aa Aa
  have W := W.sub (M' := [(b1, [.int .i64 p0.1, v1, v2])]) (Z' := [row v4 56 (Rp.flt .f64) x2]) (List.Sublist.refl _) (List.Sublist.cons_cons _ (List.nil_sublist _))
  exact ⟨_, H, F.re ⟨rfl, Aa, Aa, Aa, Aa, Aa, trivial⟩, W⟩
 rintro a w ⟨x3, hj, F, W⟩
 have hj := AP hj
 subst hj
 have H := K1
 clear G1 K1
 refine Av F Aa (fun hb => ?_) fun hb => ?_
 ·
  have H := AN hb H
  rw [hb] at F
  clear hb
  refine Ah (Ab ?_)
  refine ls F W Aa (Ad F Aa).q fun a w F W => ?_
  refine Ae (Ac (Ax (AL ?_)))
  have H := AP H
  subst H
  refine AQ (.inl Aa) F W Aa (Au F Aa) ?_
  exact ⟨rfl, W.done⟩
 have H := AO (by rw [hb]; decide) H
 rw [hb] at F
 clear hb
 refine Ao (Ac (Ah (Ab ?_)))
 refine ls F W Aa (Ap (v := Value.agg #[.int .i64 p0.1, v1, v2]) 0 F Aa Aa GC Aa).q fun a w F W => ?_
 iterate 2 refine ls F W Aa (Af F Aa).q fun a w F W => ?_
 obtain ⟨x11, h10, H⟩ := Al H
 refine Bi (Ml := []) (Zl := []) (M := [(b1, [.int .i64 p0.1, v1, v2])]) (Z := [row v4 56 (Rp.flt .f64) x2]) (β := Value) (rv := fun x => .tuple #[x, .int .i64 x11.2]) (MM := fun x => []) (ZZ := fun x => [row x 3 (Rp.int .i64) x11.1]) F W SB Aa Aa (fun hL => IA _ w (v1) (v2) (v4) p0 x2 p3 _ h10 ((Ak h_v1) w W).nx ((Ak h_v2) w W).nx ((An 0 Aa) w W).nx) fun x a w F W => ?_
 obtain ⟨v10, rfl⟩ : ∃ y, y = x := ⟨x, rfl⟩
 have W : Stw ⟨Y, [], w0⟩ [(b1, [.int .i64 p0.1, v1, v2])] [row v10 3 (Rp.int .i64) x11.1, row v4 56 (Rp.flt .f64) x2] w := W
 refine ls F W Aa (Af F Aa).q fun a w F W => ?_
 refine ls F W Aa (Bj (v := v10) F Aa Aa).q fun a w F W => ?_
 refine ls F W Aa (Bj (v := Value.int .i64 x11.2) F Aa Aa).q fun a w F W => ?_
 iterate 2 refine ls F W Aa (Ad F Aa).q fun a w F W => ?_
 refine Ae (Ac (Ah (Ab ?_)))
 refine ls F W Aa (Ap (v := Value.agg #[.int .i64 p0.1, v1, v2]) 0 F Aa Aa GC Aa).q fun a w F W => ?_
 iterate 2 refine ls F W Aa (Af F Aa).q fun a w F W => ?_
 obtain ⟨x12, h11, H⟩ := Al H
 refine Bi (Ml := []) (Zl := []) (M := [(b1, [.int .i64 p0.1, v1, v2])]) (Z := [row v10 3 (Rp.int .i64) x11.1, row v4 56 (Rp.flt .f64) x2]) (β := Value) (rv := fun x => .tuple #[x, .int .i64 x12.2]) (MM := fun x => []) (ZZ := fun x => [row x 3 (Rp.int .i64) x12.1]) F W So Aa Aa (fun hL => JJ _ w (v1) (v2) (v3) p0 p1 p3 _ h11 ((Ak h_v1) w W).nx ((Ak h_v2) w W).nx ((Ak h_v3) w W).nx) fun x a w F W => ?_
 obtain ⟨v11, rfl⟩ : ∃ y, y = x := ⟨x, rfl⟩
 have W : Stw ⟨Y, [], w0⟩ [(b1, [.int .i64 p0.1, v1, v2])] [row v11 3 (Rp.int .i64) x12.1, row v10 3 (Rp.int .i64) x11.1, row v4 56 (Rp.flt .f64) x2] w := W
 refine ls F W Aa (Af F Aa).q fun a w F W => ?_
 refine ls F W Aa (Bj (v := v11) F Aa Aa).q fun a w F W => ?_
 refine ls F W Aa (Bj (v := Value.int .i64 x12.2) F Aa Aa).q fun a w F W => ?_
 iterate 2 refine ls F W Aa (Ad F Aa).q fun a w F W => ?_
 refine Ae (Ac (Ah ?_))
 obtain ⟨o2, G2, K2⟩ := Al H
 refine AE (fun a w => ∃ x13 : Bool, some (x13) = some o2 ∧ Fr 109 [] [(1, v3), (4, .pointer (some ⟨b1, 0, none⟩)), (8, .bool false), (9, v4), (69, .bool x13)] a ∧ Stw ⟨Y, [], w0⟩ [(b1, [.int .i64 p0.1, v1, v2])] [row v4 56 (Rp.flt .f64) x2] w) ?_ ?_
 ·
  have H := G2
  clear G2 K2
  refine Ab ?_
  iterate 2 refine ls F W Aa (Af F Aa).q fun a w F W => ?_
  obtain ⟨x14, h12, H⟩ := Al H
  refine ls F W Aa (AX (v := Value.bool x14) F RH Aa (fun w W => HF any w (v10) (v11) x11.1 x12.1 _ h12 (((An 1 Aa) : Dw _ _ _ _ _ _) w W).nx (((An 0 Aa) : Dw _ _ _ _ _ _) w W).nx)) fun a w F W => ?_
  refine ls F W Aa (E6 F Aa).q fun a w F W => ?_
  refine ls F W Aa (Af F Aa).q fun a w F W => ?_
  rcases Bool.eq_false_or_eq_true (!x14) with hb | hb
  ·
   have H := AN hb H
   rw [hb] at F
   clear hb
   iterate 3 refine CL F Aa Aa Aa Aa Aa Aa Aa fun a F => ?_
   refine ls F W Aa (Aw F Aa Aa Aa).q fun a w F W => ?_
   refine Ae (Ac ?_)
   have W := W.frontZ (i := 2) Aa Aa
   have W := W.sub (M' := [(b1, [.int .i64 p0.1, v1, v2])]) (Z' := [row v4 56 (Rp.flt .f64) x2]) (List.Sublist.refl _) (List.Sublist.cons_cons _ (List.nil_sublist _))
   exact ⟨_, H, F.re ⟨rfl, Aa, Aa, Aa, Aa, trivial⟩, W⟩
  have H := AO (by rw [hb]; decide) H
  rw [hb] at F
  clear hb
  iterate 2 refine AG F W (Ag F Aa Aa Aa Aa) Aa (Am Aa) (Af F Aa).q fun a w F W => ?_
  refine AG F W (Ag F Aa Aa Aa Aa) Aa (Am Aa) (GK F Aa Aa).q fun a w F W => ?_
  refine ls F W Aa (Ay F Aa Aa Aa).q fun a w F W => ?_
  refine Ae (Ac ?_)
  have W := W.frontZ (i := 2) Aa Aa
  have W := W.sub (M' := [(b1, [.int .i64 p0.1, v1, v2])]) (Z' := [row v4 56 (Rp.flt .f64) x2]) (List.Sublist.refl _) (List.Sublist.cons_cons _ (List.nil_sublist _))
  exact ⟨_, H, F.re ⟨rfl, Aa, Aa, Aa, Aa, trivial⟩, W⟩
 rintro a w ⟨x13, hj, F, W⟩
 have hj := AP hj
 subst hj
 have H := K2
 clear G2 K2
 refine Av F Aa (fun hb => ?_) fun hb => ?_
 ·
  have H := AN hb H
  rw [hb] at F
  clear hb
  refine Ah (Ab ?_)
  refine ls F W Aa (Ad F Aa).q fun a w F W => ?_
  refine Ae (Ac (Ax (AL ?_)))
  have H := AP H
  subst H
  refine AQ (.inl Aa) F W Aa (Au F Aa) ?_
  exact ⟨rfl, W.done⟩
 have H := AO (by rw [hb]; decide) H
 rw [hb] at F
 clear hb
 refine Ao (Ac (Ah (Ab ?_)))
 refine ls F W Aa (Ap (v := Value.agg #[.int .i64 p0.1, v1, v2]) 0 F Aa Aa GC Aa).q fun a w F W => ?_
 refine ls F W Aa (Af F Aa).q fun a w F W => ?_
 obtain ⟨x15, h13, H⟩ := Al H
 refine Bi (Ml := []) (Zl := []) (M := [(b1, [.int .i64 p0.1, v1, v2])]) (Z := [row v4 56 (Rp.flt .f64) x2]) (β := Value × ({x : List (Value × Nat × List Int) // x.map D8 = x15.1})) (rv := fun x => .tuple #[x.1, .int .i64 x15.2]) (MM := fun x => []) (ZZ := fun x => [Ct x.1 36 Ca x.2.1]) F W Sz Aa Aa (fun hL => GM _ w (v1) (v2) (v4) p0 x2 _ h13 ((Ak h_v1) w W).nx ((Ak h_v2) w W).nx ((An 0 Aa) w W).nx) fun x a w F W => ?_
 obtain ⟨v12, v13⟩ := x
 have W : Stw ⟨Y, [], w0⟩ [(b1, [.int .i64 p0.1, v1, v2])] [Ct v12 36 Ca v13.1, row v4 56 (Rp.flt .f64) x2] w := W
 refine ls F W Aa (Af F Aa).q fun a w F W => ?_
 refine ls F W Aa (Bj (v := v12) F Aa Aa).q fun a w F W => ?_
 refine ls F W Aa (Bj (v := Value.int .i64 x15.2) F Aa Aa).q fun a w F W => ?_
 iterate 2 refine ls F W Aa (Ad F Aa).q fun a w F W => ?_
 refine Ae (Ac (Ah (Ab ?_)))
 refine ls F W Aa (Ap (v := Value.agg #[.int .i64 p0.1, v1, v2]) 0 F Aa Aa GC Aa).q fun a w F W => ?_
 refine ls F W Aa (Af F Aa).q fun a w F W => ?_
 obtain ⟨x16, h14, H⟩ := Al H
 refine Bi (Ml := []) (Zl := []) (M := [(b1, [.int .i64 p0.1, v1, v2])]) (Z := [Ct v12 36 Ca v13.1, row v4 56 (Rp.flt .f64) x2]) (β := Value) (rv := fun x => .tuple #[x, .int .i64 x16.2]) (MM := fun x => []) (ZZ := fun x => [row x 36 (Rp.slice (Rp.int .i64)) x16.1]) F W Tr Aa Aa (fun hL => LA _ w (v1) (v2) (v3) p0 p1 _ h14 ((Ak h_v1) w W).nx ((Ak h_v2) w W).nx ((Ak h_v3) w W).nx) fun x a w F W => ?_
 obtain ⟨v14, rfl⟩ : ∃ y, y = x := ⟨x, rfl⟩
 have W : Stw ⟨Y, [], w0⟩ [(b1, [.int .i64 p0.1, v1, v2])] [row v14 36 (Rp.slice (Rp.int .i64)) x16.1, Ct v12 36 Ca v13.1, row v4 56 (Rp.flt .f64) x2] w := W
 refine ls F W Aa (Af F Aa).q fun a w F W => ?_
 refine ls F W Aa (Bj (v := v14) F Aa Aa).q fun a w F W => ?_
 refine ls F W Aa (Bj (v := Value.int .i64 x16.2) F Aa Aa).q fun a w F W => ?_
 iterate 2 refine ls F W Aa (Ad F Aa).q fun a w F W => ?_
 refine Ae (Ac (Ah ?_))
 refine AE (fun a w => Fr 109 [] [(8, .bool false), (14, v12), (15, v14), (91, .bool (decide ((x15.1.length : Int) ≠ (x16.1.length : Int)) || decide (x15.2 ≠ x16.2)))] a ∧ Stw ⟨Y, [], w0⟩ [(b1, [.int .i64 p0.1, v1, v2])] [row v14 36 (Rp.slice (Rp.int .i64)) x16.1, Ct v12 36 Ca v13.1, row v4 56 (Rp.flt .f64) x2] w) ?_ ?_
 ·
  refine Ab ?_
  refine ls F W Aa (Af F Aa).q fun a w F W => ?_
  refine ls F W Aa (NY (er := D8) v13.2 PK Aa F Aa (HW.hd (Cp 1 Aa))).q fun a w F W => ?_
  refine ls F W Aa (Af F Aa).q fun a w F W => ?_
  refine ls F W Aa (Bm (r := (Rp.slice (Rp.int .i64))) (l := x16.1) PK Aa F Aa (An 0 Aa)).q fun a w F W => ?_
  refine ls F W Aa (GK F Aa Aa).q fun a w F W => ?_
  refine ls F W Aa (Af F Aa).q fun a w F W => ?_
  rcases Bool.eq_false_or_eq_true (decide ((x15.1.length : Int) ≠ (x16.1.length : Int))) with hb0 | hb0
  ·
   rw [hb0] at F
   iterate 3 refine CL F Aa Aa Aa Aa Aa Aa Aa fun a F => ?_
   refine ls F W Aa (Aw F Aa Aa Aa).q fun a w F W => ?_
   refine Ae (Ac ?_)
   exact ⟨F.re ⟨rfl, Aa, Aa, (by show some (Value.bool true) = some (Value.bool (decide ((x15.1.length : Int) ≠ (x16.1.length : Int)) || decide (x15.2 ≠ x16.2))); try rw [hb0]; all_goals simp only [Bool.not_true, Bool.not_false, Bool.true_and, Bool.false_and, Bool.true_or, Bool.false_or, Bool.and_true, Bool.or_false, cond_true, cond_false]), trivial⟩, W⟩
  rw [hb0] at F
  iterate 2 refine AG F W (Ag F Aa Aa Aa Aa) Aa (Am Aa) (Af F Aa).q fun a w F W => ?_
  refine AG F W (Ag F Aa Aa Aa Aa) Aa (Am Aa) (GK F Aa Aa).q fun a w F W => ?_
  refine ls F W Aa (Ay F Aa Aa Aa).q fun a w F W => ?_
  refine Ae (Ac ?_)
  exact ⟨F.re ⟨rfl, Aa, Aa, (by show some (Value.bool (decide (x15.2 ≠ x16.2))) = some (Value.bool (decide ((x15.1.length : Int) ≠ (x16.1.length : Int)) || decide (x15.2 ≠ x16.2))); try rw [hb0]; all_goals simp only [Bool.not_true, Bool.not_false, Bool.true_and, Bool.false_and, Bool.true_or, Bool.false_or, Bool.and_true, Bool.or_false, cond_true, cond_false]), trivial⟩, W⟩
 rintro a w ⟨F, W⟩
 refine Av F Aa (fun hb => ?_) fun hb => ?_
 ·
  have H := AN hb H
  rw [hb] at F
  clear hb
  refine Ah (Ab ?_)
  refine ls F W Aa (Ad F Aa).q fun a w F W => ?_
  refine Ae (Ac (Ax (AL ?_)))
  have H := AP H
  subst H
  refine AQ (.inl Aa) F W Aa (Au F Aa) ?_
  exact ⟨rfl, W.done⟩
 have H := AO (by rw [hb]; decide) H
 rw [hb] at F
 clear hb
 refine Ao (Ac ?_)
 obtain ⟨o3, G3, K3, L3⟩ := MZ H
 refine AE (fun a w => some (Sum.inl ()) = some o3 ∧ Fr 109 [] [(8, .bool false)] a ∧ Stw ⟨Y, [], w0⟩ [(b1, [.int .i64 p0.1, v1, v2])] [] w) ?_ ?_
 ·
  have H := G3
  clear G3 K3
  refine Ah (Ab ?_)
  refine ls F W Aa (Ad F Aa).q fun a w F W => ?_
  refine Ae (Ac (Aq ?_))
  have W := W.frontZ (i := 1) Aa Aa
  have W := W.sub (M' := [(b1, [.int .i64 p0.1, v1, v2])]) (Z' := [Ct v12 36 Ca v13.1, row v14 36 (Rp.slice (Rp.int .i64)) x16.1]) (List.Sublist.refl _) (List.Sublist.cons_cons _ (List.Sublist.cons_cons _ (List.nil_sublist _)))
  refine A4 H (fun s a w => Fr 109 [] [(8, .bool false), (14, v12), (15, v14), (16, .int .i64 s)] a ∧ Stw ⟨Y, [], w0⟩ [(b1, [.int .i64 p0.1, v1, v2])] [Ct v12 36 Ca v13.1, row v14 36 (Rp.slice (Rp.int .i64)) x16.1] w) ⟨F.re ⟨rfl, Aa, Aa, Aa, trivial⟩, W⟩ fun s o a w H L4 hR => ?_
  obtain ⟨x17, rfl⟩ : ∃ x, x = s := ⟨s, rfl⟩
  obtain ⟨F, W⟩ := hR
  have F : Fr 109 [] [(8, .bool false), (14, v12), (15, v14), (16, .int .i64 x17)] a := F
  have W : Stw ⟨Y, [], w0⟩ [(b1, [.int .i64 p0.1, v1, v2])] [Ct v12 36 Ca v13.1, row v14 36 (Rp.slice (Rp.int .i64)) x16.1] w := W
  rw [C0] at H
  refine Ah (Ah (Ab ?_))
  iterate 2 refine ls F W Aa (Af F Aa).q fun a w F W => ?_
  refine ls F W Aa (Bm (r := (Rp.slice (Rp.int .i64))) (l := x16.1) PK Aa F Aa (An 1 Aa)).q fun a w F W => ?_
  refine ls F W Aa (Bb F Aa Aa).q fun a w F W => ?_
  refine Ae (Ac ?_)
  refine Av F Aa (fun hb => ?_) fun hb => ?_
  ·
   have H := AN (Bd hb) H
   rw [hb] at F
   clear hb
   refine Ao (Ac (Ah (Aq (Ah ?_))))
   have W := W.frontZ (i := 1) Aa Aa
   obtain ⟨v15, h15, W⟩ := W.exR Rl
   refine Cb W MO (by kernel_rfl) ?_
   iterate 2 refine qs F Aa (Af F Aa).q fun a F => ?_
   obtain ⟨x18, h16, H⟩ := Al H
   obtain ⟨v16, h17, h18⟩ := I0 (er := D8) v13.2 h16
   refine qs F Aa (AC (r := Ca.hr) PV F Aa Aa (HW.hd (Cp 1 Aa)) h17).q fun a F => ?_
   have h19 : Ca.cells v16 = [(v16.1)] := congrArg (fun q : Nat × List Int => ([(v16.1)] : List Value)) h18
   refine qs F Aa (As (y := (v16.1)) (j := 0) (i := x17) (enc := Ca.cells) F Aa Aa (HW.hd (Cp 1 Aa)) h17 Ca.flat Q0 (by rw [h19]; rfl)).q fun a F => ?_
   iterate 2 refine qs F Aa (Af F Aa).q fun a F => ?_
   obtain ⟨x19, h20, H⟩ := Al H
   obtain ⟨v17, h21, h22⟩ := I0 h15 h20
   have h23 : QR v17 = [(v17.1)] := congrArg (fun q : List Int => ([(v17.1)] : List Value)) h22
   refine qs F Aa (AC (r := (Rp.vsl (Rp.int .i64))) PV F Aa Aa (An 0 Aa) h21).q fun a F => ?_
   refine qs F Aa (As (y := (v17.1)) (j := 0) (i := x17) (enc := QR) F Aa Aa (An 0 Aa) h21 RS Q0 (by rw [h23]; rfl)).q fun a F => ?_
   obtain ⟨x20, h24, H⟩ := Al H
   obtain ⟨x21, h25, H⟩ := Al H
   refine qs F Aa (AX (v := Value.bool x20) F RH Aa (fun w W => HF any w ((v16.1)) ((v17.1)) x18.2 x19 _ h24 (((HW.sl (k := x18.1) (l := x18.2) (Cp 1 Aa) h17 Foc.here (congrArg (fun q : Nat × List Int => q) h18) (Gv h25)) : Dw _ _ _ _ _ _) w W).nx (((QS (An 0 Aa) h21 Ka.here (congrArg (fun q : List Int => q) h22)) : Dw _ _ _ _ _ _) w W).nx)) fun a F => ?_
   refine qs F Aa (E6 F Aa).q fun a F => ?_
   refine Bf fun w W => ?_
   have W := W.note (W.rowAt (k := 0) Aa h21 Ka.here (congrArg (fun q : List Int => q) h22))
   refine Ac ?_
   refine Av F Aa (fun hb => ?_) fun hb => ?_
   ·
    have H := AN hb H
    rw [hb] at F
    clear hb
    refine Ah (Ab ?_)
    refine ls F W Aa (Ad F Aa).q fun a w F W => ?_
    refine Ae (Ac (Ax (A8 ?_)))
    iterate 2 refine AL ?_
    refine A8 (AL ?_)
    have H := L4 _ H
    have H := L3 _ H
    have H := AP H
    subst H
    refine AQ (.inl Aa) F W Aa (Au F Aa) ?_
    exact ⟨rfl, W.done⟩
   have H := AO (by rw [hb]; decide) H
   rw [hb] at F
   clear hb
   refine Ao (AK (Ac (Ab ?_)))
   refine ls F W Aa (Af F Aa).q fun a w F W => ?_
   refine ls F W Aa (Bw F Aa Aa Aa).q fun a w F W => ?_
   refine ls F W Aa (Ad F Aa).q fun a w F W => ?_
   refine Ae (Ac ?_)
   have W := W.frontZ (i := 1) Aa Aa
   have W := W.hideR Rl h15
   have W := W.frontZ (i := 2) Aa Aa
   have W := W.sub (M' := [(b1, [.int .i64 p0.1, v1, v2])]) (Z' := [Ct v12 36 Ca v13.1, row v14 36 (Rp.slice (Rp.int .i64)) x16.1]) (List.Sublist.refl _) (List.Sublist.cons_cons _ (List.Sublist.cons_cons _ (List.nil_sublist _)))
   exact ⟨_, H, F.re ⟨rfl, Aa, Aa, Aa, trivial⟩, W⟩
  have H := AO (Be hb) H
  rw [hb] at F
  clear hb
  refine A9 ?_
  iterate 2 refine Bl ?_
  refine A7 (Ac ?_)
  have W := W.sub (M' := [(b1, [.int .i64 p0.1, v1, v2])]) (Z' := []) (List.Sublist.refl _) (List.nil_sublist _)
  have H := L4 _ H
  exact ⟨H, F.re ⟨rfl, trivial⟩, W⟩
 rintro a w ⟨hj, F, W⟩
 have H := K3 _ hj
 clear hj G3 K3 L3
 refine Ah (Ab ?_)
 obtain ⟨x22, h26, H⟩ := Al H
 refine ls F W Aa (AX (v := Value.bool x22) F H8 Aa (fun w W => IZ any w _ h26)) fun a w F W => ?_
 refine ls F W Aa (Ad F Aa).q fun a w F W => ?_
 refine Ae (Ac (Ax ?_))
 have H := AP H
 subst H
 refine AQ (.inl Aa) F W Aa (Au F Aa) ?_
 exact ⟨rfl, W.done⟩
noncomputable def CB (p0 : Int × (List (Int × Int × Int × Int × Int × Int)) × (List (Int × Int))) (p1 : Int) (p2 : Int) : Int → Option (Int ⊕ (Unit ⊕ (Int × Int × Int × Bool)))
  | x1 => (if x1 < (p0.2.1.length : Int) then (ix p0.2.1 x1).bind fun x2 => (if p1 = x2.1 ∧ p2 = x2.2.1 then some (.inr (.inr (x2.2.2.1, x2.2.2.2.1, x1, true))) else (if p1 = x2.2.2.1 ∧ p2 = x2.2.2.2.1 then some (.inr (.inr (x2.1, x2.2.1, x1, true))) else some (.inl (BI (x1 + 1))))) else some (.inr (.inl ())))
noncomputable def Hk (p0 : Int × (List (Int × Int × Int × Int × Int × Int)) × (List (Int × Int))) (p1 : Int) (p2 : Int) : Option (Int × Int × Int × Bool) := HK (AH (CB p0 p1 p2) 0) fun _ => some (0, 0, 0, false)
end Go.Proofs.Ytbogijdfacoccaa
