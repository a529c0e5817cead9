/- The functions of layer 21, G0. Conditions: none. -/
import Derived.Test.YtieebnllkjmjiaabA3
namespace Go.Proofs.Ytieebnllkjmjiaa
open Go Go.RowKit
set_option linter.unusedVariables false
set_option linter.unusedSimpArgs false
set_option maxRecDepth 20000
theorem Sh : Has Try.prog 24 := ⟨fun args w => Aj Try.func24 rfl (by decide) args w⟩
noncomputable def Cm (p1 : List Nat) (x3 : List Nat) (x4 : List Int) (x7 : Int) (x12 : (List (Int × Int × Int))) : (Int × Int) → Option ((Int × Int) ⊕ Int)
  | (x13, x14) => (if x14 < (x12.length : Int) then ((ix x12 x14).bind fun x16 => (if x13 < 0 then (ix x4 x16.2.1).bind fun x18 => (ix x4 x7).bind fun x19 => (if x18 = (BV (x19 - 1)) then (Dx p1 x3 x7 x16.2.2 x16.2.1).bind fun x20 => some x20 else some false) else some false).bind fun x17 => (if x17 = true then some x16.1 else some x13)).bind fun x15 => some (.inl (x15, BV (x14 + 1))) else some (.inr x13))
noncomputable def C0 (p0 : Int × (List (Int × Int × Int × Int × Int × Int)) × (List (Int × Int))) (p1 : List Nat) (p2 : Int) (x2 : Int × Int) (x3 : List Nat) (x4 : List Int) : (List Int × Int) → Option ((List Int × Int) ⊕ (List Int))
  | (x6, x7) => (if x7 < p0.1 then ((if x7 = x2.1 then (ix p0.2.2 p2).bind fun x10 => some x10.2 else some (-1)).bind fun x9 => ((Dv p0 x7).bind fun x12 => AA (Cm p1 x3 x4 x7 x12) (x9, 0)).bind fun x11 => (IQ x6 ([x11] : List Int)).bind fun x21 => some x21).bind fun x8 => some (.inl (x8, BV (x7 + 1))) else some (.inr x6))
noncomputable def DQ (p0 : Int × (List (Int × Int × Int × Int × Int × Int)) × (List (Int × Int))) (p1 : List Nat) (p2 : Int) : Option (List Int × Int) := (Df p0 p1).bind fun x1 => (if (!x1) = true then some (([] : List Int), 2) else (if (decide (p2 < 0) || decide ((p0.2.2.length : Int) ≤ p2)) = true then some (([] : List Int), 7) else (ix p0.2.2 p2).bind fun x2 => (CL p0 p1 x2.1).bind fun x3 => (DV p0 p1 x2.1).bind fun x4 => (AA (C0 p0 p1 p2 x2 x3 x4) ([], 0)).bind fun x5 => some (x5, 0)))
theorem Ky (Y : Nat → Prop) (w0 : World) (v1 : Value) (v2 : Value) (v3 : Value) (p0 : Int × (List (Int × Int × Int × Int × Int × Int)) × (List (Int × Int))) (p1 : List Nat) (p2 : Int) (r : List Int × Int) (H : DQ p0 p1 p2 = some r) (h_v1 : Sl w0 (NX []) Ev v1 p0.2.1) (h_v2 : Sl w0 (NX []) Ep v2 p0.2.2) (h_v3 : Sl w0 (NX []) (Rp.flt .f64) v3 p1) :
    Calls Try.prog 15 #[.agg #[.int .i64 p0.1, v1, v2], v3, .int .i64 p2] w0 fun e w' => ∃ x : Value, e = .returned (.tuple #[x, .int .i64 r.2]) ∧ Stw ⟨Y, [], w0⟩ [] [row (x) 3 (Rp.int .i64) r.1] w' := by
 refine enter Try.func15 Aa Try.ntmps15 Aa fun a F => ?_
 have W := Stw.start Y w0
 unfold DQ at H
 refine Ah (Ab ?_)
 refine C5 (cs := [.int .i64 p0.1, v1, v2]) F W Aa Aa Aa fun b1 a w F W => ?_
 iterate 2 refine ls F W Aa (Ae F Aa).q fun a w F W => ?_
 refine Ad (Ac (Ah (Ah (Ab ?_))))
 refine ls F W Aa (An (v := Value.agg #[.int .i64 p0.1, v1, v2]) 0 F Aa Aa GI Aa).q fun a w F W => ?_
 refine ls F W Aa (Af F Aa).q fun a w F W => ?_
 obtain ⟨x1, h1, H⟩ := Am H
 refine ls F W Aa (AW (v := Value.bool x1) F Q9 Aa (fun w W => Fp any w (v1) (v2) (v3) p0 p1 _ h1 (((Ak h_v1) : CE _ _ _ _ _ _) w W).nx (((Ak h_v2) : CE _ _ _ _ _ _) w W).nx (((Ak h_v3) : CE _ _ _ _ _ _) w W).nx)) fun a w F W => ?_
 refine ls F W Aa (EP F Aa).q fun a w F W => ?_
 refine Ad (Ac ?_)
 refine Aw F Aa (fun hb => ?_) fun hb => ?_
 ·
  have H := AM hb H
  rw [hb] at F
  clear hb
  refine Ah (Ab ?_)
  iterate 2 refine ls F W Aa (Ae F Aa).q fun a w F W => ?_
  refine Ad (Ac (Av (AH ?_)))
  have H := AP H
  subst H
  refine E2 (.inl Aa) F W Aa (Ap F Aa) (Ap F Aa) ?_
  have W := W.nilRow 3 (Rp.int .i64)
  have W := W.sub (M' := []) (Z' := [row (Value.slice none 0 0) 3 (Rp.int .i64) ([])]) (List.nil_sublist _) (List.Sublist.refl _)
  exact ⟨(Value.slice none 0 0), Aa, W⟩
 have H := AN (by rw [hb]; decide) H
 rw [hb] at F
 clear hb
 refine Aq (Ac (Ah ?_))
 refine AJ (fun a w => Fr 99 [] [(1, v3), (2, .int .i64 p2), (3, .pointer (some ⟨b1, 0, none⟩)), (6, .slice none 0 0), (7, .int .i64 0), (28, .bool (decide (p2 < 0) || decide ((p0.2.2.length : Int) ≤ p2)))] a ∧ Stw ⟨Y, [], w0⟩ [(b1, [.int .i64 p0.1, v1, v2])] [] w) ?_ ?_
 ·
  refine Ab ?_
  refine ls F W Aa (Af F Aa).q fun a w F W => ?_
  refine ls F W Aa (Bg F Aa Aa).q fun a w F W => ?_
  refine ls F W Aa (Af F Aa).q fun a w F W => ?_
  rcases Bool.eq_false_or_eq_true (decide (p2 < 0)) with hb0 | hb0
  ·
   rw [hb0] at F
   iterate 5 refine Cd F Aa Aa Aa Aa Aa Aa Aa fun a F => ?_
   refine ls F W Aa (Ao F Aa Aa Aa).q fun a w F W => ?_
   refine Ad (Ac ?_)
   exact ⟨F.re ⟨rfl, Aa, Aa, Aa, Aa, (by show some (Value.bool true) = some (Value.bool (decide (p2 < 0) || decide ((p0.2.2.length : Int) ≤ p2))); try rw [hb0]; all_goals simp only [Bool.not_true, Bool.not_false, Bool.true_and, Bool.false_and, Bool.true_or, Bool.false_or, Bool.and_true, Bool.or_false, cond_true, cond_false]), trivial⟩, W⟩
  rw [hb0] at F
  refine AF F W (Ag F Aa Aa Aa Aa) Aa (Al Aa) (Af F Aa).q fun a w F W => ?_
  refine AF F W (Ag F Aa Aa Aa Aa) Aa (Al Aa) (Ai CC Aa Aa Aa Gy F Aa 2 Aa).q fun a w F W => ?_
  refine AF F W (Ag F Aa Aa Aa Aa) Aa (Al Aa) (An (v := v2) 0 F Aa Aa Gy Aa).q fun a w F W => ?_
  refine AF F W (Ag F Aa Aa Aa Aa) Aa (Al Aa) (Bh (r := Ep) (l := p0.2.2) IG Aa F Aa (Ak h_v2)).q fun a w F W => ?_
  refine AF F W (Ag F Aa Aa Aa Aa) Aa (Al Aa) (Ei F Aa Aa).q fun a w F W => ?_
  refine ls F W Aa (Au F Aa Aa Aa).q fun a w F W => ?_
  refine Ad (Ac ?_)
  exact ⟨F.re ⟨rfl, Aa, Aa, Aa, Aa, (by show some (Value.bool (decide ((p0.2.2.length : Int) ≤ p2))) = some (Value.bool (decide (p2 < 0) || decide ((p0.2.2.length : Int) ≤ p2))); try rw [hb0]; all_goals simp only [Bool.not_true, Bool.not_false, Bool.true_and, Bool.false_and, Bool.true_or, Bool.false_or, Bool.and_true, Bool.or_false, cond_true, cond_false]), trivial⟩, W⟩
 rintro a w ⟨F, W⟩
 refine Aw F Aa (fun hb => ?_) fun hb => ?_
 ·
  have H := AM hb H
  rw [hb] at F
  clear hb
  refine Ah (Ab ?_)
  iterate 2 refine ls F W Aa (Ae F Aa).q fun a w F W => ?_
  refine Ad (Ac (Av (AH ?_)))
  have H := AP H
  subst H
  refine E2 (.inl Aa) F W Aa (Ap F Aa) (Ap F Aa) ?_
  have W := W.nilRow 3 (Rp.int .i64)
  have W := W.sub (M' := []) (Z' := [row (Value.slice none 0 0) 3 (Rp.int .i64) ([])]) (List.nil_sublist _) (List.Sublist.refl _)
  exact ⟨(Value.slice none 0 0), Aa, W⟩
 have H := AN (by rw [hb]; decide) H
 rw [hb] at F
 clear hb
 refine Aq (Ac (Ah (Ab ?_)))
 refine ls F W Aa (Ai CC Aa Aa Aa Gy F Aa 2 Aa).q fun a w F W => ?_
 refine ls F W Aa (An (v := v2) 0 F Aa Aa Gy Aa).q fun a w F W => ?_
 refine ls F W Aa (Af F Aa).q fun a w F W => ?_
 obtain ⟨x2, h2, H⟩ := Am H
 refine ls F W Aa (AK (r := Ep) Pl F Aa Aa (Ak h_v2) h2).q fun a w F W => ?_
 refine ls F W Aa (Ai JQ Aa Aa Aa T3 F Aa (E0 v2 + (p2).toNat * 2) Aa).q fun a w F W => ?_
 refine ls F W Aa (Ay (y := Value.int .i64 x2.1) (j := 0) (i := p2) F Aa Aa (Ak h_v2) h2 Po.to T3 Aa).q fun a w F W => ?_
 refine ls F W Aa (Ae F Aa).q fun a w F W => ?_
 refine Ad (Ac (Ah (Ab ?_)))
 refine ls F W Aa (An (v := Value.agg #[.int .i64 p0.1, v1, v2]) 0 F Aa Aa GI Aa).q fun a w F W => ?_
 iterate 2 refine ls F W Aa (Af F Aa).q fun a w F W => ?_
 obtain ⟨x3, h3, H⟩ := Am H
 refine BK (Ml := []) (Zl := []) (M := [(b1, [.int .i64 p0.1, v1, v2])]) (Z := []) (β := {x : Value // NN x (x3)}) (rv := fun x => x.1) (MM := fun x => []) (ZZ := fun x => [row x.1 50 (Rp.flt .f64) x3]) F W RS Aa Aa (fun hL => GQ _ w (v1) (v2) (v3) p0 p1 x2.1 _ h3 ((Ak h_v1) w W).nx ((Ak h_v2) w W).nx ((Ak h_v3) w W).nx) fun x a w F W => ?_
 obtain ⟨v4, rfl⟩ : ∃ y, y = x := ⟨x, rfl⟩
 have W : Stw ⟨Y, [], w0⟩ [(b1, [.int .i64 p0.1, v1, v2])] [row v4.1 50 (Rp.flt .f64) x3] w := W
 refine ls F W Aa (Ae F Aa).q fun a w F W => ?_
 refine Ad (Ac (Ah (Ab ?_)))
 refine ls F W Aa (An (v := Value.agg #[.int .i64 p0.1, v1, v2]) 0 F Aa Aa GI Aa).q fun a w F W => ?_
 iterate 2 refine ls F W Aa (Af F Aa).q fun a w F W => ?_
 obtain ⟨x4, h4, H⟩ := Am H
 refine BK (Ml := []) (Zl := []) (M := [(b1, [.int .i64 p0.1, v1, v2])]) (Z := [row v4.1 50 (Rp.flt .f64) x3]) (β := Value) (rv := fun x => x) (MM := fun x => []) (ZZ := fun x => [row x 3 (Rp.int .i64) x4]) F W Sh Aa Aa (fun hL => JF _ w (v1) (v2) (v3) p0 p1 x2.1 _ h4 ((Ak h_v1) w W).nx ((Ak h_v2) w W).nx ((Ak h_v3) w W).nx) fun x a w F W => ?_
 obtain ⟨v5, rfl⟩ : ∃ y, y = x := ⟨x, rfl⟩
 have W : Stw ⟨Y, [], w0⟩ [(b1, [.int .i64 p0.1, v1, v2])] [row v5 3 (Rp.int .i64) x4, row v4.1 50 (Rp.flt .f64) x3] w := W
 refine ls F W Aa (Ae F Aa).q fun a w F W => ?_
 refine Ad (Ac (Ah (Ab ?_)))
 refine ls F W Aa (Ae F Aa).q fun a w F W => ?_
 refine Ad (Ac ?_)
 obtain ⟨o1, G1, K1⟩ := Am H
 refine AJ (fun a w => ∃ x5 : List Int, ∃ v6 : Value, some (x5) = some o1 ∧ Fr 99 [] [(6, .slice none 0 0), (7, .int .i64 0), (11, v6)] a ∧ Stw ⟨Y, [], w0⟩ [(b1, [.int .i64 p0.1, v1, v2])] [row v6 3 (Rp.int .i64) x5] w) ?_ ?_
 ·
  have H := G1
  clear G1 K1
  refine Ah (Ab ?_)
  refine ls F W Aa (Ai CC Aa Aa Aa T3 F Aa 0 Aa).q fun a w F W => ?_
  refine ls F W Aa (An (v := Value.int .i64 p0.1) 0 F Aa Aa T3 Aa).q fun a w F W => ?_
  refine ls F W Aa (Af F Aa).q fun a w F W => ?_
  refine Ad (Ac (As ?_))
  have W := W.nilRow 3 (Rp.int .i64)
  have W := W.frontZ (i := 1) Aa Aa
  have W := W.frontZ (i := 2) Aa Aa
  refine A4 H (fun s a w => ∃ v7 : Value, Fr 99 [] [(1, v3), (2, .int .i64 p2), (3, .pointer (some ⟨b1, 0, none⟩)), (6, .slice none 0 0), (7, .int .i64 0), (8, .int .i64 x2.1), (9, v4.1), (10, v5), (11, v7), (44, .int .i64 p0.1), (45, .int .i64 s.2)] a ∧ Stw ⟨Y, [], w0⟩ [(b1, [.int .i64 p0.1, v1, v2])] [row v4.1 50 (Rp.flt .f64) x3, row v5 3 (Rp.int .i64) x4, row v7 3 (Rp.int .i64) s.1] w) ⟨(Value.slice none 0 0), F.re ⟨rfl, Aa, Aa, Aa, Aa, Aa, Aa, Aa, Aa, Aa, Aa, trivial⟩, W⟩ fun s o a w H L2 hR => ?_
  obtain ⟨x6, x7⟩ := s
  obtain ⟨v7, F, W⟩ := hR
  have F : Fr 99 [] [(1, v3), (2, .int .i64 p2), (3, .pointer (some ⟨b1, 0, none⟩)), (6, .slice none 0 0), (7, .int .i64 0), (8, .int .i64 x2.1), (9, v4.1), (10, v5), (11, v7), (44, .int .i64 p0.1), (45, .int .i64 x7)] a := F
  have W : Stw ⟨Y, [], w0⟩ [(b1, [.int .i64 p0.1, v1, v2])] [row v4.1 50 (Rp.flt .f64) x3, row v5 3 (Rp.int .i64) x4, row v7 3 (Rp.int .i64) x6] w := W
  rw [C0] at H
  refine Ah (Ab ?_)
  refine ls F W Aa (Bg F Aa Aa).q fun a w F W => ?_
  refine Ad (Ac (Ah ?_))
  refine Aw F Aa (fun hb => ?_) fun hb => ?_
  ·
   have H := AM (Bj hb) H
   rw [hb] at F
   clear hb
   refine Aq (Ac ?_)
   obtain ⟨o3, G3, K3⟩ := Am H
   refine AJ (fun a w => ∃ x8 : List Int, ∃ v8 : Value, some (x8) = some o3 ∧ Fr 99 [] [(1, v3), (2, .int .i64 p2), (3, .pointer (some ⟨b1, 0, none⟩)), (6, .slice none 0 0), (7, .int .i64 0), (8, .int .i64 x2.1), (9, v4.1), (10, v5), (11, v8), (44, .int .i64 p0.1), (45, .int .i64 x7)] a ∧ Stw ⟨Y, [], w0⟩ [(b1, [.int .i64 p0.1, v1, v2])] [row v4.1 50 (Rp.flt .f64) x3, row v5 3 (Rp.int .i64) x4, row v8 3 (Rp.int .i64) x8] w) ?_ ?_
   ·
    have H := G3
    clear G3 K3
    refine As (Ah (Ab ?_))
    refine ls F W Aa (Af F Aa).q fun a w F W => ?_
    refine ls F W Aa (Ae F Aa).q fun a w F W => ?_
    refine Ad (Ac (Ah (Ab ?_)))
    refine ls F W Aa (Ae F Aa).q fun a w F W => ?_
    refine Ad (Ac ?_)
    obtain ⟨o4, G4, K4⟩ := Am H
    refine AJ (fun a w => ∃ x9 : Int, some (x9) = some o4 ∧ Fr 99 [] [(1, v3), (2, .int .i64 p2), (3, .pointer (some ⟨b1, 0, none⟩)), (6, .slice none 0 0), (7, .int .i64 0), (8, .int .i64 x2.1), (9, v4.1), (10, v5), (11, v7), (12, .int .i64 x7), (13, .int .i64 x9), (44, .int .i64 p0.1), (45, .int .i64 x7)] a ∧ Stw ⟨Y, [], w0⟩ [(b1, [.int .i64 p0.1, v1, v2])] [row v4.1 50 (Rp.flt .f64) x3, row v5 3 (Rp.int .i64) x4, row v7 3 (Rp.int .i64) x6] w) ?_ ?_
    ·
     have H := G4
     clear G4 K4
     refine Ah (Ab ?_)
     iterate 2 refine ls F W Aa (Af F Aa).q fun a w F W => ?_
     refine ls F W Aa (DO F Aa Aa).q fun a w F W => ?_
     refine Ad (Ac ?_)
     refine Aw F Aa (fun hb => ?_) fun hb => ?_
     ·
      have H := AM (Bj hb) H
      rw [hb] at F
      clear hb
      refine Ab ?_
      refine ls F W Aa (Ai CC Aa Aa Aa Gy F Aa 2 Aa).q fun a w F W => ?_
      refine ls F W Aa (An (v := v2) 0 F Aa Aa Gy Aa).q fun a w F W => ?_
      refine ls F W Aa (Af F Aa).q fun a w F W => ?_
      obtain ⟨x10, h5, H⟩ := Am H
      refine ls F W Aa (AK (r := Ep) Pl F Aa Aa (Ak h_v2) h5).q fun a w F W => ?_
      refine ls F W Aa (Ai JQ Aa Aa Aa T3 F Aa (E0 v2 + (p2).toNat * 2 + 1) Aa).q fun a w F W => ?_
      refine ls F W Aa (Ay (y := Value.int .i64 x10.2) (j := 1) (i := p2) F Aa Aa (Ak h_v2) h5 Po.to T3 Aa).q fun a w F W => ?_
      refine ls F W Aa (Ae F Aa).q fun a w F W => ?_
      refine Ad (Ac ?_)
      have W := W.frontZ (i := 2) Aa Aa
      have W := W.frontZ (i := 2) Aa Aa
      have W := W.frontZ (i := 2) Aa Aa
      exact ⟨_, H, F.re ⟨rfl, Aa, Aa, Aa, Aa, Aa, Aa, Aa, Aa, Aa, Aa, Aa, Aa, trivial⟩, W⟩
     have H := AN (Bk hb) H
     rw [hb] at F
     clear hb
     refine Aq (Ac ?_)
     have W := W.frontZ (i := 2) Aa Aa
     have W := W.frontZ (i := 2) Aa Aa
     have W := W.frontZ (i := 2) Aa Aa
     exact ⟨_, H, F.re ⟨rfl, Aa, Aa, Aa, Aa, Aa, Aa, Aa, Aa, Aa, Aa, Aa, Aa, trivial⟩, W⟩
    rintro a w ⟨x9, hj, F, W⟩
    have hj := AP hj
    subst hj
    have H := K4
    clear G4 K4
    obtain ⟨o5, G5, K5⟩ := Am H
    refine AJ (fun a w => ∃ x11 : Int, some (x11) = some o5 ∧ Fr 99 [] [(1, v3), (2, .int .i64 p2), (3, .pointer (some ⟨b1, 0, none⟩)), (6, .slice none 0 0), (7, .int .i64 0), (8, .int .i64 x2.1), (9, v4.1), (10, v5), (11, v7), (13, .int .i64 x11), (44, .int .i64 p0.1), (45, .int .i64 x7)] a ∧ Stw ⟨Y, [], w0⟩ [(b1, [.int .i64 p0.1, v1, v2])] [row v4.1 50 (Rp.flt .f64) x3, row v5 3 (Rp.int .i64) x4, row v7 3 (Rp.int .i64) x6] w) ?_ ?_
    ·
     have H := G5
     clear G5 K5
     refine Ah (Ab ?_)
     refine ls F W Aa (An (v := Value.agg #[.int .i64 p0.1, v1, v2]) 0 F Aa Aa GI Aa).q fun a w F W => ?_
     refine ls F W Aa (Af F Aa).q fun a w F W => ?_
     obtain ⟨x12, h6, H⟩ := Am H
     refine BK (Ml := []) (Zl := []) (M := [(b1, [.int .i64 p0.1, v1, v2])]) (Z := [row v4.1 50 (Rp.flt .f64) x3, row v5 3 (Rp.int .i64) x4, row v7 3 (Rp.int .i64) x6]) (β := Value) (rv := fun x => x) (MM := fun x => []) (ZZ := fun x => [row x 60 CF x12]) F W Rf Aa Aa (fun hL => F6 _ w (v1) (v2) p0 x7 _ h6 ((Ak h_v1) w W).nx ((Ak h_v2) w W).nx) fun x a w F W => ?_
     obtain ⟨v9, rfl⟩ : ∃ y, y = x := ⟨x, rfl⟩
     have W : Stw ⟨Y, [], w0⟩ [(b1, [.int .i64 p0.1, v1, v2])] [row v9 60 CF x12, row v4.1 50 (Rp.flt .f64) x3, row v5 3 (Rp.int .i64) x4, row v7 3 (Rp.int .i64) x6] w := W
     refine ls F W Aa (Bh (r := CF) (l := x12) OS Aa F Aa (Ax 0 Aa)).q fun a w F W => ?_
     refine ls F W Aa (Af F Aa).q fun a w F W => ?_
     refine Ad (Ac (As ?_))
     have W := W.frontZ (i := 3) Aa Aa
     have W := W.frontZ (i := 3) Aa Aa
     have W := W.frontZ (i := 3) Aa Aa
     refine A4 H (fun s a w => Fr 99 [] [(1, v3), (2, .int .i64 p2), (3, .pointer (some ⟨b1, 0, none⟩)), (6, .slice none 0 0), (7, .int .i64 0), (8, .int .i64 x2.1), (9, v4.1), (10, v5), (11, v7), (12, .int .i64 x7), (13, .int .i64 s.1), (44, .int .i64 p0.1), (45, .int .i64 x7), (59, v9), (60, .int .i64 (x12.length : Int)), (61, .int .i64 s.2)] a ∧ Stw ⟨Y, [], w0⟩ [(b1, [.int .i64 p0.1, v1, v2])] [row v4.1 50 (Rp.flt .f64) x3, row v5 3 (Rp.int .i64) x4, row v7 3 (Rp.int .i64) x6, row v9 60 CF x12] w) ⟨F.re ⟨rfl, Aa, Aa, Aa, Aa, Aa, Aa, Aa, Aa, Aa, Aa, Aa, Aa, Aa, Aa, Aa, trivial⟩, W⟩ fun s o a w H L6 hR => ?_
     obtain ⟨x13, x14⟩ := s
     obtain ⟨F, W⟩ := hR
     have F : Fr 99 [] [(1, v3), (2, .int .i64 p2), (3, .pointer (some ⟨b1, 0, none⟩)), (6, .slice none 0 0), (7, .int .i64 0), (8, .int .i64 x2.1), (9, v4.1), (10, v5), (11, v7), (12, .int .i64 x7), (13, .int .i64 x13), (44, .int .i64 p0.1), (45, .int .i64 x7), (59, v9), (60, .int .i64 (x12.length : Int)), (61, .int .i64 x14)] a := F
     have W : Stw ⟨Y, [], w0⟩ [(b1, [.int .i64 p0.1, v1, v2])] [row v4.1 50 (Rp.flt .f64) x3, row v5 3 (Rp.int .i64) x4, row v7 3 (Rp.int .i64) x6, row v9 60 CF x12] w := W
     rw [Cm] at H
     refine Ah (Ab ?_)
     refine ls F W Aa (Bg F Aa Aa).q fun a w F W => ?_
     refine Ad (Ac (Ah ?_))
     refine Aw F Aa (fun hb => ?_) fun hb => ?_
     ·
      have H := AM (Bj hb) H
      rw [hb] at F
      clear hb
      refine Aq (Ac ?_)
      obtain ⟨o7, G7, K7⟩ := Am H
      refine AJ (fun a w => ∃ x15 : Int, some (x15) = some o7 ∧ Fr 99 [] [(1, v3), (2, .int .i64 p2), (3, .pointer (some ⟨b1, 0, none⟩)), (6, .slice none 0 0), (7, .int .i64 0), (8, .int .i64 x2.1), (9, v4.1), (10, v5), (11, v7), (12, .int .i64 x7), (13, .int .i64 x15), (44, .int .i64 p0.1), (45, .int .i64 x7), (59, v9), (60, .int .i64 (x12.length : Int)), (61, .int .i64 x14)] a ∧ Stw ⟨Y, [], w0⟩ [(b1, [.int .i64 p0.1, v1, v2])] [row v4.1 50 (Rp.flt .f64) x3, row v5 3 (Rp.int .i64) x4, row v7 3 (Rp.int .i64) x6, row v9 60 CF x12] w) ?_ ?_
      ·
       have H := G7
       clear G7 K7
       refine As (Ah (Ab ?_))
       obtain ⟨x16, h7, H⟩ := Am H
       refine ls F W Aa (AK (r := CF) ND F Aa Aa (Ax 3 Aa) h7).q fun a w F W => ?_
       refine ls F W Aa (Ay (y := Value.agg #[.int .i64 x16.1, .int .i64 x16.2.1, .int .i64 x16.2.2]) (j := 0) (i := x14) F Aa Aa (Ax 3 Aa) h7 Oy.to NP Aa).q fun a w F W => ?_
       refine CB (cs := [.int .i64 0, .int .i64 0, .int .i64 0]) F W Aa QF Aa fun b2 a w F W => ?_
       refine C4 (vs := [.int .i64 x16.1, .int .i64 x16.2.1, .int .i64 x16.2.2]) (M' := [(b2, [.int .i64 x16.1, .int .i64 x16.2.1, .int .i64 x16.2.2]), (b1, [.int .i64 p0.1, v1, v2])]) 0 F W Aa Aa Aa NP Aa Aa Aa Aa Aa fun w W => ?_
       refine Ad (Ac ?_)
       obtain ⟨o8, G8, K8⟩ := Am H
       refine AJ (fun a w => ∃ x17 : Bool, some (x17) = some o8 ∧ Fr 99 [] [(1, v3), (2, .int .i64 p2), (3, .pointer (some ⟨b1, 0, none⟩)), (6, .slice none 0 0), (7, .int .i64 0), (8, .int .i64 x2.1), (9, v4.1), (10, v5), (11, v7), (12, .int .i64 x7), (13, .int .i64 x13), (15, .pointer (some ⟨b2, 0, none⟩)), (44, .int .i64 p0.1), (45, .int .i64 x7), (59, v9), (60, .int .i64 (x12.length : Int)), (61, .int .i64 x14), (89, .bool x17)] a ∧ Stw ⟨Y, [], w0⟩ [(b2, [.int .i64 x16.1, .int .i64 x16.2.1, .int .i64 x16.2.2]), (b1, [.int .i64 p0.1, v1, v2])] [row v4.1 50 (Rp.flt .f64) x3, row v5 3 (Rp.int .i64) x4, row v7 3 (Rp.int .i64) x6, row v9 60 CF x12] w) ?_ ?_
       ·
        have H := G8
        clear G8 K8
        refine Cn W MO (by kernel_rfl) ?_
        refine qs F Aa (Af F Aa).q fun a F => ?_
        refine qs F Aa (Bg F Aa Aa).q fun a F => ?_
        refine qs F Aa (Af F Aa).q fun a F => ?_
        rcases Bool.eq_false_or_eq_true (decide (x13 < 0)) with hb | hb
        ·
         have H := AM (Bj hb) H
         rw [hb] at F
         clear hb
         refine BW F (Ag F Aa Aa Aa Aa) Aa (Al Aa) (Af F Aa).q fun a F => ?_
         refine BW F (Ag F Aa Aa Aa Aa) Aa (Al Aa) (Ai GJ Aa Aa Aa T3 F Aa 1 Aa).q fun a F => ?_
         refine BW F (Ag F Aa Aa Aa Aa) Aa (Al Aa) (An (v := Value.int .i64 x16.2.1) 0 F Aa Aa T3 Aa).q fun a F => ?_
         obtain ⟨x18, h8, H⟩ := Am H
         refine BW F (Ag F Aa Aa Aa Aa) Aa (Al Aa) (AK (r := (Rp.int .i64)) EQ F Aa Aa (Ax 1 Aa) h8).q fun a F => ?_
         refine BW F (Ag F Aa Aa Aa Aa) Aa (Al Aa) (Ay (y := Value.int .i64 x18) (j := 0) (i := x16.2.1) F Aa Aa (Ax 1 Aa) h8 Fl.int.to T3 Aa).q fun a F => ?_
         iterate 2 refine BW F (Ag F Aa Aa Aa Aa) Aa (Al Aa) (Af F Aa).q fun a F => ?_
         obtain ⟨x19, h9, H⟩ := Am H
         refine BW F (Ag F Aa Aa Aa Aa) Aa (Al Aa) (AK (r := (Rp.int .i64)) EQ F Aa Aa (Ax 1 Aa) h9).q fun a F => ?_
         refine BW F (Ag F Aa Aa Aa Aa) Aa (Al Aa) (Ay (y := Value.int .i64 x19) (j := 0) (i := x7) F Aa Aa (Ax 1 Aa) h9 Fl.int.to T3 Aa).q fun a F => ?_
         refine BW F (Ag F Aa Aa Aa Aa) Aa (Al Aa) (Gi F Aa Aa Aa).q fun a F => ?_
         refine BW F (Ag F Aa Aa Aa Aa) Aa (Al Aa) (DO F Aa Aa).q fun a F => ?_
         refine qs F Aa (Ao F Aa Aa Aa).q fun a F => ?_
         refine qs F Aa (Af F Aa).q fun a F => ?_
         rcases Bool.eq_false_or_eq_true (decide (x18 = (BV (x19 - 1)))) with hb | hb
         ·
          have H := AM (Bj hb) H
          rw [hb] at F
          clear hb
          iterate 3 refine BW F (Ag F Aa Aa Aa Aa) Aa (Al Aa) (Af F Aa).q fun a F => ?_
          refine BW F (Ag F Aa Aa Aa Aa) Aa (Al Aa) (Ai GJ Aa Aa Aa T3 F Aa 2 Aa).q fun a F => ?_
          refine BW F (Ag F Aa Aa Aa Aa) Aa (Al Aa) (An (v := Value.int .i64 x16.2.2) 0 F Aa Aa T3 Aa).q fun a F => ?_
          refine BW F (Ag F Aa Aa Aa Aa) Aa (Al Aa) (Ai GJ Aa Aa Aa T3 F Aa 1 Aa).q fun a F => ?_
          refine BW F (Ag F Aa Aa Aa Aa) Aa (Al Aa) (An (v := Value.int .i64 x16.2.1) 0 F Aa Aa T3 Aa).q fun a F => ?_
          obtain ⟨x20, h10, H⟩ := Am H
          refine BW F (Ag F Aa Aa Aa Aa) Aa (Al Aa) (AW (v := Value.bool x20) F RN Aa (fun w W => Gx any w (v3) (v4.1) p1 x3 x7 x16.2.2 x16.2.1 _ h10 (((Ak h_v3) : CE _ _ _ _ _ _) w W).nx (((Ax 0 Aa) : CE _ _ _ _ _ _) w W).nx)) fun a F => ?_
          refine qs F Aa (Ao F Aa Aa Aa).q fun a F => ?_
          refine Bo fun w W => ?_
          refine Ac ?_
          have W := W.frontZ (i := 3) Aa Aa
          have W := W.frontZ (i := 3) Aa Aa
          have W := W.frontZ (i := 3) Aa Aa
          have W := W.frontZ (i := 3) Aa Aa
          have W := W.frontM (i := 1) Aa Aa
          have W := W.frontM (i := 1) Aa Aa
          exact ⟨_, H, F.re ⟨rfl, Aa, Aa, Aa, Aa, Aa, Aa, Aa, Aa, Aa, Aa, Aa, Aa, Aa, Aa, Aa, Aa, Aa, trivial⟩, W⟩
         have H := AN (Bk hb) H
         rw [hb] at F
         clear hb
         iterate 8 refine ER F (DN F Aa Aa Aa Aa Aa) Aa Aa fun a F => ?_
         refine qs F Aa (Au F Aa Aa Aa).q fun a F => ?_
         refine Bo fun w W => ?_
         refine Ac ?_
         have W := W.frontZ (i := 3) Aa Aa
         have W := W.frontZ (i := 3) Aa Aa
         have W := W.frontZ (i := 3) Aa Aa
         have W := W.frontZ (i := 3) Aa Aa
         have W := W.frontM (i := 1) Aa Aa
         have W := W.frontM (i := 1) Aa Aa
         exact ⟨_, H, F.re ⟨rfl, Aa, Aa, Aa, Aa, Aa, Aa, Aa, Aa, Aa, Aa, Aa, Aa, Aa, Aa, Aa, Aa, Aa, trivial⟩, W⟩
        have H := AN (Bk hb) H
        rw [hb] at F
        clear hb
        iterate 11 refine ER F (DN F Aa Aa Aa Aa Aa) Aa Aa fun a F => ?_
        refine qs F Aa (Au F Aa Aa Aa).q fun a F => ?_
        refine qs F Aa (Af F Aa).q fun a F => ?_
        iterate 8 refine ER F (DN F Aa Aa Aa Aa Aa) Aa Aa fun a F => ?_
        refine qs F Aa (Au F Aa Aa Aa).q fun a F => ?_
        refine Bo fun w W => ?_
        refine Ac ?_
        have W := W.frontZ (i := 3) Aa Aa
        have W := W.frontZ (i := 3) Aa Aa
        have W := W.frontZ (i := 3) Aa Aa
        have W := W.frontZ (i := 3) Aa Aa
        have W := W.frontM (i := 1) Aa Aa
        have W := W.frontM (i := 1) Aa Aa
        exact ⟨_, H, F.re ⟨rfl, Aa, Aa, Aa, Aa, Aa, Aa, Aa, Aa, Aa, Aa, Aa, Aa, Aa, Aa, Aa, Aa, Aa, trivial⟩, W⟩
       rintro a w ⟨x17, hj, F, W⟩
       have hj := AP hj
       subst hj
       have H := K8
       clear G8 K8
       refine Aw F Aa (fun hb => ?_) fun hb => ?_
       ·
        have H := AM hb H
        rw [hb] at F
        clear hb
        refine Ab ?_
        refine ls F W Aa (Ai GJ Aa Aa Aa T3 F Aa 0 Aa).q fun a w F W => ?_
        refine ls F W Aa (An (v := Value.int .i64 x16.1) 0 F Aa Aa T3 Aa).q fun a w F W => ?_
        refine ls F W Aa (Ae F Aa).q fun a w F W => ?_
        refine Ad (AR (Ac ?_))
        have W := W.frontZ (i := 3) Aa Aa
        have W := W.frontZ (i := 3) Aa Aa
        have W := W.frontZ (i := 3) Aa Aa
        have W := W.frontZ (i := 3) Aa Aa
        have W := W.frontM (i := 1) Aa Aa
        have W := W.sub (M' := [(b1, [.int .i64 p0.1, v1, v2])]) (Z' := [row v4.1 50 (Rp.flt .f64) x3, row v5 3 (Rp.int .i64) x4, row v7 3 (Rp.int .i64) x6, row v9 60 CF x12]) (List.Sublist.cons_cons _ (List.nil_sublist _)) (List.Sublist.refl _)
        exact ⟨_, H, F.re ⟨rfl, Aa, Aa, Aa, Aa, Aa, Aa, Aa, Aa, Aa, Aa, Aa, Aa, Aa, Aa, Aa, trivial⟩, W⟩
       have H := AN (by rw [hb]; decide) H
       rw [hb] at F
       clear hb
       refine Aq (AR (Ac ?_))
       have W := W.frontZ (i := 3) Aa Aa
       have W := W.frontZ (i := 3) Aa Aa
       have W := W.frontZ (i := 3) Aa Aa
       have W := W.frontZ (i := 3) Aa Aa
       have W := W.frontM (i := 1) Aa Aa
       have W := W.sub (M' := [(b1, [.int .i64 p0.1, v1, v2])]) (Z' := [row v4.1 50 (Rp.flt .f64) x3, row v5 3 (Rp.int .i64) x4, row v7 3 (Rp.int .i64) x6, row v9 60 CF x12]) (List.Sublist.cons_cons _ (List.nil_sublist _)) (List.Sublist.refl _)
       exact ⟨_, H, F.re ⟨rfl, Aa, Aa, Aa, Aa, Aa, Aa, Aa, Aa, Aa, Aa, Aa, Aa, Aa, Aa, Aa, trivial⟩, W⟩
      rintro a w ⟨x15, hj, F, W⟩
      have hj := AP hj
      subst hj
      have H := K7
      clear G7 K7
      refine Ab ?_
      refine ls F W Aa (BB F Aa Aa Aa).q fun a w F W => ?_
      refine ls F W Aa (Af F Aa).q fun a w F W => ?_
      refine Ad (Ac ?_)
      have W := W.frontZ (i := 3) Aa Aa
      have W := W.frontZ (i := 3) Aa Aa
      have W := W.frontZ (i := 3) Aa Aa
      have W := W.frontZ (i := 3) Aa Aa
      exact ⟨_, H, F.re ⟨rfl, Aa, Aa, Aa, Aa, Aa, Aa, Aa, Aa, Aa, Aa, Aa, Aa, Aa, Aa, Aa, trivial⟩, W⟩
     have H := AN (Bk hb) H
     rw [hb] at F
     clear hb
     refine Ba ?_
     iterate 2 refine Br ?_
     refine Bb (Ac ?_)
     have W := W.frontZ (i := 2) Aa Aa
     have W := W.frontZ (i := 2) Aa Aa
     have W := W.frontZ (i := 2) Aa Aa
     have W := W.sub (M' := [(b1, [.int .i64 p0.1, v1, v2])]) (Z' := [row v4.1 50 (Rp.flt .f64) x3, row v5 3 (Rp.int .i64) x4, row v7 3 (Rp.int .i64) x6]) (List.Sublist.refl _) (List.Sublist.cons_cons _ (List.Sublist.cons_cons _ (List.Sublist.cons_cons _ (List.nil_sublist _))))
     have H := L6 _ H
     exact ⟨_, H, F.re ⟨rfl, Aa, Aa, Aa, Aa, Aa, Aa, Aa, Aa, Aa, Aa, Aa, trivial⟩, W⟩
    rintro a w ⟨x11, hj, F, W⟩
    have hj := AP hj
    subst hj
    have H := K5
    clear G5 K5
    refine Ab ?_
    iterate 2 refine ls F W Aa (Af F Aa).q fun a w F W => ?_
    refine Cr (z := Value.int .i64 0) (cs := [.int .i64 x11]) (Rp.int .i64) ([x11] : List Int) F W Aa EQ Z3 Aa Aa Aa Aa Aa Aa (Fl.int.repL _ _ ([x11] : List Int)) fun v10 a w F W => ?_
    obtain ⟨x21, h11, H⟩ := Am H
    refine DM (r := (Rp.int .i64)) (i := 3) F W Aa EQ Aa Aa Aa Aa (DP W 0 Aa) h11 Aa fun v11 a w F W => ?_
    have W : Stw ⟨Y, [], w0⟩ [(b1, [.int .i64 p0.1, v1, v2])] [row v11 3 (Rp.int .i64) x21, row v10 3 (Rp.int .i64) ([x11] : List Int), row v4.1 50 (Rp.flt .f64) x3, row v5 3 (Rp.int .i64) x4] w := W
    refine ls F W Aa (Ae F Aa).q fun a w F W => ?_
    refine Ad (AR (Ac ?_))
    have W := W.frontZ (i := 3) Aa Aa
    have W := W.frontZ (i := 3) Aa Aa
    have W := W.sub (M' := [(b1, [.int .i64 p0.1, v1, v2])]) (Z' := [row v4.1 50 (Rp.flt .f64) x3, row v5 3 (Rp.int .i64) x4, row v11 3 (Rp.int .i64) x21]) (List.Sublist.refl _) (List.Sublist.cons_cons _ (List.Sublist.cons_cons _ (List.Sublist.cons_cons _ (List.nil_sublist _))))
    exact ⟨_, (v11), H, F.re ⟨rfl, Aa, Aa, Aa, Aa, Aa, Aa, Aa, Aa, Aa, Aa, trivial⟩, W⟩
   rintro a w ⟨x8, v8, hj, F, W⟩
   have hj := AP hj
   subst hj
   have H := K3
   clear G3 K3
   refine Ab ?_
   refine ls F W Aa (BB F Aa Aa Aa).q fun a w F W => ?_
   refine ls F W Aa (Af F Aa).q fun a w F W => ?_
   refine Ad (Ac ?_)
   have W := W.frontZ (i := 2) Aa Aa
   have W := W.frontZ (i := 2) Aa Aa
   have W := W.frontZ (i := 2) Aa Aa
   exact ⟨_, H, (v8), F.re ⟨rfl, Aa, Aa, Aa, Aa, Aa, Aa, Aa, Aa, Aa, Aa, trivial⟩, W⟩
  have H := AN (Bk hb) H
  rw [hb] at F
  clear hb
  refine Ba ?_
  iterate 2 refine Br ?_
  refine Bb (Ac ?_)
  have W := W.frontZ (i := 2) Aa Aa
  have W := W.sub (M' := [(b1, [.int .i64 p0.1, v1, v2])]) (Z' := [row v7 3 (Rp.int .i64) x6]) (List.Sublist.refl _) (List.Sublist.cons_cons _ (List.nil_sublist _))
  have H := L2 _ H
  exact ⟨_, (v7), H, F.re ⟨rfl, Aa, Aa, trivial⟩, W⟩
 rintro a w ⟨x5, v6, hj, F, W⟩
 have hj := AP hj
 subst hj
 have H := K1
 clear G1 K1
 refine Ah (Ab ?_)
 refine ls F W Aa (Af F Aa).q fun a w F W => ?_
 iterate 2 refine ls F W Aa (Ae F Aa).q fun a w F W => ?_
 refine Ad (Ac (Av ?_))
 have H := AP H
 subst H
 refine E2 (.inl Aa) F W Aa (Ap F Aa) (Ap F Aa) ?_
 have W := W.sub (M' := []) (Z' := [row v6 3 (Rp.int .i64) x5]) (List.nil_sublist _) (List.Sublist.refl _)
 exact ⟨(v6), Aa, W⟩
theorem SE : Has Try.prog 15 := ⟨fun args w => Aj Try.func15 rfl (by decide) args w⟩
noncomputable def BI (x7 : List Int × Int) : ((List (Nat × List Int)) × Int) → Option (((List (Nat × List Int)) × Int) ⊕ ((List (Nat × List Int)) ⊕ (((List (Nat × List Int)) × Int) ⊕ ((List (Nat × List Int)) ⊕ ((List (Nat × List Int)) × Int)))))
  | (x8, x9) => (if x9 < (x7.1.length : Int) then (ix x7.1 x9).bind fun x10 => (if x10 < 0 then some (.inr (.inr (.inr (.inr (([] : List (Nat × List Int)), 7))))) else (ix x8 x9).bind fun x11 => (Ps x11.1).bind fun x12 => (IQ x11.2 ([x10] : List Int)).bind fun x13 => (ix (AE x8 x9 (0, [])) x9).bind fun x14 => (ix (AE x8 x9 (0, [])) x9).bind fun x15 => some (.inl ((AE (AE x8 x9 (0, [])) x9 (2, x13)), BV (x9 + 1)))) else some (.inr (.inl x8)))
noncomputable def Cc (p0 : Int × (List (Int × Int × Int × Int × Int × Int)) × (List (Int × Int))) (p1 : List Nat) : ((List (Nat × List Int)) × Int) → Option (((List (Nat × List Int)) × Int) ⊕ ((List (Nat × List Int)) ⊕ ((List (Nat × List Int)) × Int)))
  | (x4, x5) => (if x5 < (p0.2.2.length : Int) then Fv ((DQ p0 p1 x5).bind fun x7 => AA (BI x7) (x4, 0)) fun x6 => some (.inl (x6, BV (x5 + 1))) else some (.inr (.inl x4)))
noncomputable def Ea (p0 : Int × (List (Int × Int × Int × Int × Int × Int)) × (List (Int × Int))) (p1 : List Nat) : Option ((List (Nat × List Int)) × Int) := (Df p0 p1).bind fun x1 => (if (!x1) = true then some (([] : List (Nat × List Int)), 2) else (mk p0.1 ((2, []) : Nat × List Int)).bind fun x2 => Fv (AA (Cc p0 p1) (x2, 0)) fun x3 => some (x3, 0))
theorem Jm (Y : Nat → Prop) (w0 : World) (v1 : Value) (v2 : Value) (v3 : Value) (p0 : Int × (List (Int × Int × Int × Int × Int × Int)) × (List (Int × Int))) (p1 : List Nat) (r : (List (Nat × List Int)) × Int) (H : Ea p0 p1 = some r) (h_v1 : Sl w0 (NX []) Ev v1 p0.2.1) (h_v2 : Sl w0 (NX []) Ep v2 p0.2.2) (h_v3 : Sl w0 (NX []) (Rp.flt .f64) v3 p1) :
    Calls Try.prog 7 #[.agg #[.int .i64 p0.1, v1, v2], v3] w0 fun e w' => ∃ x : Value × ({x : List (Value × Nat × List Int) // x.map Eh = r.1}), e = .returned (.tuple #[x.1, .int .i64 r.2]) ∧ Stw ⟨Y, [], w0⟩ [] [Ct (x.1) 37 Dc (x.2.1)] w' := by
 refine enter Try.func7 Aa Try.ntmps7 Aa fun a F => ?_
 have W := Stw.start Y w0
 unfold Ea at H
 refine Ah (Ab ?_)
 refine C5 (cs := [.int .i64 p0.1, v1, v2]) F W Aa Aa Aa fun b1 a w F W => ?_
 iterate 2 refine ls F W Aa (Ae F Aa).q fun a w F W => ?_
 refine Ad (Ac (Ah (Ah (Ab ?_))))
 refine ls F W Aa (An (v := Value.agg #[.int .i64 p0.1, v1, v2]) 0 F Aa Aa GI Aa).q fun a w F W => ?_
 refine ls F W Aa (Af F Aa).q fun a w F W => ?_
 obtain ⟨x1, h1, H⟩ := Am H
 refine ls F W Aa (AW (v := Value.bool x1) F Q9 Aa (fun w W => Fp any w (v1) (v2) (v3) p0 p1 _ h1 (((Ak h_v1) : CE _ _ _ _ _ _) w W).nx (((Ak h_v2) : CE _ _ _ _ _ _) w W).nx (((Ak h_v3) : CE _ _ _ _ _ _) w W).nx)) fun a w F W => ?_
 refine ls F W Aa (EP F Aa).q fun a w F W => ?_
 refine Ad (Ac ?_)
 refine Aw F Aa (fun hb => ?_) fun hb => ?_
 ·
  have H := AM hb H
  rw [hb] at F
  clear hb
  refine Ah (Ab ?_)
  iterate 2 refine ls F W Aa (Ae F Aa).q fun a w F W => ?_
  refine Ad (Ac (Av (AH ?_)))
  have H := AP H
  subst H
  refine E2 (.inl Aa) F W Aa (Ap F Aa) (Ap F Aa) ?_
  have W := W.dNil 37 Dc
  have h2 : List.map Eh ([] : List (Value × Nat × List Int)) = ([] : List (Nat × List Int)) := Aa
  have W := W.sub (M' := []) (Z' := [Ct (Value.slice none 0 0) 37 Dc ([] : List (Value × Nat × List Int))]) (List.nil_sublist _) (List.Sublist.refl _)
  exact ⟨((Value.slice none 0 0), ⟨[], Aa⟩), Aa, W⟩
 have H := AN (by rw [hb]; decide) H
 rw [hb] at F
 clear hb
 refine Aq (Ac (Ah (Ab ?_)))
 refine ls F W Aa (Ai CC Aa Aa Aa T3 F Aa 0 Aa).q fun a w F W => ?_
 refine ls F W Aa (An (v := Value.int .i64 p0.1) 0 F Aa Aa T3 Aa).q fun a w F W => ?_
 obtain ⟨x2, h3, H⟩ := Am H
 have h4 := QR (er := Eh) (z := (Value.slice none 0 0, 2, [])) h3
 refine LT (r := Dc.hr) (Value.slice none 0 0, 2, []) F W Aa Nx QE Aa Aa (fun w A => ⟨rfl, Aa⟩) h4.1 Aa fun v4 a w F W => ?_
 have W := Stw.dNew (D := Dc) Nl.sl W
 have h5 : List.map Eh (List.replicate (p0.1).toNat ((Value.slice none 0 0, 2, []) : Value × Nat × List Int)) = x2 := h4.2
 have W : Stw ⟨Y, [], w0⟩ [(b1, [.int .i64 p0.1, v1, v2])] [Ct v4 37 Dc (List.replicate (p0.1).toNat ((Value.slice none 0 0, 2, []) : Value × Nat × List Int))] w := W
 refine ls F W Aa (Ae F Aa).q fun a w F W => ?_
 refine Ad (Ac ?_)
 obtain ⟨o1, G1, K1, L1⟩ := KJ H
 refine AJ (fun a w => ∃ x3 : List (Nat × List Int), ∃ g_x3 : {x : List (Value × Nat × List Int) // x.map Eh = x3}, some (Sum.inl x3) = some o1 ∧ Fr 54 [] [(4, .slice none 0 0), (5, .int .i64 0), (6, v4)] a ∧ Stw ⟨Y, [], w0⟩ [(b1, [.int .i64 p0.1, v1, v2])] [Ct v4 37 Dc g_x3.1] w) ?_ ?_
 ·
  have H := G1
  clear G1 K1
  refine Ah (Ab ?_)
  refine ls F W Aa (Ai CC Aa Aa Aa Gy F Aa 2 Aa).q fun a w F W => ?_
  refine ls F W Aa (An (v := v2) 0 F Aa Aa Gy Aa).q fun a w F W => ?_
  refine ls F W Aa (Bh (r := Ep) (l := p0.2.2) IG Aa F Aa (Ak h_v2)).q fun a w F W => ?_
  refine ls F W Aa (Af F Aa).q fun a w F W => ?_
  refine Ad (Ac (As ?_))
  refine A4 H (fun s a w => ∃ g_x4 : {x : List (Value × Nat × List Int) // x.map Eh = s.1}, Fr 54 [] [(1, v3), (2, .pointer (some ⟨b1, 0, none⟩)), (4, .slice none 0 0), (5, .int .i64 0), (6, v4), (21, .int .i64 (p0.2.2.length : Int)), (22, .int .i64 s.2)] a ∧ Stw ⟨Y, [], w0⟩ [(b1, [.int .i64 p0.1, v1, v2])] [Ct v4 37 Dc g_x4.1] w) ⟨⟨(List.replicate (p0.1).toNat ((Value.slice none 0 0, 2, []) : Value × Nat × List Int)), h5⟩, F.re ⟨rfl, Aa, Aa, Aa, Aa, Aa, Aa, trivial⟩, W⟩ fun s o a w H L2 hR => ?_
  obtain ⟨x4, x5⟩ := s
  obtain ⟨g_x4, F, W⟩ := hR
  have F : Fr 54 [] [(1, v3), (2, .pointer (some ⟨b1, 0, none⟩)), (4, .slice none 0 0), (5, .int .i64 0), (6, v4), (21, .int .i64 (p0.2.2.length : Int)), (22, .int .i64 x5)] a := F
  have W : Stw ⟨Y, [], w0⟩ [(b1, [.int .i64 p0.1, v1, v2])] [Ct v4 37 Dc g_x4.1] w := W
  rw [Cc] at H
  refine Ah (Ab ?_)
  refine ls F W Aa (Bg F Aa Aa).q fun a w F W => ?_
  refine Ad (Ac (Ah ?_))
  refine Aw F Aa (fun hb => ?_) fun hb => ?_
  ·
   have H := AM (Bj hb) H
   rw [hb] at F
   clear hb
   refine Aq (Ac ?_)
   obtain ⟨o3, G3, K3, L3⟩ := KJ H
   refine AJ (fun a w => ∃ x6 : List (Nat × List Int), ∃ g_x6 : {x : List (Value × Nat × List Int) // x.map Eh = x6}, some (Sum.inl x6) = some o3 ∧ Fr 54 [] [(1, v3), (2, .pointer (some ⟨b1, 0, none⟩)), (4, .slice none 0 0), (5, .int .i64 0), (6, v4), (21, .int .i64 (p0.2.2.length : Int)), (22, .int .i64 x5)] a ∧ Stw ⟨Y, [], w0⟩ [(b1, [.int .i64 p0.1, v1, v2])] [Ct v4 37 Dc g_x6.1] w) ?_ ?_
   ·
    have H := G3
    clear G3 K3
    refine As (Ah (Ab ?_))
    refine ls F W Aa (Af F Aa).q fun a w F W => ?_
    refine ls F W Aa (Ae F Aa).q fun a w F W => ?_
    refine Ad (Ac (Ah (Ab ?_)))
    refine ls F W Aa (An (v := Value.agg #[.int .i64 p0.1, v1, v2]) 0 F Aa Aa GI Aa).q fun a w F W => ?_
    iterate 2 refine ls F W Aa (Af F Aa).q fun a w F W => ?_
    obtain ⟨x7, h6, H⟩ := Am H
    refine BK (Ml := []) (Zl := []) (M := [(b1, [.int .i64 p0.1, v1, v2])]) (Z := [Ct v4 37 Dc g_x4.1]) (β := Value) (rv := fun x => .tuple #[x, .int .i64 x7.2]) (MM := fun x => []) (ZZ := fun x => [row x 3 (Rp.int .i64) x7.1]) F W SE Aa Aa (fun hL => Ky _ w (v1) (v2) (v3) p0 p1 x5 _ h6 ((Ak h_v1) w W).nx ((Ak h_v2) w W).nx ((Ak h_v3) w W).nx) fun x a w F W => ?_
    obtain ⟨v5, rfl⟩ : ∃ y, y = x := ⟨x, rfl⟩
    have W : Stw ⟨Y, [], w0⟩ [(b1, [.int .i64 p0.1, v1, v2])] [row v5 3 (Rp.int .i64) x7.1, Ct v4 37 Dc g_x4.1] w := W
    refine ls F W Aa (Af F Aa).q fun a w F W => ?_
    refine ls F W Aa (Bc (v := v5) F Aa Aa).q fun a w F W => ?_
    refine ls F W Aa (Bc (v := Value.int .i64 x7.2) F Aa Aa).q fun a w F W => ?_
    iterate 2 refine ls F W Aa (Ae F Aa).q fun a w F W => ?_
    refine Ad (Ac (Ah (Ab ?_)))
    refine ls F W Aa (Af F Aa).q fun a w F W => ?_
    refine ls F W Aa (Bh (r := (Rp.int .i64)) (l := x7.1) GH Aa F Aa (Ax 0 Aa)).q fun a w F W => ?_
    refine ls F W Aa (Af F Aa).q fun a w F W => ?_
    refine Ad (Ac (As ?_))
    have W := W.frontZ (i := 1) Aa Aa
    refine A4 H (fun s a w => ∃ g_x8 : {x : List (Value × Nat × List Int) // x.map Eh = s.1}, Fr 54 [] [(1, v3), (2, .pointer (some ⟨b1, 0, none⟩)), (4, .slice none 0 0), (5, .int .i64 0), (6, v4), (21, .int .i64 (p0.2.2.length : Int)), (22, .int .i64 x5), (32, v5), (33, .int .i64 (x7.1.length : Int)), (34, .int .i64 s.2)] a ∧ Stw ⟨Y, [], w0⟩ [(b1, [.int .i64 p0.1, v1, v2])] [Ct v4 37 Dc g_x8.1, row v5 3 (Rp.int .i64) x7.1] w) ⟨⟨g_x4.1, g_x4.2⟩, F.re ⟨rfl, Aa, Aa, Aa, Aa, Aa, Aa, Aa, Aa, Aa, trivial⟩, W⟩ fun s o a w H L4 hR => ?_
    obtain ⟨x8, x9⟩ := s
    obtain ⟨g_x8, F, W⟩ := hR
    have F : Fr 54 [] [(1, v3), (2, .pointer (some ⟨b1, 0, none⟩)), (4, .slice none 0 0), (5, .int .i64 0), (6, v4), (21, .int .i64 (p0.2.2.length : Int)), (22, .int .i64 x5), (32, v5), (33, .int .i64 (x7.1.length : Int)), (34, .int .i64 x9)] a := F
    have W : Stw ⟨Y, [], w0⟩ [(b1, [.int .i64 p0.1, v1, v2])] [Ct v4 37 Dc g_x8.1, row v5 3 (Rp.int .i64) x7.1] w := W
    rw [BI] at H
    refine Ah (Ab ?_)
    refine ls F W Aa (Bg F Aa Aa).q fun a w F W => ?_
    refine Ad (Ac (Ah ?_))
    refine Aw F Aa (fun hb => ?_) fun hb => ?_
    ·
     have H := AM (Bj hb) H
     rw [hb] at F
     clear hb
     refine Aq (Ac (Ah (As (Ah (Ab ?_)))))
     refine ls F W Aa (Af F Aa).q fun a w F W => ?_
     obtain ⟨x10, h7, H⟩ := Am H
     refine ls F W Aa (AK (r := (Rp.int .i64)) EQ F Aa Aa (Ax 1 Aa) h7).q fun a w F W => ?_
     refine ls F W Aa (Ay (y := Value.int .i64 x10) (j := 0) (i := x9) F Aa Aa (Ax 1 Aa) h7 Fl.int.to T3 Aa).q fun a w F W => ?_
     iterate 2 refine ls F W Aa (Ae F Aa).q fun a w F W => ?_
     refine Ad (Ac (Ah (Ah (Ab ?_))))
     refine ls F W Aa (Af F Aa).q fun a w F W => ?_
     refine ls F W Aa (Bg F Aa Aa).q fun a w F W => ?_
     refine Ad (Ac ?_)
     refine Aw F Aa (fun hb => ?_) fun hb => ?_
     ·
      have H := AM (Bj hb) H
      rw [hb] at F
      clear hb
      refine Ah (Ab ?_)
      iterate 2 refine ls F W Aa (Ae F Aa).q fun a w F W => ?_
      refine Ad (Ac (Av (AH (AU ?_))))
      iterate 2 refine AH ?_
      iterate 2 refine AU ?_
      iterate 2 refine AH ?_
      refine AU (AH ?_)
      have H := L4 _ H
      have H := L3 _ H
      have H := L2 _ H
      have H := L1 _ H
      have H := AP H
      subst H
      refine E2 (.inl Aa) F W Aa (Ap F Aa) (Ap F Aa) ?_
      have W := W.dNil 37 Dc
      have h8 : List.map Eh ([] : List (Value × Nat × List Int)) = ([] : List (Nat × List Int)) := Aa
      have W := W.sub (M' := []) (Z' := [Ct (Value.slice none 0 0) 37 Dc ([] : List (Value × Nat × List Int))]) (List.nil_sublist _) (List.Sublist.cons_cons _ (List.nil_sublist _))
      exact ⟨((Value.slice none 0 0), ⟨[], Aa⟩), Aa, W⟩
     have H := AN (Bk hb) H
     rw [hb] at F
     clear hb
     refine Aq (Ac (Ab ?_))
     iterate 4 refine ls F W Aa (Af F Aa).q fun a w F W => ?_
     obtain ⟨x11, h9, H⟩ := Am H
     obtain ⟨v6, h10, h11⟩ := Hi (er := Eh) g_x8.2 h9
     refine ls F W Aa (AK (r := Dc.hr) Nx F Aa Aa (MY.hd (Hx 0 Aa)) h10).q fun a w F W => ?_
     have h12 : Dc.cells v6 = [(v6.1)] := congrArg (fun q : Nat × List Int => ([(v6.1)] : List Value)) h11
     refine ls F W Aa (Ay (y := (v6.1)) (j := 0) (i := x9) (enc := Dc.cells) F Aa Aa (MY.hd (Hx 0 Aa)) h10 Dc.flat PU (by rw [h12]; rfl)).q fun a w F W => ?_
     refine ls F W Aa (Af F Aa).q fun a w F W => ?_
     refine Cr (z := Value.int .i64 0) (cs := [.int .i64 x10]) (Rp.int .i64) ([x10] : List Int) F W Aa EQ Z3 Aa Aa Aa Aa Aa Aa (Fl.int.repL _ _ ([x10] : List Int)) fun v7 a w F W => ?_
     obtain ⟨x12, h13, H⟩ := Am H
     have W := W.frontZ (i := 1) Aa Aa
     have W := W.dTakeR h10 Foc.here ((congrArg (fun q : Nat × List Int => q) h11).trans (Prod.ext (Pu h13) Aa))
     have h14 : List.map Eh (AE g_x8.1 x9 ((v6.1), 0, [])) = (AE x8 x9 (0, [])) := (O7 g_x8.2 (congrArg (fun q : Nat × List Int => (0, [])) h11))
     have W : Stw ⟨Y, [], w0⟩ [(b1, [.int .i64 p0.1, v1, v2])] [row (v6.1) 3 (Rp.int .i64) x11.2, Ct v4 37 Dc (AE g_x8.1 x9 ((v6.1), 0, [])), row v7 3 (Rp.int .i64) ([x10] : List Int), row v5 3 (Rp.int .i64) x7.1] w := W
     obtain ⟨x13, h15, H⟩ := Am H
     refine DM (r := (Rp.int .i64)) (i := 0) F W Aa EQ Aa Aa Aa Aa (DP W 2 Aa) h15 Aa fun v8 a w F W => ?_
     have W : Stw ⟨Y, [], w0⟩ [(b1, [.int .i64 p0.1, v1, v2])] [row v8 3 (Rp.int .i64) x13, Ct v4 37 Dc (AE g_x8.1 x9 ((v6.1), 0, [])), row v7 3 (Rp.int .i64) ([x10] : List Int), row v5 3 (Rp.int .i64) x7.1] w := W
     obtain ⟨x14, h16, H⟩ := Am H
     obtain ⟨v9, h17, h18⟩ := Hi (er := Eh) h14 h16
     refine ls F W Aa (AK (r := Dc.hr) Nx F Aa Aa (MY.hd (Hx 1 Aa)) h17).q fun a w F W => ?_
     obtain ⟨x15, h19, H⟩ := Am H
     obtain ⟨v10, h20, h21⟩ := Hi (er := Eh) h14 h19
     have h22 : Value.oneCell' v8 = true := (W.one (k := 0) Aa)
     have W := W.frontZ (i := 1) Aa Aa
     have W := W.frontZ (i := 1) Aa Aa
     have W := W.toR
     refine LR (D := Dc) (S := (Dp.sl 3 (Rp.int .i64))) (b := (v8, 2, x13)) (i := x9) (j := 0) Foc.here F W Aa Aa Aa h20 PU (Cv h22) Aa h22 Aa fun w W => ?_
     have h23 : List.map Eh (AE (AE g_x8.1 x9 ((v6.1), 0, [])) x9 (v8, 2, x13)) = (AE (AE x8 x9 (0, [])) x9 (2, x13)) := (O7 h14 (congrArg (fun q : Nat × List Int => (2, x13)) h21))
     have W : Stw ⟨Y, [], w0⟩ [(b1, [.int .i64 p0.1, v1, v2])] [Ct v4 37 Dc (AE (AE g_x8.1 x9 ((v6.1), 0, [])) x9 (v8, 2, x13)), row v7 3 (Rp.int .i64) ([x10] : List Int), row v5 3 (Rp.int .i64) x7.1] w := W
     refine Ad (AR (Ac (Ab ?_)))
     refine ls F W Aa (BB F Aa Aa Aa).q fun a w F W => ?_
     refine ls F W Aa (Af F Aa).q fun a w F W => ?_
     refine Ad (Ac ?_)
     have W := W.frontZ (i := 2) Aa Aa
     have W := W.frontZ (i := 1) Aa Aa
     have W := W.sub (M' := [(b1, [.int .i64 p0.1, v1, v2])]) (Z' := [Ct v4 37 Dc (AE (AE g_x8.1 x9 ((v6.1), 0, [])) x9 (v8, 2, x13)), row v5 3 (Rp.int .i64) x7.1]) (List.Sublist.refl _) (List.Sublist.cons_cons _ (List.Sublist.cons_cons _ (List.nil_sublist _)))
     exact ⟨_, H, ⟨(AE (AE g_x8.1 x9 ((v6.1), 0, [])) x9 (v8, 2, x13)), h23⟩, F.re ⟨rfl, Aa, Aa, Aa, Aa, Aa, Aa, Aa, Aa, Aa, trivial⟩, W⟩
    have H := AN (Bk hb) H
    rw [hb] at F
    clear hb
    refine Ba ?_
    iterate 2 refine Br ?_
    refine Bb (AR (Ac ?_))
    have W := W.sub (M' := [(b1, [.int .i64 p0.1, v1, v2])]) (Z' := [Ct v4 37 Dc g_x8.1]) (List.Sublist.refl _) (List.Sublist.cons_cons _ (List.nil_sublist _))
    have H := L4 _ H
    exact ⟨_, ⟨g_x8.1, g_x8.2⟩, H, F.re ⟨rfl, Aa, Aa, Aa, Aa, Aa, Aa, trivial⟩, W⟩
   rintro a w ⟨x6, g_x6, hj, F, W⟩
   have H := K3 _ hj
   clear hj G3 K3 L3
   refine Ab ?_
   refine ls F W Aa (BB F Aa Aa Aa).q fun a w F W => ?_
   refine ls F W Aa (Af F Aa).q fun a w F W => ?_
   refine Ad (Ac ?_)
   exact ⟨_, H, ⟨g_x6.1, g_x6.2⟩, F.re ⟨rfl, Aa, Aa, Aa, Aa, Aa, Aa, trivial⟩, W⟩
  have H := AN (Bk hb) H
  rw [hb] at F
  clear hb
  refine Ba ?_
  iterate 2 refine Br ?_
  refine Bb (Ac ?_)
  have H := L2 _ H
  exact ⟨_, ⟨g_x4.1, g_x4.2⟩, H, F.re ⟨rfl, Aa, Aa, trivial⟩, W⟩
 rintro a w ⟨x3, g_x3, hj, F, W⟩
 have H := K1 _ hj
 clear hj G1 K1 L1
 refine Ah (Ab ?_)
 refine ls F W Aa (Af F Aa).q fun a w F W => ?_
 iterate 2 refine ls F W Aa (Ae F Aa).q fun a w F W => ?_
 refine Ad (Ac (Av ?_))
 have H := AP H
 subst H
 refine E2 (.inl Aa) F W Aa (Ap F Aa) (Ap F Aa) ?_
 have W := W.sub (M' := []) (Z' := [Ct v4 37 Dc g_x3.1]) (List.nil_sublist _) (List.Sublist.refl _)
 exact ⟨((v4), ⟨g_x3.1, g_x3.2⟩), Aa, W⟩
theorem H7 : Has Try.prog 7 := ⟨fun args w => Aj Try.func7 rfl (by decide) args w⟩
noncomputable def Da (p0 : Int × (List (Int × Int × Int × Int × Int × Int)) × (List (Int × Int))) (p1 : List Int) : Option Bool := ((FC p0 ([] : List (List Int))).bind fun x2 => (if (!x2) = true then some true else (if 30 < (p1.length : Int) then some true else (Ds p0 p1).bind fun x3 => some (!x3)))).bind fun x1 => (if x1 = true then (DY).bind fun x4 => some x4 else (F5 p1).bind fun x5 => (Ea p0 x5).bind fun x6 => (if x6.2 ≠ 0 then (if x6.2 = 7 then (if (x6.1.length : Int) = 0 then (DY).bind fun x9 => some (x9, x6.1) else some (false, x6.1)) else some (false, x6.1)).bind fun (x7, x8) => some x7 else ((GU OP x6.1).bind fun x11 => (CS p0 x11).bind fun x12 => (if x12 = true then (DY).bind fun x13 => some x13 else some false)).bind fun x10 => some x10))
theorem Ia (Y : Nat → Prop) (w0 : World) (v1 : Value) (v2 : Value) (v3 : Value) (p0 : Int × (List (Int × Int × Int × Int × Int × Int)) × (List (Int × Int))) (p1 : List Int) (r : Bool) (H : Da p0 p1 = some r) (h_v1 : Sl w0 (NX []) Ev v1 p0.2.1) (h_v2 : Sl w0 (NX []) Ep v2 p0.2.2) (h_v3 : Sl w0 (NX []) (Rp.int .u64) v3 p1) :
    Calls Try.prog 3 #[.agg #[.int .i64 p0.1, v1, v2], v3] w0 fun e w' => e = .returned (.bool r) ∧ Below w0.heap.size w0 w' := by
 refine enter Try.func3 Aa Try.ntmps3 Aa fun a F => ?_
 have W := Stw.start Y w0
 unfold Da at H
 refine Ah (Ab ?_)
 refine C5 (cs := [.int .i64 p0.1, v1, v2]) F W Aa Aa Aa fun b1 a w F W => ?_
 refine ls F W Aa (Ae F Aa).q fun a w F W => ?_
 refine Ad (Ac (Ah ?_))
 obtain ⟨o1, G1, K1⟩ := Am H
 refine AJ (fun a w => ∃ x1 : Bool, some (x1) = some o1 ∧ Fr 47 [] [(1, v3), (2, .pointer (some ⟨b1, 0, none⟩)), (4, .bool false), (20, .bool x1)] a ∧ Stw ⟨Y, [], w0⟩ [(b1, [.int .i64 p0.1, v1, v2])] [] w) ?_ ?_
 ·
  have H := G1
  clear G1 K1
  refine Ab ?_
  refine ls F W Aa (An (v := Value.agg #[.int .i64 p0.1, v1, v2]) 0 F Aa Aa GI Aa).q fun a w F W => ?_
  obtain ⟨x2, h1, H⟩ := Am H
  refine ls F W Aa (AW (v := Value.bool x2) F H4 Aa (fun w W => La any w (v1) (v2) (Value.slice none 0 0) p0 ([] : List (List Int)) _ h1 (((Ak h_v1) : CE _ _ _ _ _ _) w W).nx (((Ak h_v2) : CE _ _ _ _ _ _) w W).nx Sl.nil)) fun a w F W => ?_
  refine ls F W Aa (EP F Aa).q fun a w F W => ?_
  refine ls F W Aa (Af F Aa).q fun a w F W => ?_
  rcases Bool.eq_false_or_eq_true (!x2) with hb | hb
  ·
   have H := AM hb H
   rw [hb] at F
   clear hb
   iterate 3 refine Cd F Aa Aa Aa Aa Aa Aa Aa fun a F => ?_
   refine ls F W Aa (Ao F Aa Aa Aa).q fun a w F W => ?_
   refine ls F W Aa (Af F Aa).q fun a w F W => ?_
   iterate 4 refine Cd F Aa Aa Aa Aa Aa Aa Aa fun a F => ?_
   refine ls F W Aa (Ao F Aa Aa Aa).q fun a w F W => ?_
   refine Ad (Ac ?_)
   exact ⟨_, H, F.re ⟨rfl, Aa, Aa, Aa, trivial⟩, W⟩
  have H := AN (by rw [hb]; decide) H
  rw [hb] at F
  clear hb
  refine AF F W (Ag F Aa Aa Aa Aa) Aa (Al Aa) (Af F Aa).q fun a w F W => ?_
  refine AF F W (Ag F Aa Aa Aa Aa) Aa (Al Aa) (Bh (r := (Rp.int .u64)) (l := p1) NY Aa F Aa (Ak h_v3)).q fun a w F W => ?_
  refine AF F W (Ag F Aa Aa Aa Aa) Aa (Al Aa) (DI F Aa Aa).q fun a w F W => ?_
  refine ls F W Aa (Au F Aa Aa Aa).q fun a w F W => ?_
  refine ls F W Aa (Af F Aa).q fun a w F W => ?_
  rcases Bool.eq_false_or_eq_true (decide (30 < (p1.length : Int))) with hb | hb
  ·
   have H := AM (Bj hb) H
   rw [hb] at F
   clear hb
   iterate 4 refine Cd F Aa Aa Aa Aa Aa Aa Aa fun a F => ?_
   refine ls F W Aa (Ao F Aa Aa Aa).q fun a w F W => ?_
   refine Ad (Ac ?_)
   exact ⟨_, H, F.re ⟨rfl, Aa, Aa, Aa, trivial⟩, W⟩
  have H := AN (Bk hb) H
  rw [hb] at F
  clear hb
  refine AF F W (Ag F Aa Aa Aa Aa) Aa (Al Aa) (An (v := Value.agg #[.int .i64 p0.1, v1, v2]) 0 F Aa Aa GI Aa).q fun a w F W => ?_
  refine AF F W (Ag F Aa Aa Aa Aa) Aa (Al Aa) (Af F Aa).q fun a w F W => ?_
  refine FL (Ag F Aa Aa Aa Aa) ?_
  obtain ⟨x3, h2, H⟩ := Am H
  refine ls F W Aa (AW (v := Value.bool x3) F H5 Aa (fun w W => Lb any w (v1) (v2) (v3) p0 p1 _ h2 (((Ak h_v1) : CE _ _ _ _ _ _) w W).nx (((Ak h_v2) : CE _ _ _ _ _ _) w W).nx (((Ak h_v3) : CE _ _ _ _ _ _) w W).nx)) fun a w F W => ?_
  refine AF F W (Ag F Aa Aa Aa Aa) Aa (Al Aa) (EP F Aa).q fun a w F W => ?_
  refine ls F W Aa (Au F Aa Aa Aa).q fun a w F W => ?_
  refine Ad (Ac ?_)
  exact ⟨_, H, F.re ⟨rfl, Aa, Aa, Aa, trivial⟩, W⟩
 rintro a w ⟨x1, hj, F, W⟩
 have hj := AP hj
 subst hj
 have H := K1
 clear G1 K1
 refine Aw F Aa (fun hb => ?_) fun hb => ?_
 ·
  have H := AM hb H
  rw [hb] at F
  clear hb
  refine Ah (Ab ?_)
  obtain ⟨x4, h3, H⟩ := Am H
  refine ls F W Aa (AW (v := Value.bool x4) F H6 Aa (fun w W => Gk any w _ h3)) fun a w F W => ?_
  refine ls F W Aa (Ae F Aa).q fun a w F W => ?_
  refine Ad (Ac (Av (AH ?_)))
  have H := AP H
  subst H
  refine AQ (.inl Aa) F W Aa (Ap F Aa) ?_
  exact ⟨rfl, W.done⟩
 have H := AN (by rw [hb]; decide) H
 rw [hb] at F
 clear hb
 refine Aq (Ac (Ah ?_))
 refine I5 [(true, 0), (true, 1), (false, 2), (false, 3), (true, 4), (true, 5), (true, 6), (false, 7), (false, 8)] (CN ⟨Y, [], w0⟩ [(some 3, b1, [.int .i64 p0.1, v1, v2])] []) (fun ch a d v w h => by cases d <;> exact h) MO (by kernel_rfl) W (fun w W => ⟨_, _, W, (all_cons (fun _ => (.head _)) AL), AL⟩) fun w W => ?_
 refine Er (R := [3]) F Aa Aa (yC fun M Z hN hZ => LF (cs := [.int .i64 p0.1, v1, v2]) (v := Value.agg #[.int .i64 p0.1, v1, v2]) F Aa (hN ((some 3), b1, [.int .i64 p0.1, v1, v2]) (.head _) Aa) GI Aa) (by kernel_rfl) Aa fun a F => ?_
 refine Er (R := []) F Aa Aa (yC fun M Z hN hZ => Af F Aa) Aa Aa fun a F => ?_
 refine Lm Aa ?_
 obtain ⟨x5, h4, H⟩ := Am H
 refine BK (Ml := []) (Zl := []) (M := [(b1, [.int .i64 p0.1, v1, v2])]) (Z := []) (β := Value) (rv := fun x => x) (MM := fun x => []) (ZZ := fun x => [row x 50 (Rp.flt .f64) x5]) F W H8 Aa Aa (fun hL => Mh _ w (v3) p1 _ h4 ((Ak h_v3) w W).nx) fun x a w F W => ?_
 obtain ⟨v4, rfl⟩ : ∃ y, y = x := ⟨x, rfl⟩
 have W : Stw ⟨Y, [], w0⟩ [(b1, [.int .i64 p0.1, v1, v2])] [row v4 50 (Rp.flt .f64) x5] w := W
 refine Fd (N2 := []) (NZ2 := []) (N3 := [(some 3, b1, [.int .i64 p0.1, v1, v2])]) (NZ3 := []) W Aa Aa (all_cons (fun _ => (.head _)) AL) AL ?_
 refine Lm Aa ?_
 obtain ⟨x6, h5, H⟩ := Am H
 refine BK (Ml := []) (Zl := []) (M := [(b1, [.int .i64 p0.1, v1, v2])]) (Z := [row v4 50 (Rp.flt .f64) x5]) (β := Value × ({x : List (Value × Nat × List Int) // x.map Eh = x6.1})) (rv := fun x => .tuple #[x.1, .int .i64 x6.2]) (MM := fun x => []) (ZZ := fun x => [Ct x.1 37 Dc x.2.1]) F W H7 Aa Aa (fun hL => Jm _ w (v1) (v2) (v4) p0 x5 _ h5 ((Ak h_v1) w W).nx ((Ak h_v2) w W).nx ((Ax 0 Aa) w W).nx) fun x a w F W => ?_
 obtain ⟨v5, v6⟩ := x
 have W : Stw ⟨Y, [], w0⟩ [(b1, [.int .i64 p0.1, v1, v2])] [Ct v5 37 Dc v6.1, row v4 50 (Rp.flt .f64) x5] w := W
 refine Fd (N2 := []) (NZ2 := []) (N3 := [(some 3, b1, [.int .i64 p0.1, v1, v2])]) (NZ3 := []) W Aa Aa (all_cons (fun h => Cf (by kernel_rfl) h) AL) AL ?_
 refine Er (R := []) F Aa Aa (yC fun M Z hN hZ => Af F Aa) Aa Aa fun a F => ?_
 refine Er (R := []) F Aa Aa (yC fun M Z hN hZ => Bc (v := v5) F Aa Aa) Aa Aa fun a F => ?_
 refine Er (R := []) F Aa Aa (yC fun M Z hN hZ => Bc (v := Value.int .i64 x6.2) F Aa Aa) Aa Aa fun a F => ?_
 refine Lm Aa ?_
 refine ls F W Aa (Ae F Aa).q fun a w F W => ?_
 refine Fd (N2 := []) (NZ2 := []) (N3 := [(some 3, b1, [.int .i64 p0.1, v1, v2])]) (NZ3 := []) W Aa Aa (all_cons (fun h => Cf (by kernel_rfl) h) AL) AL ?_
 refine Lm Aa ?_
 refine ls F W Aa (Ae F Aa).q fun a w F W => ?_
 refine Fd (N2 := []) (NZ2 := []) (N3 := [(some 3, b1, [.int .i64 p0.1, v1, v2])]) (NZ3 := []) W Aa Aa (all_cons (fun h => Cf (by kernel_rfl) h) AL) AL ?_
 refine Mk (Ac (Ah (Ah (Ab ?_))))
 refine ls F W Aa (Af F Aa).q fun a w F W => ?_
 refine ls F W Aa (GM F Aa Aa).q fun a w F W => ?_
 refine Ad (Ac ?_)
 refine Aw F Aa (fun hb => ?_) fun hb => ?_
 ·
  have H := AM (Bj hb) H
  rw [hb] at F
  clear hb
  obtain ⟨o2, G2, K2⟩ := Am H
  refine AJ (fun a w => ∃ x7 : Bool, ∃ x8 : List (Nat × List Int), ∃ g_x8 : {x : List (Value × Nat × List Int) // x.map Eh = x8}, some ((x7, x8)) = some o2 ∧ Fr 47 [] [(2, .pointer (some ⟨b1, 0, none⟩)), (4, .bool x7), (5, v5)] a ∧ Stw ⟨Y, [], w0⟩ [(b1, [.int .i64 p0.1, v1, v2])] [Ct v5 37 Dc g_x8.1] w) ?_ ?_
  ·
   have H := G2
   clear G2 K2
   refine Ab ?_
   refine ls F W Aa (Af F Aa).q fun a w F W => ?_
   refine ls F W Aa (DO F Aa Aa).q fun a w F W => ?_
   refine ls F W Aa (Af F Aa).q fun a w F W => ?_
   rcases Bool.eq_false_or_eq_true (decide (x6.2 = 7)) with hb | hb
   ·
    have H := AM (Bj hb) H
    rw [hb] at F
    clear hb
    refine AF F W (Ag F Aa Aa Aa Aa) Aa (Al Aa) (Af F Aa).q fun a w F W => ?_
    refine AF F W (Ag F Aa Aa Aa Aa) Aa (Al Aa) (Py (er := Eh) v6.2 K9 Aa F Aa (MY.hd (Hx 0 Aa))).q fun a w F W => ?_
    refine AF F W (Ag F Aa Aa Aa Aa) Aa (Al Aa) (DO F Aa Aa).q fun a w F W => ?_
    refine ls F W Aa (Ao F Aa Aa Aa).q fun a w F W => ?_
    refine ls F W Aa (Af F Aa).q fun a w F W => ?_
    rcases Bool.eq_false_or_eq_true (decide ((x6.1.length : Int) = 0)) with hb | hb
    ·
     have H := AM (Bj hb) H
     rw [hb] at F
     clear hb
     refine FL (Ag F Aa Aa Aa Aa) ?_
     obtain ⟨x9, h6, H⟩ := Am H
     refine ls F W Aa (AW (v := Value.bool x9) F H6 Aa (fun w W => Gk any w _ h6)) fun a w F W => ?_
     refine ls F W Aa (Ao F Aa Aa Aa).q fun a w F W => ?_
     refine ls F W Aa (Ae F Aa).q fun a w F W => ?_
     refine Ad (Ac ?_)
     have W := W.sub (M' := [(b1, [.int .i64 p0.1, v1, v2])]) (Z' := [Ct v5 37 Dc v6.1]) (List.Sublist.refl _) (List.Sublist.cons_cons _ (List.nil_sublist _))
     exact ⟨_, _, ⟨v6.1, v6.2⟩, H, F.re ⟨rfl, Aa, Aa, trivial⟩, W⟩
    have H := AN (Bk hb) H
    rw [hb] at F
    clear hb
    refine Cd F Aa Aa Aa Aa Aa Aa Aa fun a F => ?_
    refine ls F W Aa (Au F Aa Aa Aa).q fun a w F W => ?_
    refine ls F W Aa (Ae F Aa).q fun a w F W => ?_
    refine Ad (Ac ?_)
    have W := W.sub (M' := [(b1, [.int .i64 p0.1, v1, v2])]) (Z' := [Ct v5 37 Dc v6.1]) (List.Sublist.refl _) (List.Sublist.cons_cons _ (List.nil_sublist _))
    exact ⟨_, _, ⟨v6.1, v6.2⟩, H, F.re ⟨rfl, Aa, Aa, trivial⟩, W⟩
   have H := AN (Bk hb) H
   rw [hb] at F
   clear hb
   iterate 3 refine Cd F Aa Aa Aa Aa Aa Aa Aa fun a F => ?_
   refine ls F W Aa (Au F Aa Aa Aa).q fun a w F W => ?_
   refine ls F W Aa (Af F Aa).q fun a w F W => ?_
   refine Cd F Aa Aa Aa Aa Aa Aa Aa fun a F => ?_
   refine ls F W Aa (Au F Aa Aa Aa).q fun a w F W => ?_
   refine ls F W Aa (Ae F Aa).q fun a w F W => ?_
   refine Ad (Ac ?_)
   have W := W.sub (M' := [(b1, [.int .i64 p0.1, v1, v2])]) (Z' := [Ct v5 37 Dc v6.1]) (List.Sublist.refl _) (List.Sublist.cons_cons _ (List.nil_sublist _))
   exact ⟨_, _, ⟨v6.1, v6.2⟩, H, F.re ⟨rfl, Aa, Aa, trivial⟩, W⟩
  rintro a w ⟨x7, x8, g_x8, hj, F, W⟩
  have hj := AP hj
  subst hj
  have H := K2
  clear G2 K2
  refine Av (AH ?_)
  have H := AP H
  subst H
  refine AQ (.inl Aa) F W Aa (Ap F Aa) ?_
  exact ⟨rfl, W.done⟩
 have H := AN (Bk hb) H
 rw [hb] at F
 clear hb
 refine Aq (Ac ?_)
 obtain ⟨o3, G3, K3⟩ := Am H
 refine AJ (fun a w => ∃ x10 : Bool, some (x10) = some o3 ∧ Fr 47 [] [(4, .bool x10)] a ∧ Stw ⟨Y, [], w0⟩ [(b1, [.int .i64 p0.1, v1, v2])] [] w) ?_ ?_
 ·
  have H := G3
  clear G3 K3
  refine Ab ?_
  refine ls F W Aa (An (v := Value.agg #[.int .i64 p0.1, v1, v2]) 0 F Aa Aa GI Aa).q fun a w F W => ?_
  refine ls F W Aa (Af F Aa).q fun a w F W => ?_
  obtain ⟨x11, h7, H⟩ := Am H
  obtain ⟨x12, h8, H⟩ := Am H
  refine ls F W Aa (AW (v := Value.bool x12) F H9 Aa (fun w W => FP any w (v1) (v2) (v5) p0 x11 _ h8 (((Ak h_v1) : CE _ _ _ _ _ _) w W).nx (((Ak h_v2) : CE _ _ _ _ _ _) w W).nx (((MY.plain Ru v6.2 h7 (Hx 0 Aa)) : CE _ _ _ _ _ _) w W).nx)) fun a w F W => ?_
  refine ls F W Aa (Af F Aa).q fun a w F W => ?_
  rcases Bool.eq_false_or_eq_true x12 with hb | hb
  ·
   have H := AM hb H
   rw [hb] at F
   clear hb
   refine FL (Ag F Aa Aa Aa Aa) ?_
   obtain ⟨x13, h9, H⟩ := Am H
   refine ls F W Aa (AW (v := Value.bool x13) F H6 Aa (fun w W => Gk any w _ h9)) fun a w F W => ?_
   refine ls F W Aa (Ao F Aa Aa Aa).q fun a w F W => ?_
   refine ls F W Aa (Ae F Aa).q fun a w F W => ?_
   refine Ad (Ac ?_)
   have W := W.sub (M' := [(b1, [.int .i64 p0.1, v1, v2])]) (Z' := []) (List.Sublist.refl _) (List.nil_sublist _)
   exact ⟨_, H, F.re ⟨rfl, trivial⟩, W⟩
  have H := AN (by rw [hb]; decide) H
  rw [hb] at F
  clear hb
  refine Cd F Aa Aa Aa Aa Aa Aa Aa fun a F => ?_
  refine ls F W Aa (Au F Aa Aa Aa).q fun a w F W => ?_
  refine ls F W Aa (Ae F Aa).q fun a w F W => ?_
  refine Ad (Ac ?_)
  have W := W.sub (M' := [(b1, [.int .i64 p0.1, v1, v2])]) (Z' := []) (List.Sublist.refl _) (List.nil_sublist _)
  exact ⟨_, H, F.re ⟨rfl, trivial⟩, W⟩
 rintro a w ⟨x10, hj, F, W⟩
 have hj := AP hj
 subst hj
 have H := K3
 clear G3 K3
 refine Av ?_
 have H := AP H
 subst H
 refine AQ (.inl Aa) F W Aa (Ap F Aa) ?_
 exact ⟨rfl, W.done⟩
end Go.Proofs.Ytieebnllkjmjiaa
