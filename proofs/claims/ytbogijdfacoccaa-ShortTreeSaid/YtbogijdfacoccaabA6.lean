/- The functions of layer 19, F7. Conditions: none. -/
import Derived.Test.YtbogijdfacoccaabA5
namespace Go.Proofs.Ytbogijdfacoccaa
open Go Go.RowKit
set_option linter.unusedVariables false
set_option linter.unusedSimpArgs false
set_option maxRecDepth 20000
theorem Sr : Has Try.prog 24 := ⟨fun args w => Aj Try.func24 rfl (by decide) args w⟩
noncomputable def B6 (p0 : Int × (List (Int × Int × Int × Int × Int × Int)) × (List (Int × Int))) (x4 : List Nat) (x5 : List Int × Int) (x6 : Int × Int) : (Int × List Int × Int) → Option ((Int × List Int × Int) ⊕ ((List Int) ⊕ Bool))
  | (x13, x14, x15) => (if x13 ≠ x6.1 then (if p0.1 ≤ x15 then some (.inr (.inr false)) else (ix x5.1 x13).bind fun x16 => (D0 p0 x13 x16).bind fun x17 => (if (!x17.2.2.2) = true then some true else (Di x4 x17.2.2.1).bind fun x19 => some (!x19)).bind fun x18 => (if x18 = true then some (.inr (.inr false)) else (HV x14 ([x17.2.2.1] : List Int)).bind fun x20 => some (.inl (x17.1, x20, BH (x15 + 1))))) else some (.inr (.inl x14)))
noncomputable def DK (p0 : Int × (List (Int × Int × Int × Int × Int × Int)) × (List (Int × Int))) (p1 : List Int) (p2 : Int) (p3 : Int) : Option Bool := (if (!(EG p0 p1)) = true then some true else (DE p0 p1).bind fun x2 => (if (!x2) = true then some true else (if p2 < 0 then some true else (if (p0.2.2.length : Int) ≤ p2 then some true else (if p3 < 0 then some true else some (decide (p0.1 ≤ p3))))))).bind fun x1 => (if x1 = true then (D3).bind fun x3 => some x3 else (Gj p1).bind fun x4 => (Dq p0 x4 p2).bind fun x5 => (ix p0.2.2 p2).bind fun x6 => (Ce p0 x4 x6.1).bind fun x7 => (if (decide (x5.2 ≠ 0) || (decide ((x5.1.length : Int) ≠ p0.1) || decide ((x7.length : Int) ≠ p0.1))) = true then some false else (ix x5.1 p3).bind fun x8 => (if x8 = (-1) then ((Di x7 p3).bind fun x10 => (if (!x10) = true then (D3).bind fun x11 => some x11 else some false)).bind fun x9 => some x9 else IW (AF (B6 p0 x4 x5 x6) (p3, [], 0)) fun x12 => ((DX x4 x12).bind fun x22 => (ix x7 p3).bind fun x23 => (if (LM x22 x23) = true then (if (x12.length : Int) < p0.1 then (ix x5.1 x6.1).bind fun x24 => (ix p0.2.2 p2).bind fun x25 => (if x24 = x25.2 then (D3).bind fun x26 => some x26 else some false) else some false) else some false)).bind fun x21 => some x21)))
theorem IG (Y : Nat → Prop) (w0 : World) (v1 : Value) (v2 : Value) (v3 : Value) (p0 : Int × (List (Int × Int × Int × Int × Int × Int)) × (List (Int × Int))) (p1 : List Int) (p2 : Int) (p3 : Int) (r : Bool) (H : DK p0 p1 p2 p3 = some r) (h_v1 : Sl w0 (NX []) Fm v1 p0.2.1) (h_v2 : Sl w0 (NX []) Fo v2 p0.2.2) (h_v3 : Sl w0 (NX []) (Rp.int .u64) v3 p1) :
    Calls Try.prog 4 #[.agg #[.int .i64 p0.1, v1, v2], v3, .int .i64 p2, .int .i64 p3] w0 fun e w' => e = .returned (.bool r) ∧ Below w0.heap.size w0 w' := by
 refine enter Try.func4 Aa Try.ntmps4 Aa fun a F => ?_
 have W := Stw.start Y w0
 unfold DK at H
 refine Ah (Ab ?_)
 refine Eo (cs := [.int .i64 p0.1, v1, v2]) F W Aa Aa Aa fun b1 a w F W => ?_
 refine ls F W Aa (Af F Aa).q fun a w F W => ?_
 refine Ad (Ac (Ah ?_))
 obtain ⟨o1, G1, K1⟩ := Al H
 refine AN (fun a w => ∃ x1 : Bool, some (x1) = some o1 ∧ Fr 166 [] [(1, v3), (2, .int .i64 p2), (3, .int .i64 p3), (4, .pointer (some ⟨b1, 0, none⟩)), (8, .bool false), (51, .bool x1)] a ∧ Stw ⟨Y, [], w0⟩ [(b1, [.int .i64 p0.1, v1, v2])] [] w) ?_ ?_
 ·
  have H := G1
  clear G1 K1
  refine Ab ?_
  refine ls F W Aa (An (v := Value.agg #[.int .i64 p0.1, v1, v2]) 0 F Aa Aa Jj Aa).q fun a w F W => ?_
  refine ls F W Aa (Ae F Aa).q fun a w F W => ?_
  refine ls F W Aa (AZ (v := Value.bool (EG p0 p1)) F H7 Aa (fun w W => Lb any w (v1) (v2) (v3) p0 p1 _ Aa (((Am h_v1) : Ee _ _ _ _ _ _) w W).nx (((Am h_v2) : Ee _ _ _ _ _ _) w W).nx (((Am h_v3) : Ee _ _ _ _ _ _) w W).nx)) fun a w F W => ?_
  refine ls F W Aa (Fa F Aa).q fun a w F W => ?_
  refine ls F W Aa (Ae F Aa).q fun a w F W => ?_
  rcases Bool.eq_false_or_eq_true (!(EG p0 p1)) with hb | hb
  ·
   have H := AU hb H
   rw [hb] at F
   clear hb
   iterate 4 refine Cs F Aa Aa Aa Aa Aa Aa Aa fun a F => ?_
   refine ls F W Aa (Ao F Aa Aa Aa).q fun a w F W => ?_
   refine ls F W Aa (Ae F Aa).q fun a w F W => ?_
   iterate 2 refine Cs F Aa Aa Aa Aa Aa Aa Aa fun a F => ?_
   refine ls F W Aa (Ao F Aa Aa Aa).q fun a w F W => ?_
   refine ls F W Aa (Ae F Aa).q fun a w F W => ?_
   iterate 5 refine Cs F Aa Aa Aa Aa Aa Aa Aa fun a F => ?_
   refine ls F W Aa (Ao F Aa Aa Aa).q fun a w F W => ?_
   refine ls F W Aa (Ae F Aa).q fun a w F W => ?_
   iterate 2 refine Cs F Aa Aa Aa Aa Aa Aa Aa fun a F => ?_
   refine ls F W Aa (Ao F Aa Aa Aa).q fun a w F W => ?_
   refine ls F W Aa (Ae F Aa).q fun a w F W => ?_
   iterate 4 refine Cs F Aa Aa Aa Aa Aa Aa Aa fun a F => ?_
   refine ls F W Aa (Ao F Aa Aa Aa).q fun a w F W => ?_
   refine Ad (Ac ?_)
   exact ⟨_, H, F.re ⟨rfl, Aa, Aa, Aa, Aa, Aa, trivial⟩, W⟩
  have H := AV (by rw [hb]; decide) H
  rw [hb] at F
  clear hb
  refine AD F W (Ag F Aa Aa Aa Aa) Aa (Ak Aa) (An (v := Value.agg #[.int .i64 p0.1, v1, v2]) 0 F Aa Aa Jj Aa).q fun a w F W => ?_
  refine AD F W (Ag F Aa Aa Aa Aa) Aa (Ak Aa) (Ae F Aa).q fun a w F W => ?_
  refine Lw (Ag F Aa Aa Aa Aa) ?_
  obtain ⟨x2, h1, H⟩ := Al H
  refine ls F W Aa (AZ (v := Value.bool x2) F Sm Aa (fun w W => Li any w (v1) (v2) (v3) p0 p1 _ h1 (((Am h_v1) : Ee _ _ _ _ _ _) w W).nx (((Am h_v2) : Ee _ _ _ _ _ _) w W).nx (((Am h_v3) : Ee _ _ _ _ _ _) w W).nx)) fun a w F W => ?_
  refine AD F W (Ag F Aa Aa Aa Aa) Aa (Ak Aa) (Fa F Aa).q fun a w F W => ?_
  refine ls F W Aa (Ap F Aa Aa Aa).q fun a w F W => ?_
  refine ls F W Aa (Ae F Aa).q fun a w F W => ?_
  rcases Bool.eq_false_or_eq_true (!x2) with hb | hb
  ·
   have H := AU hb H
   rw [hb] at F
   clear hb
   iterate 2 refine Cs F Aa Aa Aa Aa Aa Aa Aa fun a F => ?_
   refine ls F W Aa (Ao F Aa Aa Aa).q fun a w F W => ?_
   refine ls F W Aa (Ae F Aa).q fun a w F W => ?_
   iterate 5 refine Cs F Aa Aa Aa Aa Aa Aa Aa fun a F => ?_
   refine ls F W Aa (Ao F Aa Aa Aa).q fun a w F W => ?_
   refine ls F W Aa (Ae F Aa).q fun a w F W => ?_
   iterate 2 refine Cs F Aa Aa Aa Aa Aa Aa Aa fun a F => ?_
   refine ls F W Aa (Ao F Aa Aa Aa).q fun a w F W => ?_
   refine ls F W Aa (Ae F Aa).q fun a w F W => ?_
   iterate 4 refine Cs F Aa Aa Aa Aa Aa Aa Aa fun a F => ?_
   refine ls F W Aa (Ao F Aa Aa Aa).q fun a w F W => ?_
   refine Ad (Ac ?_)
   exact ⟨_, H, F.re ⟨rfl, Aa, Aa, Aa, Aa, Aa, trivial⟩, W⟩
  have H := AV (by rw [hb]; decide) H
  rw [hb] at F
  clear hb
  refine AD F W (Ag F Aa Aa Aa Aa) Aa (Ak Aa) (Ae F Aa).q fun a w F W => ?_
  refine AD F W (Ag F Aa Aa Aa Aa) Aa (Ak Aa) (Bo F Aa Aa).q fun a w F W => ?_
  refine ls F W Aa (Ap F Aa Aa Aa).q fun a w F W => ?_
  refine ls F W Aa (Ae F Aa).q fun a w F W => ?_
  rcases Bool.eq_false_or_eq_true (decide (p2 < 0)) with hb | hb
  ·
   have H := AU (Bz hb) H
   rw [hb] at F
   clear hb
   iterate 5 refine Cs F Aa Aa Aa Aa Aa Aa Aa fun a F => ?_
   refine ls F W Aa (Ao F Aa Aa Aa).q fun a w F W => ?_
   refine ls F W Aa (Ae F Aa).q fun a w F W => ?_
   iterate 2 refine Cs F Aa Aa Aa Aa Aa Aa Aa fun a F => ?_
   refine ls F W Aa (Ao F Aa Aa Aa).q fun a w F W => ?_
   refine ls F W Aa (Ae F Aa).q fun a w F W => ?_
   iterate 4 refine Cs F Aa Aa Aa Aa Aa Aa Aa fun a F => ?_
   refine ls F W Aa (Ao F Aa Aa Aa).q fun a w F W => ?_
   refine Ad (Ac ?_)
   exact ⟨_, H, F.re ⟨rfl, Aa, Aa, Aa, Aa, Aa, trivial⟩, W⟩
  have H := AV (Bw hb) H
  rw [hb] at F
  clear hb
  refine AD F W (Ag F Aa Aa Aa Aa) Aa (Ak Aa) (Ae F Aa).q fun a w F W => ?_
  refine AD F W (Ag F Aa Aa Aa Aa) Aa (Ak Aa) (Ai Ct Aa Aa Aa GS F Aa 2 Aa).q fun a w F W => ?_
  refine AD F W (Ag F Aa Aa Aa Aa) Aa (Ak Aa) (An (v := v2) 0 F Aa Aa GS Aa).q fun a w F W => ?_
  refine AD F W (Ag F Aa Aa Aa Aa) Aa (Ak Aa) (BB (r := Fo) (l := p0.2.2) JQ Aa F Aa (Am h_v2)).q fun a w F W => ?_
  refine AD F W (Ag F Aa Aa Aa Aa) Aa (Ak Aa) (E0 F Aa Aa).q fun a w F W => ?_
  refine ls F W Aa (Ap F Aa Aa Aa).q fun a w F W => ?_
  refine ls F W Aa (Ae F Aa).q fun a w F W => ?_
  rcases Bool.eq_false_or_eq_true (decide ((p0.2.2.length : Int) ≤ p2)) with hb | hb
  ·
   have H := AU (Bz hb) H
   rw [hb] at F
   clear hb
   iterate 2 refine Cs F Aa Aa Aa Aa Aa Aa Aa fun a F => ?_
   refine ls F W Aa (Ao F Aa Aa Aa).q fun a w F W => ?_
   refine ls F W Aa (Ae F Aa).q fun a w F W => ?_
   iterate 4 refine Cs F Aa Aa Aa Aa Aa Aa Aa fun a F => ?_
   refine ls F W Aa (Ao F Aa Aa Aa).q fun a w F W => ?_
   refine Ad (Ac ?_)
   exact ⟨_, H, F.re ⟨rfl, Aa, Aa, Aa, Aa, Aa, trivial⟩, W⟩
  have H := AV (Bw hb) H
  rw [hb] at F
  clear hb
  refine AD F W (Ag F Aa Aa Aa Aa) Aa (Ak Aa) (Ae F Aa).q fun a w F W => ?_
  refine AD F W (Ag F Aa Aa Aa Aa) Aa (Ak Aa) (Bo F Aa Aa).q fun a w F W => ?_
  refine ls F W Aa (Ap F Aa Aa Aa).q fun a w F W => ?_
  refine ls F W Aa (Ae F Aa).q fun a w F W => ?_
  rcases Bool.eq_false_or_eq_true (decide (p3 < 0)) with hb | hb
  ·
   have H := AU (Bz hb) H
   rw [hb] at F
   clear hb
   iterate 4 refine Cs F Aa Aa Aa Aa Aa Aa Aa fun a F => ?_
   refine ls F W Aa (Ao F Aa Aa Aa).q fun a w F W => ?_
   refine Ad (Ac ?_)
   exact ⟨_, H, F.re ⟨rfl, Aa, Aa, Aa, Aa, Aa, trivial⟩, W⟩
  have H := AV (Bw hb) H
  rw [hb] at F
  clear hb
  refine AD F W (Ag F Aa Aa Aa Aa) Aa (Ak Aa) (Ae F Aa).q fun a w F W => ?_
  refine AD F W (Ag F Aa Aa Aa Aa) Aa (Ak Aa) (Ai Ct Aa Aa Aa T3 F Aa 0 Aa).q fun a w F W => ?_
  refine AD F W (Ag F Aa Aa Aa Aa) Aa (Ak Aa) (An (v := Value.int .i64 p0.1) 0 F Aa Aa T3 Aa).q fun a w F W => ?_
  refine AD F W (Ag F Aa Aa Aa Aa) Aa (Ak Aa) (E0 F Aa Aa).q fun a w F W => ?_
  refine ls F W Aa (Ap F Aa Aa Aa).q fun a w F W => ?_
  refine Ad (Ac ?_)
  exact ⟨_, H, F.re ⟨rfl, Aa, Aa, Aa, Aa, Aa, trivial⟩, W⟩
 rintro a w ⟨x1, hj, F, W⟩
 have hj := A1 hj
 subst hj
 have H := K1
 clear G1 K1
 refine AE F Aa (fun hb => ?_) fun hb => ?_
 ·
  have H := AU hb H
  rw [hb] at F
  clear hb
  refine Ah (Ab ?_)
  obtain ⟨x3, h2, H⟩ := Al H
  refine ls F W Aa (AZ (v := Value.bool x3) F H8 Aa (fun w W => GF any w _ h2)) fun a w F W => ?_
  refine ls F W Aa (Af F Aa).q fun a w F W => ?_
  refine Ad (Ac (AC (AO ?_)))
  have H := A1 H
  subst H
  refine A2 (.inl Aa) F W Aa (Aw F Aa) ?_
  exact ⟨rfl, W.done⟩
 have H := AV (by rw [hb]; decide) H
 rw [hb] at F
 clear hb
 refine Az (Ac (Ah (Ab ?_)))
 refine ls F W Aa (Ae F Aa).q fun a w F W => ?_
 obtain ⟨x4, h3, H⟩ := Al H
 refine BS (Ml := []) (Zl := []) (M := [(b1, [.int .i64 p0.1, v1, v2])]) (Z := []) (β := Value) (rv := fun x => x) (MM := fun x => []) (ZZ := fun x => [row x 56 (Rp.flt .f64) x4]) F W H9 Aa Aa (fun hL => Ma _ w (v3) p1 _ h3 ((Am h_v3) w W).nx) fun x a w F W => ?_
 obtain ⟨v4, rfl⟩ : ∃ y, y = x := ⟨x, rfl⟩
 have W : Stw ⟨Y, [], w0⟩ [(b1, [.int .i64 p0.1, v1, v2])] [row v4 56 (Rp.flt .f64) x4] w := W
 refine ls F W Aa (Af F Aa).q fun a w F W => ?_
 refine Ad (Ac (Ah (Ab ?_)))
 refine ls F W Aa (An (v := Value.agg #[.int .i64 p0.1, v1, v2]) 0 F Aa Aa Jj Aa).q fun a w F W => ?_
 iterate 2 refine ls F W Aa (Ae F Aa).q fun a w F W => ?_
 obtain ⟨x5, h4, H⟩ := Al H
 refine BS (Ml := []) (Zl := []) (M := [(b1, [.int .i64 p0.1, v1, v2])]) (Z := [row v4 56 (Rp.flt .f64) x4]) (β := Value) (rv := fun x => .tuple #[x, .int .i64 x5.2]) (MM := fun x => []) (ZZ := fun x => [row x 3 (Rp.int .i64) x5.1]) F W R7 Aa Aa (fun hL => HN _ w (v1) (v2) (v4) p0 x4 p2 _ h4 ((Am h_v1) w W).nx ((Am h_v2) w W).nx ((Au 0 Aa) w W).nx) fun x a w F W => ?_
 obtain ⟨v5, rfl⟩ : ∃ y, y = x := ⟨x, rfl⟩
 have W : Stw ⟨Y, [], w0⟩ [(b1, [.int .i64 p0.1, v1, v2])] [row v5 3 (Rp.int .i64) x5.1, row v4 56 (Rp.flt .f64) x4] w := W
 refine ls F W Aa (Ae F Aa).q fun a w F W => ?_
 refine ls F W Aa (BJ (v := v5) F Aa Aa).q fun a w F W => ?_
 refine ls F W Aa (BJ (v := Value.int .i64 x5.2) F Aa Aa).q fun a w F W => ?_
 iterate 2 refine ls F W Aa (Af F Aa).q fun a w F W => ?_
 refine Ad (Ac (Ah (Ab ?_)))
 refine ls F W Aa (Ai Ct Aa Aa Aa GS F Aa 2 Aa).q fun a w F W => ?_
 refine ls F W Aa (An (v := v2) 0 F Aa Aa GS Aa).q fun a w F W => ?_
 refine ls F W Aa (Ae F Aa).q fun a w F W => ?_
 obtain ⟨x6, h5, H⟩ := Al H
 refine ls F W Aa (AH (r := Fo) Pp F Aa Aa (Am h_v2) h5).q fun a w F W => ?_
 refine ls F W Aa (Ai Jn Aa Aa Aa T3 F Aa (EZ v2 + (p2).toNat * 2) Aa).q fun a w F W => ?_
 refine ls F W Aa (Ax (y := Value.int .i64 x6.1) (j := 0) (i := p2) F Aa Aa (Am h_v2) h5 Pn.to T3 Aa).q fun a w F W => ?_
 refine ls F W Aa (Af F Aa).q fun a w F W => ?_
 refine Ad (Ac (Ah (Ab ?_)))
 refine ls F W Aa (An (v := Value.agg #[.int .i64 p0.1, v1, v2]) 0 F Aa Aa Jj Aa).q fun a w F W => ?_
 iterate 2 refine ls F W Aa (Ae F Aa).q fun a w F W => ?_
 obtain ⟨x7, h6, H⟩ := Al H
 refine BS (Ml := []) (Zl := []) (M := [(b1, [.int .i64 p0.1, v1, v2])]) (Z := [row v5 3 (Rp.int .i64) x5.1, row v4 56 (Rp.flt .f64) x4]) (β := {x : Value // NN x (x7)}) (rv := fun x => x.1) (MM := fun x => []) (ZZ := fun x => [row x.1 56 (Rp.flt .f64) x7]) F W RM Aa Aa (fun hL => Fw _ w (v1) (v2) (v4) p0 x4 x6.1 _ h6 ((Am h_v1) w W).nx ((Am h_v2) w W).nx ((Au 1 Aa) w W).nx) fun x a w F W => ?_
 obtain ⟨v6, rfl⟩ : ∃ y, y = x := ⟨x, rfl⟩
 have W : Stw ⟨Y, [], w0⟩ [(b1, [.int .i64 p0.1, v1, v2])] [row v6.1 56 (Rp.flt .f64) x7, row v5 3 (Rp.int .i64) x5.1, row v4 56 (Rp.flt .f64) x4] w := W
 refine ls F W Aa (Af F Aa).q fun a w F W => ?_
 refine Ad (Ac (Ah ?_))
 refine AN (fun a w => Fr 166 [] [(2, .int .i64 p2), (3, .int .i64 p3), (4, .pointer (some ⟨b1, 0, none⟩)), (8, .bool false), (9, v4), (10, v5), (12, .int .i64 x6.1), (13, v6.1), (87, .bool (decide (x5.2 ≠ 0) || (decide ((x5.1.length : Int) ≠ p0.1) || decide ((x7.length : Int) ≠ p0.1))))] a ∧ Stw ⟨Y, [], w0⟩ [(b1, [.int .i64 p0.1, v1, v2])] [row v6.1 56 (Rp.flt .f64) x7, row v5 3 (Rp.int .i64) x5.1, row v4 56 (Rp.flt .f64) x4] w) ?_ ?_
 ·
  refine Ab ?_
  refine ls F W Aa (Ae F Aa).q fun a w F W => ?_
  refine ls F W Aa (Ja F Aa Aa).q fun a w F W => ?_
  refine ls F W Aa (Ae F Aa).q fun a w F W => ?_
  rcases Bool.eq_false_or_eq_true (decide (x5.2 ≠ 0)) with hb0 | hb0
  ·
   rw [hb0] at F
   iterate 5 refine Cs F Aa Aa Aa Aa Aa Aa Aa fun a F => ?_
   refine ls F W Aa (Ao F Aa Aa Aa).q fun a w F W => ?_
   refine ls F W Aa (Ae F Aa).q fun a w F W => ?_
   iterate 5 refine Cs F Aa Aa Aa Aa Aa Aa Aa fun a F => ?_
   refine ls F W Aa (Ao F Aa Aa Aa).q fun a w F W => ?_
   refine Ad (Ac ?_)
   exact ⟨F.re ⟨rfl, Aa, Aa, Aa, Aa, Aa, Aa, Aa, (by show some (Value.bool true) = some (Value.bool (decide (x5.2 ≠ 0) || (decide ((x5.1.length : Int) ≠ p0.1) || decide ((x7.length : Int) ≠ p0.1)))); try rw [hb0]; all_goals simp only [Bool.not_true, Bool.not_false, Bool.true_and, Bool.false_and, Bool.true_or, Bool.false_or, Bool.and_true, Bool.or_false, cond_true, cond_false]), trivial⟩, W⟩
  rw [hb0] at F
  refine AD F W (Ag F Aa Aa Aa Aa) Aa (Ak Aa) (Ae F Aa).q fun a w F W => ?_
  refine AD F W (Ag F Aa Aa Aa Aa) Aa (Ak Aa) (BB (r := (Rp.int .i64)) (l := x5.1) JN Aa F Aa (Au 1 Aa)).q fun a w F W => ?_
  refine AD F W (Ag F Aa Aa Aa Aa) Aa (Ak Aa) (Ai Ct Aa Aa Aa T3 F Aa 0 Aa).q fun a w F W => ?_
  refine AD F W (Ag F Aa Aa Aa Aa) Aa (Ak Aa) (An (v := Value.int .i64 p0.1) 0 F Aa Aa T3 Aa).q fun a w F W => ?_
  refine AD F W (Ag F Aa Aa Aa Aa) Aa (Ak Aa) (Ja F Aa Aa).q fun a w F W => ?_
  refine ls F W Aa (Ap F Aa Aa Aa).q fun a w F W => ?_
  refine ls F W Aa (Ae F Aa).q fun a w F W => ?_
  rcases Bool.eq_false_or_eq_true (decide ((x5.1.length : Int) ≠ p0.1)) with hb1 | hb1
  ·
   rw [hb1] at F
   iterate 5 refine Cs F Aa Aa Aa Aa Aa Aa Aa fun a F => ?_
   refine ls F W Aa (Ao F Aa Aa Aa).q fun a w F W => ?_
   refine Ad (Ac ?_)
   exact ⟨F.re ⟨rfl, Aa, Aa, Aa, Aa, Aa, Aa, Aa, (by show some (Value.bool true) = some (Value.bool (decide (x5.2 ≠ 0) || (decide ((x5.1.length : Int) ≠ p0.1) || decide ((x7.length : Int) ≠ p0.1)))); try rw [hb1]; try rw [hb0]; all_goals simp only [Bool.not_true, Bool.not_false, Bool.true_and, Bool.false_and, Bool.true_or, Bool.false_or, Bool.and_true, Bool.or_false, cond_true, cond_false]), trivial⟩, W⟩
  rw [hb1] at F
  refine AD F W (Ag F Aa Aa Aa Aa) Aa (Ak Aa) (Ae F Aa).q fun a w F W => ?_
  refine AD F W (Ag F Aa Aa Aa Aa) Aa (Ak Aa) (BB (r := (Rp.flt .f64)) (l := x7) KJ Aa F Aa (Au 0 Aa)).q fun a w F W => ?_
  refine AD F W (Ag F Aa Aa Aa Aa) Aa (Ak Aa) (Ai Ct Aa Aa Aa T3 F Aa 0 Aa).q fun a w F W => ?_
  refine AD F W (Ag F Aa Aa Aa Aa) Aa (Ak Aa) (An (v := Value.int .i64 p0.1) 0 F Aa Aa T3 Aa).q fun a w F W => ?_
  refine AD F W (Ag F Aa Aa Aa Aa) Aa (Ak Aa) (Ja F Aa Aa).q fun a w F W => ?_
  refine ls F W Aa (Ap F Aa Aa Aa).q fun a w F W => ?_
  refine Ad (Ac ?_)
  exact ⟨F.re ⟨rfl, Aa, Aa, Aa, Aa, Aa, Aa, Aa, (by show some (Value.bool (decide ((x7.length : Int) ≠ p0.1))) = some (Value.bool (decide (x5.2 ≠ 0) || (decide ((x5.1.length : Int) ≠ p0.1) || decide ((x7.length : Int) ≠ p0.1)))); try rw [hb1]; try rw [hb0]; all_goals simp only [Bool.not_true, Bool.not_false, Bool.true_and, Bool.false_and, Bool.true_or, Bool.false_or, Bool.and_true, Bool.or_false, cond_true, cond_false]), trivial⟩, W⟩
 rintro a w ⟨F, W⟩
 refine AE F Aa (fun hb => ?_) fun hb => ?_
 ·
  have H := AU hb H
  rw [hb] at F
  clear hb
  refine Ah (Ab ?_)
  refine ls F W Aa (Af F Aa).q fun a w F W => ?_
  refine Ad (Ac (AC (AO ?_)))
  have H := A1 H
  subst H
  refine A2 (.inl Aa) F W Aa (Aw F Aa) ?_
  exact ⟨rfl, W.done⟩
 have H := AV (by rw [hb]; decide) H
 rw [hb] at F
 clear hb
 refine Az (Ac (Ah (Ah (Ab ?_))))
 iterate 2 refine ls F W Aa (Ae F Aa).q fun a w F W => ?_
 obtain ⟨x8, h7, H⟩ := Al H
 refine ls F W Aa (AH (r := (Rp.int .i64)) FI F Aa Aa (Au 1 Aa) h7).q fun a w F W => ?_
 refine ls F W Aa (Ax (y := Value.int .i64 x8) (j := 0) (i := p3) F Aa Aa (Au 1 Aa) h7 Fl.int.to T3 Aa).q fun a w F W => ?_
 refine ls F W Aa (Du F Aa Aa).q fun a w F W => ?_
 refine Ad (Ac ?_)
 refine AE F Aa (fun hb => ?_) fun hb => ?_
 ·
  have H := AU (Bz hb) H
  rw [hb] at F
  clear hb
  obtain ⟨o2, G2, K2⟩ := Al H
  refine AN (fun a w => ∃ x9 : Bool, some (x9) = some o2 ∧ Fr 166 [] [(2, .int .i64 p2), (3, .int .i64 p3), (4, .pointer (some ⟨b1, 0, none⟩)), (8, .bool x9), (9, v4), (10, v5), (12, .int .i64 x6.1), (13, v6.1)] a ∧ Stw ⟨Y, [], w0⟩ [(b1, [.int .i64 p0.1, v1, v2])] [row v4 56 (Rp.flt .f64) x4, row v5 3 (Rp.int .i64) x5.1, row v6.1 56 (Rp.flt .f64) x7] w) ?_ ?_
  ·
   have H := G2
   clear G2 K2
   refine Ab ?_
   iterate 2 refine ls F W Aa (Ae F Aa).q fun a w F W => ?_
   obtain ⟨x10, h8, H⟩ := Al H
   refine ls F W Aa (AZ (v := Value.bool x10) F Rf Aa (fun w W => F2 any w (v6.1) x7 p3 _ h8 (((Au 0 Aa) : Ee _ _ _ _ _ _) w W).nx)) fun a w F W => ?_
   refine ls F W Aa (Fa F Aa).q fun a w F W => ?_
   refine ls F W Aa (Ae F Aa).q fun a w F W => ?_
   rcases Bool.eq_false_or_eq_true (!x10) with hb | hb
   ·
    have H := AU hb H
    rw [hb] at F
    clear hb
    refine Lw (Ag F Aa Aa Aa Aa) ?_
    obtain ⟨x11, h9, H⟩ := Al H
    refine ls F W Aa (AZ (v := Value.bool x11) F H8 Aa (fun w W => GF any w _ h9)) fun a w F W => ?_
    refine ls F W Aa (Ao F Aa Aa Aa).q fun a w F W => ?_
    refine ls F W Aa (Af F Aa).q fun a w F W => ?_
    refine Ad (Ac ?_)
    have W := W.frontZ (i := 1) Aa Aa
    have W := W.frontZ (i := 2) Aa Aa
    exact ⟨_, H, F.re ⟨rfl, Aa, Aa, Aa, Aa, Aa, Aa, Aa, trivial⟩, W⟩
   have H := AV (by rw [hb]; decide) H
   rw [hb] at F
   clear hb
   refine Cs F Aa Aa Aa Aa Aa Aa Aa fun a F => ?_
   refine ls F W Aa (Ap F Aa Aa Aa).q fun a w F W => ?_
   refine ls F W Aa (Af F Aa).q fun a w F W => ?_
   refine Ad (Ac ?_)
   have W := W.frontZ (i := 1) Aa Aa
   have W := W.frontZ (i := 2) Aa Aa
   exact ⟨_, H, F.re ⟨rfl, Aa, Aa, Aa, Aa, Aa, Aa, Aa, trivial⟩, W⟩
  rintro a w ⟨x9, hj, F, W⟩
  have hj := A1 hj
  subst hj
  have H := K2
  clear G2 K2
  refine AC (AO ?_)
  have H := A1 H
  subst H
  refine A2 (.inl Aa) F W Aa (Aw F Aa) ?_
  exact ⟨rfl, W.done⟩
 have H := AV (Bw hb) H
 rw [hb] at F
 clear hb
 refine Az (Ac (Ah (Ab ?_)))
 refine ls F W Aa (Ae F Aa).q fun a w F W => ?_
 refine ls F W Aa (Af F Aa).q fun a w F W => ?_
 refine Ad (Ac (Ah (Ab ?_)))
 refine ls F W Aa (Af F Aa).q fun a w F W => ?_
 refine Ad (Ac ?_)
 obtain ⟨o3, G3, K3, L3⟩ := Pi H
 refine AN (fun a w => ∃ x12 : List Int, ∃ v7 : Value, some (Sum.inl x12) = some o3 ∧ Fr 166 [] [(2, .int .i64 p2), (3, .int .i64 p3), (4, .pointer (some ⟨b1, 0, none⟩)), (8, .bool false), (9, v4), (10, v5), (12, .int .i64 x6.1), (13, v6.1), (15, v7)] a ∧ Stw ⟨Y, [], w0⟩ [(b1, [.int .i64 p0.1, v1, v2])] [row v4 56 (Rp.flt .f64) x4, row v5 3 (Rp.int .i64) x5.1, row v6.1 56 (Rp.flt .f64) x7, row v7 3 (Rp.int .i64) x12] w) ?_ ?_
 ·
  have H := G3
  clear G3 K3
  refine Ah (Ab ?_)
  refine ls F W Aa (Af F Aa).q fun a w F W => ?_
  refine Ad (Ac (Ay ?_))
  have W := W.nilRow 3 (Rp.int .i64)
  have W := W.frontZ (i := 1) Aa Aa
  have W := W.frontZ (i := 2) Aa Aa
  have W := W.frontZ (i := 3) Aa Aa
  refine Bi H (fun s a w => ∃ v8 : Value, Fr 166 [] [(2, .int .i64 p2), (3, .int .i64 p3), (4, .pointer (some ⟨b1, 0, none⟩)), (8, .bool false), (9, v4), (10, v5), (12, .int .i64 x6.1), (13, v6.1), (14, .int .i64 s.1), (15, v8), (16, .int .i64 s.2.2)] a ∧ Stw ⟨Y, [], w0⟩ [(b1, [.int .i64 p0.1, v1, v2])] [row v4 56 (Rp.flt .f64) x4, row v5 3 (Rp.int .i64) x5.1, row v6.1 56 (Rp.flt .f64) x7, row v8 3 (Rp.int .i64) s.2.1] w) ⟨(Value.slice none 0 0), F.re ⟨rfl, Aa, Aa, Aa, Aa, Aa, Aa, Aa, Aa, Aa, Aa, trivial⟩, W⟩ fun s o a w H L4 hR => ?_
  obtain ⟨x13, x14, x15⟩ := s
  obtain ⟨v8, F, W⟩ := hR
  have F : Fr 166 [] [(2, .int .i64 p2), (3, .int .i64 p3), (4, .pointer (some ⟨b1, 0, none⟩)), (8, .bool false), (9, v4), (10, v5), (12, .int .i64 x6.1), (13, v6.1), (14, .int .i64 x13), (15, v8), (16, .int .i64 x15)] a := F
  have W : Stw ⟨Y, [], w0⟩ [(b1, [.int .i64 p0.1, v1, v2])] [row v4 56 (Rp.flt .f64) x4, row v5 3 (Rp.int .i64) x5.1, row v6.1 56 (Rp.flt .f64) x7, row v8 3 (Rp.int .i64) x14] w := W
  rw [B6] at H
  refine Ah (Ah (Ab ?_))
  iterate 2 refine ls F W Aa (Ae F Aa).q fun a w F W => ?_
  refine ls F W Aa (Ja F Aa Aa).q fun a w F W => ?_
  refine Ad (Ac ?_)
  refine AE F Aa (fun hb => ?_) fun hb => ?_
  ·
   have H := AU (Bz hb) H
   rw [hb] at F
   clear hb
   refine Az (Ac (Ah (Ay (Ah (Ah (Ab ?_))))))
   refine ls F W Aa (Ae F Aa).q fun a w F W => ?_
   refine ls F W Aa (Ai Ct Aa Aa Aa T3 F Aa 0 Aa).q fun a w F W => ?_
   refine ls F W Aa (An (v := Value.int .i64 p0.1) 0 F Aa Aa T3 Aa).q fun a w F W => ?_
   refine ls F W Aa (E0 F Aa Aa).q fun a w F W => ?_
   refine Ad (Ac ?_)
   refine AE F Aa (fun hb => ?_) fun hb => ?_
   ·
    have H := AU (Bz hb) H
    rw [hb] at F
    clear hb
    refine Ah (Ab ?_)
    refine ls F W Aa (Af F Aa).q fun a w F W => ?_
    refine Ad (Ac (AC (AO (A5 ?_))))
    iterate 2 refine AO ?_
    refine A5 (AO ?_)
    have H := L4 _ H
    have H := L3 _ H
    have H := A1 H
    subst H
    refine A2 (.inl Aa) F W Aa (Aw F Aa) ?_
    exact ⟨rfl, W.done⟩
   have H := AV (Bw hb) H
   rw [hb] at F
   clear hb
   refine Az (Ac (Ah ?_))
   refine CS W MO (by kernel_rfl) ?_
   refine qs F Aa (An (v := Value.agg #[.int .i64 p0.1, v1, v2]) 0 F Aa Aa Jj Aa).q fun a F => ?_
   iterate 3 refine qs F Aa (Ae F Aa).q fun a F => ?_
   obtain ⟨x16, h10, H⟩ := Al H
   refine qs F Aa (AH (r := (Rp.int .i64)) FI F Aa Aa (Au 1 Aa) h10).q fun a F => ?_
   refine qs F Aa (Ax (y := Value.int .i64 x16) (j := 0) (i := x13) F Aa Aa (Au 1 Aa) h10 Fl.int.to T3 Aa).q fun a F => ?_
   obtain ⟨x17, h11, H⟩ := Al H
   refine qs F Aa (AZ (v := Value.tuple #[.int .i64 x17.1, .int .i64 x17.2.1, .int .i64 x17.2.2.1, .bool x17.2.2.2]) F SU Aa (fun w W => Ly any w (v1) (v2) p0 x13 x16 _ h11 (((Am h_v1) : Ee _ _ _ _ _ _) w W).nx (((Am h_v2) : Ee _ _ _ _ _ _) w W).nx)) fun a F => ?_
   refine qs F Aa (Ae F Aa).q fun a F => ?_
   refine qs F Aa (BJ (v := Value.int .i64 x17.1) F Aa Aa).q fun a F => ?_
   refine qs F Aa (BJ (v := Value.int .i64 x17.2.1) F Aa Aa).q fun a F => ?_
   refine qs F Aa (BJ (v := Value.int .i64 x17.2.2.1) F Aa Aa).q fun a F => ?_
   refine qs F Aa (BJ (v := Value.bool x17.2.2.2) F Aa Aa).q fun a F => ?_
   iterate 4 refine qs F Aa (Af F Aa).q fun a F => ?_
   refine Be fun w W => ?_
   refine Ac (Ah ?_)
   obtain ⟨o5, G5, K5⟩ := Al H
   refine AN (fun a w => ∃ x18 : Bool, some (x18) = some o5 ∧ Fr 166 [] [(2, .int .i64 p2), (3, .int .i64 p3), (4, .pointer (some ⟨b1, 0, none⟩)), (8, .bool false), (9, v4), (10, v5), (12, .int .i64 x6.1), (13, v6.1), (14, .int .i64 x13), (15, v8), (16, .int .i64 x15), (17, .int .i64 x17.1), (19, .int .i64 x17.2.2.1), (129, .bool x18)] a ∧ Stw ⟨Y, [], w0⟩ [(b1, [.int .i64 p0.1, v1, v2])] [row v4 56 (Rp.flt .f64) x4, row v5 3 (Rp.int .i64) x5.1, row v6.1 56 (Rp.flt .f64) x7, row v8 3 (Rp.int .i64) x14] w) ?_ ?_
   ·
    have H := G5
    clear G5 K5
    refine Ab ?_
    refine ls F W Aa (Ae F Aa).q fun a w F W => ?_
    refine ls F W Aa (Fa F Aa).q fun a w F W => ?_
    refine ls F W Aa (Ae F Aa).q fun a w F W => ?_
    rcases Bool.eq_false_or_eq_true (!x17.2.2.2) with hb | hb
    ·
     have H := AU hb H
     rw [hb] at F
     clear hb
     iterate 4 refine Cs F Aa Aa Aa Aa Aa Aa Aa fun a F => ?_
     refine ls F W Aa (Ao F Aa Aa Aa).q fun a w F W => ?_
     refine Ad (Ac ?_)
     have W := W.frontZ (i := 3) Aa Aa
     have W := W.frontZ (i := 3) Aa Aa
     have W := W.frontZ (i := 3) Aa Aa
     have W := W.frontZ (i := 3) Aa Aa
     exact ⟨_, H, F.re ⟨rfl, Aa, Aa, Aa, Aa, Aa, Aa, Aa, Aa, Aa, Aa, Aa, Aa, Aa, trivial⟩, W⟩
    have H := AV (by rw [hb]; decide) H
    rw [hb] at F
    clear hb
    iterate 2 refine AD F W (Ag F Aa Aa Aa Aa) Aa (Ak Aa) (Ae F Aa).q fun a w F W => ?_
    refine Lw (Ag F Aa Aa Aa Aa) ?_
    obtain ⟨x19, h12, H⟩ := Al H
    refine ls F W Aa (AZ (v := Value.bool x19) F Rf Aa (fun w W => F2 any w (v4) x4 x17.2.2.1 _ h12 (((Au 0 Aa) : Ee _ _ _ _ _ _) w W).nx)) fun a w F W => ?_
    refine AD F W (Ag F Aa Aa Aa Aa) Aa (Ak Aa) (Fa F Aa).q fun a w F W => ?_
    refine ls F W Aa (Ap F Aa Aa Aa).q fun a w F W => ?_
    refine Ad (Ac ?_)
    have W := W.frontZ (i := 3) Aa Aa
    have W := W.frontZ (i := 3) Aa Aa
    have W := W.frontZ (i := 3) Aa Aa
    have W := W.frontZ (i := 3) Aa Aa
    exact ⟨_, H, F.re ⟨rfl, Aa, Aa, Aa, Aa, Aa, Aa, Aa, Aa, Aa, Aa, Aa, Aa, Aa, trivial⟩, W⟩
   rintro a w ⟨x18, hj, F, W⟩
   have hj := A1 hj
   subst hj
   have H := K5
   clear G5 K5
   refine AE F Aa (fun hb => ?_) fun hb => ?_
   ·
    have H := AU hb H
    rw [hb] at F
    clear hb
    refine Ah (Ab ?_)
    refine ls F W Aa (Af F Aa).q fun a w F W => ?_
    refine Ad (Ac (AC (AO (A5 ?_))))
    iterate 2 refine AO ?_
    refine A5 (AO ?_)
    have H := L4 _ H
    have H := L3 _ H
    have H := A1 H
    subst H
    refine A2 (.inl Aa) F W Aa (Aw F Aa) ?_
    exact ⟨rfl, W.done⟩
   have H := AV (by rw [hb]; decide) H
   rw [hb] at F
   clear hb
   refine Az (Ac (Ah (Ab ?_)))
   iterate 2 refine ls F W Aa (Ae F Aa).q fun a w F W => ?_
   refine Ey (z := Value.int .i64 0) (cs := [.int .i64 x17.2.2.1]) (Rp.int .i64) ([x17.2.2.1] : List Int) F W Aa FI Z3 Aa Aa Aa Aa Aa Aa (Fl.int.repL _ _ ([x17.2.2.1] : List Int)) fun v9 a w F W => ?_
   obtain ⟨x20, h13, H⟩ := Al H
   refine DM (r := (Rp.int .i64)) (i := 4) F W Aa FI Aa Aa Aa Aa (DT W 0 Aa) h13 Aa fun v10 a w F W => ?_
   have W : Stw ⟨Y, [], w0⟩ [(b1, [.int .i64 p0.1, v1, v2])] [row v10 3 (Rp.int .i64) x20, row v9 3 (Rp.int .i64) ([x17.2.2.1] : List Int), row v4 56 (Rp.flt .f64) x4, row v5 3 (Rp.int .i64) x5.1, row v6.1 56 (Rp.flt .f64) x7] w := W
   refine ls F W Aa (Af F Aa).q fun a w F W => ?_
   refine Ad (Ac (Ab ?_))
   refine ls F W Aa (Ae F Aa).q fun a w F W => ?_
   refine ls F W Aa (Af F Aa).q fun a w F W => ?_
   refine Ad (AS (Ac (Ab ?_)))
   refine ls F W Aa (Ae F Aa).q fun a w F W => ?_
   refine ls F W Aa (BZ F Aa Aa Aa).q fun a w F W => ?_
   refine ls F W Aa (Af F Aa).q fun a w F W => ?_
   refine Ad (Ac ?_)
   have W := W.frontZ (i := 4) Aa Aa
   have W := W.frontZ (i := 4) Aa Aa
   have W := W.frontZ (i := 4) Aa Aa
   have W := W.sub (M' := [(b1, [.int .i64 p0.1, v1, v2])]) (Z' := [row v4 56 (Rp.flt .f64) x4, row v5 3 (Rp.int .i64) x5.1, row v6.1 56 (Rp.flt .f64) x7, row v10 3 (Rp.int .i64) x20]) (List.Sublist.refl _) (List.Sublist.cons_cons _ (List.Sublist.cons_cons _ (List.Sublist.cons_cons _ (List.Sublist.cons_cons _ (List.nil_sublist _)))))
   exact ⟨_, H, (v10), F.re ⟨rfl, Aa, Aa, Aa, Aa, Aa, Aa, Aa, Aa, Aa, Aa, trivial⟩, W⟩
  have H := AV (Bw hb) H
  rw [hb] at F
  clear hb
  refine Bm ?_
  iterate 2 refine BT ?_
  refine Bn (Ac ?_)
  have W := W.frontZ (i := 3) Aa Aa
  have W := W.frontZ (i := 3) Aa Aa
  have W := W.frontZ (i := 3) Aa Aa
  have W := W.frontZ (i := 3) Aa Aa
  have H := L4 _ H
  exact ⟨_, (v8), H, F.re ⟨rfl, Aa, Aa, Aa, Aa, Aa, Aa, Aa, Aa, trivial⟩, W⟩
 rintro a w ⟨x12, v7, hj, F, W⟩
 have H := K3 _ hj
 clear hj G3 K3 L3
 obtain ⟨o6, G6, K6⟩ := Al H
 refine AN (fun a w => ∃ x21 : Bool, some (x21) = some o6 ∧ Fr 166 [] [(8, .bool x21)] a ∧ Stw ⟨Y, [], w0⟩ [(b1, [.int .i64 p0.1, v1, v2])] [] w) ?_ ?_
 ·
  have H := G6
  clear G6 K6
  refine CS W MO (by kernel_rfl) ?_
  iterate 2 refine qs F Aa (Ae F Aa).q fun a F => ?_
  obtain ⟨x22, h14, H⟩ := Al H
  refine qs F Aa (AZ (v := Value.float .f64 x22) F Sr Aa (fun w W => Kw any w (v4) (v7) x4 x12 _ h14 (((Au 0 Aa) : Ee _ _ _ _ _ _) w W).nx (((Au 3 Aa) : Ee _ _ _ _ _ _) w W).nx)) fun a F => ?_
  iterate 2 refine qs F Aa (Ae F Aa).q fun a F => ?_
  obtain ⟨x23, h15, H⟩ := Al H
  refine qs F Aa (AH (r := (Rp.flt .f64)) Iy F Aa Aa (Au 2 Aa) h15).q fun a F => ?_
  refine qs F Aa (Ax (y := Value.float .f64 x23) (j := 0) (i := p3) F Aa Aa (Au 2 Aa) h15 Fl.flt.to JB Aa).q fun a F => ?_
  refine qs F Aa (Mr F Aa Aa).q fun a F => ?_
  refine qs F Aa (Ae F Aa).q fun a F => ?_
  rcases Bool.eq_false_or_eq_true (LM x22 x23) with hb | hb
  ·
   have H := AU hb H
   rw [hb] at F
   clear hb
   refine Bu F (Ag F Aa Aa Aa Aa) Aa (Ak Aa) (Ae F Aa).q fun a F => ?_
   refine Bu F (Ag F Aa Aa Aa Aa) Aa (Ak Aa) (BB (r := (Rp.int .i64)) (l := x12) JN Aa F Aa (Au 3 Aa)).q fun a F => ?_
   refine Bu F (Ag F Aa Aa Aa Aa) Aa (Ak Aa) (Ai Ct Aa Aa Aa T3 F Aa 0 Aa).q fun a F => ?_
   refine Bu F (Ag F Aa Aa Aa Aa) Aa (Ak Aa) (An (v := Value.int .i64 p0.1) 0 F Aa Aa T3 Aa).q fun a F => ?_
   refine Bu F (Ag F Aa Aa Aa Aa) Aa (Ak Aa) (Bo F Aa Aa).q fun a F => ?_
   refine qs F Aa (Ao F Aa Aa Aa).q fun a F => ?_
   refine qs F Aa (Ae F Aa).q fun a F => ?_
   rcases Bool.eq_false_or_eq_true (decide ((x12.length : Int) < p0.1)) with hb | hb
   ·
    have H := AU (Bz hb) H
    rw [hb] at F
    clear hb
    iterate 2 refine Bu F (Ag F Aa Aa Aa Aa) Aa (Ak Aa) (Ae F Aa).q fun a F => ?_
    obtain ⟨x24, h16, H⟩ := Al H
    refine Bu F (Ag F Aa Aa Aa Aa) Aa (Ak Aa) (AH (r := (Rp.int .i64)) FI F Aa Aa (Au 1 Aa) h16).q fun a F => ?_
    refine Bu F (Ag F Aa Aa Aa Aa) Aa (Ak Aa) (Ax (y := Value.int .i64 x24) (j := 0) (i := x6.1) F Aa Aa (Au 1 Aa) h16 Fl.int.to T3 Aa).q fun a F => ?_
    refine Bu F (Ag F Aa Aa Aa Aa) Aa (Ak Aa) (Ai Ct Aa Aa Aa GS F Aa 2 Aa).q fun a F => ?_
    refine Bu F (Ag F Aa Aa Aa Aa) Aa (Ak Aa) (An (v := v2) 0 F Aa Aa GS Aa).q fun a F => ?_
    refine Bu F (Ag F Aa Aa Aa Aa) Aa (Ak Aa) (Ae F Aa).q fun a F => ?_
    obtain ⟨x25, h17, H⟩ := Al H
    refine Bu F (Ag F Aa Aa Aa Aa) Aa (Ak Aa) (AH (r := Fo) Pp F Aa Aa (Am h_v2) h17).q fun a F => ?_
    refine Bu F (Ag F Aa Aa Aa Aa) Aa (Ak Aa) (Ai Jn Aa Aa Aa T3 F Aa (EZ v2 + (p2).toNat * 2 + 1) Aa).q fun a F => ?_
    refine Bu F (Ag F Aa Aa Aa Aa) Aa (Ak Aa) (Ax (y := Value.int .i64 x25.2) (j := 1) (i := p2) F Aa Aa (Am h_v2) h17 Pn.to T3 Aa).q fun a F => ?_
    refine Bu F (Ag F Aa Aa Aa Aa) Aa (Ak Aa) (Du F Aa Aa).q fun a F => ?_
    refine qs F Aa (Ao F Aa Aa Aa).q fun a F => ?_
    refine qs F Aa (Ae F Aa).q fun a F => ?_
    rcases Bool.eq_false_or_eq_true (decide (x24 = x25.2)) with hb | hb
    ·
     have H := AU (Bz hb) H
     rw [hb] at F
     clear hb
     obtain ⟨x26, h18, H⟩ := Al H
     refine Bu F (Ag F Aa Aa Aa Aa) Aa (Ak Aa) (AZ (v := Value.bool x26) F H8 Aa (fun w W => GF any w _ h18)) fun a F => ?_
     refine qs F Aa (Ao F Aa Aa Aa).q fun a F => ?_
     refine qs F Aa (Af F Aa).q fun a F => ?_
     refine Be fun w W => ?_
     refine Ac ?_
     have W := W.sub (M' := [(b1, [.int .i64 p0.1, v1, v2])]) (Z' := []) (List.Sublist.refl _) (List.nil_sublist _)
     exact ⟨_, H, F.re ⟨rfl, trivial⟩, W⟩
    have H := AV (Bw hb) H
    rw [hb] at F
    clear hb
    refine C0 F (Cg F Aa Aa Aa Aa Aa) Aa Aa fun a F => ?_
    refine qs F Aa (Ap F Aa Aa Aa).q fun a F => ?_
    refine qs F Aa (Af F Aa).q fun a F => ?_
    refine Be fun w W => ?_
    refine Ac ?_
    have W := W.sub (M' := [(b1, [.int .i64 p0.1, v1, v2])]) (Z' := []) (List.Sublist.refl _) (List.nil_sublist _)
    exact ⟨_, H, F.re ⟨rfl, trivial⟩, W⟩
   have H := AV (Bw hb) H
   rw [hb] at F
   clear hb
   iterate 11 refine C0 F (Cg F Aa Aa Aa Aa Aa) Aa Aa fun a F => ?_
   refine qs F Aa (Ap F Aa Aa Aa).q fun a F => ?_
   refine qs F Aa (Ae F Aa).q fun a F => ?_
   refine C0 F (Cg F Aa Aa Aa Aa Aa) Aa Aa fun a F => ?_
   refine qs F Aa (Ap F Aa Aa Aa).q fun a F => ?_
   refine qs F Aa (Af F Aa).q fun a F => ?_
   refine Be fun w W => ?_
   refine Ac ?_
   have W := W.sub (M' := [(b1, [.int .i64 p0.1, v1, v2])]) (Z' := []) (List.Sublist.refl _) (List.nil_sublist _)
   exact ⟨_, H, F.re ⟨rfl, trivial⟩, W⟩
  have H := AV (by rw [hb]; decide) H
  rw [hb] at F
  clear hb
  iterate 5 refine C0 F (Cg F Aa Aa Aa Aa Aa) Aa Aa fun a F => ?_
  refine qs F Aa (Ap F Aa Aa Aa).q fun a F => ?_
  refine qs F Aa (Ae F Aa).q fun a F => ?_
  iterate 11 refine C0 F (Cg F Aa Aa Aa Aa Aa) Aa Aa fun a F => ?_
  refine qs F Aa (Ap F Aa Aa Aa).q fun a F => ?_
  refine qs F Aa (Ae F Aa).q fun a F => ?_
  refine C0 F (Cg F Aa Aa Aa Aa Aa) Aa Aa fun a F => ?_
  refine qs F Aa (Ap F Aa Aa Aa).q fun a F => ?_
  refine qs F Aa (Af F Aa).q fun a F => ?_
  refine Be fun w W => ?_
  refine Ac ?_
  have W := W.sub (M' := [(b1, [.int .i64 p0.1, v1, v2])]) (Z' := []) (List.Sublist.refl _) (List.nil_sublist _)
  exact ⟨_, H, F.re ⟨rfl, trivial⟩, W⟩
 rintro a w ⟨x21, hj, F, W⟩
 have hj := A1 hj
 subst hj
 have H := K6
 clear G6 K6
 refine AC ?_
 have H := A1 H
 subst H
 refine A2 (.inl Aa) F W Aa (Aw F Aa) ?_
 exact ⟨rfl, W.done⟩
end Go.Proofs.Ytbogijdfacoccaa
