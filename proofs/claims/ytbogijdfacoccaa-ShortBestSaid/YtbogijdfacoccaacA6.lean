/- The functions of layer 19, FD. Conditions: none. -/
import Derived.Test.YtbogijdfacoccaacA5
namespace Go.Proofs.Ytbogijdfacoccaa
open Go Go.RowKit
set_option linter.unusedVariables false
set_option linter.unusedSimpArgs false
set_option maxRecDepth 20000
theorem R4 : Has Try.prog 24 := ⟨fun args w => Aj Try.func24 rfl (by decide) args w⟩
noncomputable def BW (p0 : Int × (List (Int × Int × Int × Int × Int × Int)) × (List (Int × Int))) (p3 : List Int) (x4 : List Nat) : (Int × List Int × Int) → Option ((Int × List Int × Int) ⊕ (Int × List Int))
  | (x7, x8, x9) => (if x9 < (p3.length : Int) then ((ix p3 x9).bind fun x12 => (Fy p0 x7 x12).bind fun x13 => (if x13.2.2.2 = true then (Dv x4 x13.2.2.1).bind fun x15 => some x15 else some false).bind fun x14 => (if x14 = true then (Hs x8 ([x13.2.2.1] : List Int)).bind fun x16 => some (x13.1, x16) else some (x7, x8))).bind fun (x10, x11) => some (.inl (x10, x11, BN (x9 + 1))) else some (.inr (x7, x8)))
noncomputable def Do (p0 : Int × (List (Int × Int × Int × Int × Int × Int)) × (List (Int × Int))) (p1 : List Int) (p2 : Int) (p3 : List Int) : Option Bool := (if (!(Ed p0 p1)) = true then some true else (ER p0 p1).bind fun x2 => (if (!x2) = true then some true else (if p2 < 0 then some true else (if p0.1 ≤ p2 then some true else some (decide (12 < (p3.length : Int))))))).bind fun x1 => (if x1 = true then (Ea).bind fun x3 => some x3 else (F0 p1).bind fun x4 => (AM (BW p0 p3 x4) (p2, [], 0)).bind fun (x5, x6) => (B6 p0 x4 x5).bind fun x17 => (if (x17.length : Int) = p0.1 then (ix x17 x5).bind fun x19 => (if (JP x19 0) = true then (ix x17 p2).bind fun x20 => (EW x4 x6).bind fun x21 => (if (Kr x20 x21 || JP x20 x21) = true then (Ea).bind fun x22 => some x22 else some false) else some false) else some false).bind fun x18 => some x18)
theorem Id (Y : Nat → Prop) (w0 : World) (v1 : Value) (v2 : Value) (v3 : Value) (v4 : Value) (p0 : Int × (List (Int × Int × Int × Int × Int × Int)) × (List (Int × Int))) (p1 : List Int) (p2 : Int) (p3 : List Int) (r : Bool) (H : Do p0 p1 p2 p3 = some r) (h_v1 : Sl w0 (NX []) E5 v1 p0.2.1) (h_v2 : Sl w0 (NX []) Fk v2 p0.2.2) (h_v3 : Sl w0 (NX []) (Rp.int .u64) v3 p1) (h_v4 : Sl w0 (NX []) (Rp.int .i64) v4 p3) :
    Calls Try.prog 5 #[.agg #[.int .i64 p0.1, v1, v2], v3, .int .i64 p2, v4] w0 fun e w' => e = .returned (.bool r) ∧ Below w0.heap.size w0 w' := by
 refine enter Try.func5 Aa Try.ntmps5 Aa fun a F => ?_
 have W := Stw.start Y w0
 unfold Do at H
 refine Ah (Ab ?_)
 refine DX (cs := [.int .i64 p0.1, v1, v2]) F W Aa Aa Aa fun b1 a w F W => ?_
 refine ls F W Aa (Ae F Aa).q fun a w F W => ?_
 refine Ad (Ac (Ah ?_))
 obtain ⟨o1, G1, K1⟩ := Al H
 refine AJ (fun a w => ∃ x1 : Bool, some (x1) = some o1 ∧ Fr 105 [] [(1, v3), (2, .int .i64 p2), (3, v4), (4, .pointer (some ⟨b1, 0, none⟩)), (8, .bool false), (42, .bool x1)] a ∧ Stw ⟨Y, [], w0⟩ [(b1, [.int .i64 p0.1, v1, v2])] [] w) ?_ ?_
 ·
  have H := G1
  clear G1 K1
  refine Ab ?_
  refine ls F W Aa (An (v := Value.agg #[.int .i64 p0.1, v1, v2]) 0 F Aa Aa I2 Aa).q fun a w F W => ?_
  refine ls F W Aa (Af F Aa).q fun a w F W => ?_
  refine ls F W Aa (AZ (v := Value.bool (Ed p0 p1)) F H7 Aa (fun w W => KJ any w (v1) (v2) (v3) p0 p1 _ Aa (((Am h_v1) : D6 _ _ _ _ _ _) w W).nx (((Am h_v2) : D6 _ _ _ _ _ _) w W).nx (((Am h_v3) : D6 _ _ _ _ _ _) w W).nx)) fun a w F W => ?_
  refine ls F W Aa (FP F Aa).q fun a w F W => ?_
  refine ls F W Aa (Af F Aa).q fun a w F W => ?_
  rcases Bool.eq_false_or_eq_true (!(Ed p0 p1)) with hb | hb
  ·
   have H := AW hb H
   rw [hb] at F
   clear hb
   iterate 4 refine Ct F Aa Aa Aa Aa Aa Aa Aa fun a F => ?_
   refine ls F W Aa (Ao F Aa Aa Aa).q fun a w F W => ?_
   refine ls F W Aa (Af F Aa).q fun a w F W => ?_
   iterate 2 refine Ct F Aa Aa Aa Aa Aa Aa Aa fun a F => ?_
   refine ls F W Aa (Ao F Aa Aa Aa).q fun a w F W => ?_
   refine ls F W Aa (Af F Aa).q fun a w F W => ?_
   iterate 4 refine Ct F Aa Aa Aa Aa Aa Aa Aa fun a F => ?_
   refine ls F W Aa (Ao F Aa Aa Aa).q fun a w F W => ?_
   refine ls F W Aa (Af F Aa).q fun a w F W => ?_
   iterate 3 refine Ct F Aa Aa Aa Aa Aa Aa Aa fun a F => ?_
   refine ls F W Aa (Ao F Aa Aa Aa).q fun a w F W => ?_
   refine Ad (Ac ?_)
   exact ⟨_, H, F.re ⟨rfl, Aa, Aa, Aa, Aa, Aa, trivial⟩, W⟩
  have H := AV (by rw [hb]; decide) H
  rw [hb] at F
  clear hb
  refine AB F W (Ag F Aa Aa Aa Aa) Aa (Ak Aa) (An (v := Value.agg #[.int .i64 p0.1, v1, v2]) 0 F Aa Aa I2 Aa).q fun a w F W => ?_
  refine AB F W (Ag F Aa Aa Aa Aa) Aa (Ak Aa) (Af F Aa).q fun a w F W => ?_
  refine Lv (Ag F Aa Aa Aa Aa) ?_
  obtain ⟨x2, h1, H⟩ := Al H
  refine ls F W Aa (AZ (v := Value.bool x2) F RS Aa (fun w W => KZ any w (v1) (v2) (v3) p0 p1 _ h1 (((Am h_v1) : D6 _ _ _ _ _ _) w W).nx (((Am h_v2) : D6 _ _ _ _ _ _) w W).nx (((Am h_v3) : D6 _ _ _ _ _ _) w W).nx)) fun a w F W => ?_
  refine AB F W (Ag F Aa Aa Aa Aa) Aa (Ak Aa) (FP F Aa).q fun a w F W => ?_
  refine ls F W Aa (Aq F Aa Aa Aa).q fun a w F W => ?_
  refine ls F W Aa (Af F Aa).q fun a w F W => ?_
  rcases Bool.eq_false_or_eq_true (!x2) with hb | hb
  ·
   have H := AW hb H
   rw [hb] at F
   clear hb
   iterate 2 refine Ct F Aa Aa Aa Aa Aa Aa Aa fun a F => ?_
   refine ls F W Aa (Ao F Aa Aa Aa).q fun a w F W => ?_
   refine ls F W Aa (Af F Aa).q fun a w F W => ?_
   iterate 4 refine Ct F Aa Aa Aa Aa Aa Aa Aa fun a F => ?_
   refine ls F W Aa (Ao F Aa Aa Aa).q fun a w F W => ?_
   refine ls F W Aa (Af F Aa).q fun a w F W => ?_
   iterate 3 refine Ct F Aa Aa Aa Aa Aa Aa Aa fun a F => ?_
   refine ls F W Aa (Ao F Aa Aa Aa).q fun a w F W => ?_
   refine Ad (Ac ?_)
   exact ⟨_, H, F.re ⟨rfl, Aa, Aa, Aa, Aa, Aa, trivial⟩, W⟩
  have H := AV (by rw [hb]; decide) H
  rw [hb] at F
  clear hb
  refine AB F W (Ag F Aa Aa Aa Aa) Aa (Ak Aa) (Af F Aa).q fun a w F W => ?_
  refine AB F W (Ag F Aa Aa Aa Aa) Aa (Ak Aa) (Bl F Aa Aa).q fun a w F W => ?_
  refine ls F W Aa (Aq F Aa Aa Aa).q fun a w F W => ?_
  refine ls F W Aa (Af F Aa).q fun a w F W => ?_
  rcases Bool.eq_false_or_eq_true (decide (p2 < 0)) with hb | hb
  ·
   have H := AW (BB hb) H
   rw [hb] at F
   clear hb
   iterate 4 refine Ct F Aa Aa Aa Aa Aa Aa Aa fun a F => ?_
   refine ls F W Aa (Ao F Aa Aa Aa).q fun a w F W => ?_
   refine ls F W Aa (Af F Aa).q fun a w F W => ?_
   iterate 3 refine Ct F Aa Aa Aa Aa Aa Aa Aa fun a F => ?_
   refine ls F W Aa (Ao F Aa Aa Aa).q fun a w F W => ?_
   refine Ad (Ac ?_)
   exact ⟨_, H, F.re ⟨rfl, Aa, Aa, Aa, Aa, Aa, trivial⟩, W⟩
  have H := AV (BD hb) H
  rw [hb] at F
  clear hb
  refine AB F W (Ag F Aa Aa Aa Aa) Aa (Ak Aa) (Af F Aa).q fun a w F W => ?_
  refine AB F W (Ag F Aa Aa Aa Aa) Aa (Ak Aa) (Ai CA Aa Aa Aa T3 F Aa 0 Aa).q fun a w F W => ?_
  refine AB F W (Ag F Aa Aa Aa Aa) Aa (Ak Aa) (An (v := Value.int .i64 p0.1) 0 F Aa Aa T3 Aa).q fun a w F W => ?_
  refine AB F W (Ag F Aa Aa Aa Aa) Aa (Ak Aa) (Fa F Aa Aa).q fun a w F W => ?_
  refine ls F W Aa (Aq F Aa Aa Aa).q fun a w F W => ?_
  refine ls F W Aa (Af F Aa).q fun a w F W => ?_
  rcases Bool.eq_false_or_eq_true (decide (p0.1 ≤ p2)) with hb | hb
  ·
   have H := AW (BB hb) H
   rw [hb] at F
   clear hb
   iterate 3 refine Ct F Aa Aa Aa Aa Aa Aa Aa fun a F => ?_
   refine ls F W Aa (Ao F Aa Aa Aa).q fun a w F W => ?_
   refine Ad (Ac ?_)
   exact ⟨_, H, F.re ⟨rfl, Aa, Aa, Aa, Aa, Aa, trivial⟩, W⟩
  have H := AV (BD hb) H
  rw [hb] at F
  clear hb
  refine AB F W (Ag F Aa Aa Aa Aa) Aa (Ak Aa) (Af F Aa).q fun a w F W => ?_
  refine AB F W (Ag F Aa Aa Aa Aa) Aa (Ak Aa) (Br (r := (Rp.int .i64)) (l := p3) Jd Aa F Aa (Am h_v4)).q fun a w F W => ?_
  refine AB F W (Ag F Aa Aa Aa Aa) Aa (Ak Aa) (DM F Aa Aa).q fun a w F W => ?_
  refine ls F W Aa (Aq F Aa Aa Aa).q fun a w F W => ?_
  refine Ad (Ac ?_)
  exact ⟨_, H, F.re ⟨rfl, Aa, Aa, Aa, Aa, Aa, trivial⟩, W⟩
 rintro a w ⟨x1, hj, F, W⟩
 have hj := AX hj
 subst hj
 have H := K1
 clear G1 K1
 refine AC F Aa (fun hb => ?_) fun hb => ?_
 ·
  have H := AW hb H
  rw [hb] at F
  clear hb
  refine Ah (Ab ?_)
  obtain ⟨x3, h2, H⟩ := Al H
  refine ls F W Aa (AZ (v := Value.bool x3) F H8 Aa (fun w W => HW any w _ h2)) fun a w F W => ?_
  refine ls F W Aa (Ae F Aa).q fun a w F W => ?_
  refine Ad (Ac (Az (AU ?_)))
  have H := AX H
  subst H
  refine A0 (.inl Aa) F W Aa (Au F Aa) ?_
  exact ⟨rfl, W.done⟩
 have H := AV (by rw [hb]; decide) H
 rw [hb] at F
 clear hb
 refine Ax (Ac (Ah (Ab ?_)))
 refine ls F W Aa (Af F Aa).q fun a w F W => ?_
 obtain ⟨x4, h3, H⟩ := Al H
 refine BO (Ml := []) (Zl := []) (M := [(b1, [.int .i64 p0.1, v1, v2])]) (Z := []) (β := Value) (rv := fun x => x) (MM := fun x => []) (ZZ := fun x => [row x 56 (Rp.flt .f64) x4]) F W H9 Aa Aa (fun hL => Lj _ w (v3) p1 _ h3 ((Am h_v3) w W).nx) fun x a w F W => ?_
 obtain ⟨v5, rfl⟩ : ∃ y, y = x := ⟨x, rfl⟩
 have W : Stw ⟨Y, [], w0⟩ [(b1, [.int .i64 p0.1, v1, v2])] [row v5 56 (Rp.flt .f64) x4] w := W
 refine ls F W Aa (Ae F Aa).q fun a w F W => ?_
 refine Ad (Ac (Ah (Ab ?_)))
 refine ls F W Aa (Af F Aa).q fun a w F W => ?_
 refine ls F W Aa (Ae F Aa).q fun a w F W => ?_
 refine Ad (Ac (Ah (Ab ?_)))
 refine ls F W Aa (Ae F Aa).q fun a w F W => ?_
 refine Ad (Ac ?_)
 obtain ⟨o2, G2, K2⟩ := Al H
 refine AJ (fun a w => ∃ x5 : Int, ∃ x6 : List Int, ∃ v6 : Value, some ((x5, x6)) = some o2 ∧ Fr 105 [] [(2, .int .i64 p2), (4, .pointer (some ⟨b1, 0, none⟩)), (8, .bool false), (9, v5), (10, .int .i64 x5), (11, v6)] a ∧ Stw ⟨Y, [], w0⟩ [(b1, [.int .i64 p0.1, v1, v2])] [row v5 56 (Rp.flt .f64) x4, row v6 3 (Rp.int .i64) x6] w) ?_ ?_
 ·
  have H := G2
  clear G2 K2
  refine Ah (Ab ?_)
  refine ls F W Aa (Ae F Aa).q fun a w F W => ?_
  refine Ad (Ac (As ?_))
  have W := W.nilRow 3 (Rp.int .i64)
  have W := W.frontZ (i := 1) Aa Aa
  refine Be H (fun s a w => ∃ v7 : Value, Fr 105 [] [(2, .int .i64 p2), (3, v4), (4, .pointer (some ⟨b1, 0, none⟩)), (8, .bool false), (9, v5), (10, .int .i64 s.1), (11, v7), (12, .int .i64 s.2.2)] a ∧ Stw ⟨Y, [], w0⟩ [(b1, [.int .i64 p0.1, v1, v2])] [row v5 56 (Rp.flt .f64) x4, row v7 3 (Rp.int .i64) s.2.1] w) ⟨(Value.slice none 0 0), F.re ⟨rfl, Aa, Aa, Aa, Aa, Aa, Aa, Aa, trivial⟩, W⟩ fun s o a w H L3 hR => ?_
  obtain ⟨x7, x8, x9⟩ := s
  obtain ⟨v7, F, W⟩ := hR
  have F : Fr 105 [] [(2, .int .i64 p2), (3, v4), (4, .pointer (some ⟨b1, 0, none⟩)), (8, .bool false), (9, v5), (10, .int .i64 x7), (11, v7), (12, .int .i64 x9)] a := F
  have W : Stw ⟨Y, [], w0⟩ [(b1, [.int .i64 p0.1, v1, v2])] [row v5 56 (Rp.flt .f64) x4, row v7 3 (Rp.int .i64) x8] w := W
  rw [BW] at H
  refine Ah (Ah (Ab ?_))
  iterate 2 refine ls F W Aa (Af F Aa).q fun a w F W => ?_
  refine ls F W Aa (Br (r := (Rp.int .i64)) (l := p3) Jd Aa F Aa (Am h_v4)).q fun a w F W => ?_
  refine ls F W Aa (Bl F Aa Aa).q fun a w F W => ?_
  refine Ad (Ac ?_)
  refine AC F Aa (fun hb => ?_) fun hb => ?_
  ·
   have H := AW (BB hb) H
   rw [hb] at F
   clear hb
   refine Ax (Ac ?_)
   obtain ⟨o4, G4, K4⟩ := Al H
   refine AJ (fun a w => ∃ x10 : Int, ∃ x11 : List Int, ∃ v8 : Value, some ((x10, x11)) = some o4 ∧ Fr 105 [] [(2, .int .i64 p2), (3, v4), (4, .pointer (some ⟨b1, 0, none⟩)), (8, .bool false), (9, v5), (10, .int .i64 x10), (11, v8), (12, .int .i64 x9)] a ∧ Stw ⟨Y, [], w0⟩ [(b1, [.int .i64 p0.1, v1, v2])] [row v5 56 (Rp.flt .f64) x4, row v8 3 (Rp.int .i64) x11] w) ?_ ?_
   ·
    have H := G4
    clear G4 K4
    refine As (Ah ?_)
    refine CF W MO (by kernel_rfl) ?_
    refine qs F Aa (An (v := Value.agg #[.int .i64 p0.1, v1, v2]) 0 F Aa Aa I2 Aa).q fun a F => ?_
    iterate 3 refine qs F Aa (Af F Aa).q fun a F => ?_
    obtain ⟨x12, h4, H⟩ := Al H
    refine qs F Aa (AF (r := (Rp.int .i64)) FM F Aa Aa (Am h_v4) h4).q fun a F => ?_
    refine qs F Aa (Aw (y := Value.int .i64 x12) (j := 0) (i := x9) F Aa Aa (Am h_v4) h4 Fl.int.to T3 Aa).q fun a F => ?_
    obtain ⟨x13, h5, H⟩ := Al H
    refine qs F Aa (AZ (v := Value.tuple #[.int .i64 x13.1, .int .i64 x13.2.1, .int .i64 x13.2.2.1, .bool x13.2.2.2]) F Rw Aa (fun w W => LL any w (v1) (v2) p0 x7 x12 _ h5 (((Am h_v1) : D6 _ _ _ _ _ _) w W).nx (((Am h_v2) : D6 _ _ _ _ _ _) w W).nx)) fun a F => ?_
    refine qs F Aa (Af F Aa).q fun a F => ?_
    refine qs F Aa (BP (v := Value.int .i64 x13.1) F Aa Aa).q fun a F => ?_
    refine qs F Aa (BP (v := Value.int .i64 x13.2.1) F Aa Aa).q fun a F => ?_
    refine qs F Aa (BP (v := Value.int .i64 x13.2.2.1) F Aa Aa).q fun a F => ?_
    refine qs F Aa (BP (v := Value.bool x13.2.2.2) F Aa Aa).q fun a F => ?_
    iterate 4 refine qs F Aa (Ae F Aa).q fun a F => ?_
    refine A9 fun w W => ?_
    refine Ac ?_
    obtain ⟨o5, G5, K5⟩ := Al H
    refine AJ (fun a w => ∃ x14 : Bool, some (x14) = some o5 ∧ Fr 105 [] [(2, .int .i64 p2), (3, v4), (4, .pointer (some ⟨b1, 0, none⟩)), (8, .bool false), (9, v5), (10, .int .i64 x7), (11, v7), (12, .int .i64 x9), (13, .int .i64 x13.1), (15, .int .i64 x13.2.2.1), (70, .bool x14)] a ∧ Stw ⟨Y, [], w0⟩ [(b1, [.int .i64 p0.1, v1, v2])] [row v5 56 (Rp.flt .f64) x4, row v7 3 (Rp.int .i64) x8] w) ?_ ?_
    ·
     have H := G5
     clear G5 K5
     refine Ab ?_
     iterate 2 refine ls F W Aa (Af F Aa).q fun a w F W => ?_
     rcases Bool.eq_false_or_eq_true x13.2.2.2 with hb | hb
     ·
      have H := AW hb H
      rw [hb] at F
      clear hb
      iterate 2 refine AB F W (Ag F Aa Aa Aa Aa) Aa (Ak Aa) (Af F Aa).q fun a w F W => ?_
      refine Lv (Ag F Aa Aa Aa Aa) ?_
      obtain ⟨x15, h6, H⟩ := Al H
      refine ls F W Aa (AZ (v := Value.bool x15) F Qv Aa (fun w W => GC any w (v5) x4 x13.2.2.1 _ h6 (((Av 0 Aa) : D6 _ _ _ _ _ _) w W).nx)) fun a w F W => ?_
      refine ls F W Aa (Ao F Aa Aa Aa).q fun a w F W => ?_
      refine Ad (Ac ?_)
      have W := W.frontZ (i := 1) Aa Aa
      have W := W.frontZ (i := 1) Aa Aa
      exact ⟨_, H, F.re ⟨rfl, Aa, Aa, Aa, Aa, Aa, Aa, Aa, Aa, Aa, Aa, trivial⟩, W⟩
     have H := AV (by rw [hb]; decide) H
     rw [hb] at F
     clear hb
     iterate 3 refine Ct F Aa Aa Aa Aa Aa Aa Aa fun a F => ?_
     refine ls F W Aa (Aq F Aa Aa Aa).q fun a w F W => ?_
     refine Ad (Ac ?_)
     have W := W.frontZ (i := 1) Aa Aa
     have W := W.frontZ (i := 1) Aa Aa
     exact ⟨_, H, F.re ⟨rfl, Aa, Aa, Aa, Aa, Aa, Aa, Aa, Aa, Aa, Aa, trivial⟩, W⟩
    rintro a w ⟨x14, hj, F, W⟩
    have hj := AX hj
    subst hj
    have H := K5
    clear G5 K5
    refine AC F Aa (fun hb => ?_) fun hb => ?_
    ·
     have H := AW hb H
     rw [hb] at F
     clear hb
     refine Ah (Ab ?_)
     iterate 2 refine ls F W Aa (Af F Aa).q fun a w F W => ?_
     refine D9 (z := Value.int .i64 0) (cs := [.int .i64 x13.2.2.1]) (Rp.int .i64) ([x13.2.2.1] : List Int) F W Aa FM Z3 Aa Aa Aa Aa Aa Aa (Fl.int.repL _ _ ([x13.2.2.1] : List Int)) fun v9 a w F W => ?_
     obtain ⟨x16, h7, H⟩ := Al H
     refine Dr (r := (Rp.int .i64)) (i := 2) F W Aa FM Aa Aa Aa Aa (DA W 0 Aa) h7 Aa fun v10 a w F W => ?_
     have W : Stw ⟨Y, [], w0⟩ [(b1, [.int .i64 p0.1, v1, v2])] [row v10 3 (Rp.int .i64) x16, row v9 3 (Rp.int .i64) ([x13.2.2.1] : List Int), row v5 56 (Rp.flt .f64) x4] w := W
     refine ls F W Aa (Ae F Aa).q fun a w F W => ?_
     refine Ad (Ac (Ab ?_))
     refine ls F W Aa (Af F Aa).q fun a w F W => ?_
     refine ls F W Aa (Ae F Aa).q fun a w F W => ?_
     refine Ad (AO (Ac ?_))
     have W := W.frontZ (i := 2) Aa Aa
     have W := W.sub (M' := [(b1, [.int .i64 p0.1, v1, v2])]) (Z' := [row v5 56 (Rp.flt .f64) x4, row v10 3 (Rp.int .i64) x16]) (List.Sublist.refl _) (List.Sublist.cons_cons _ (List.Sublist.cons_cons _ (List.nil_sublist _)))
     exact ⟨_, _, (v10), H, F.re ⟨rfl, Aa, Aa, Aa, Aa, Aa, Aa, Aa, trivial⟩, W⟩
    have H := AV (by rw [hb]; decide) H
    rw [hb] at F
    clear hb
    refine Ax (AO (Ac ?_))
    have W := W.frontZ (i := 1) Aa Aa
    have W := W.frontZ (i := 1) Aa Aa
    exact ⟨_, _, (v7), H, F.re ⟨rfl, Aa, Aa, Aa, Aa, Aa, Aa, Aa, trivial⟩, W⟩
   rintro a w ⟨x10, x11, v8, hj, F, W⟩
   have hj := AX hj
   subst hj
   have H := K4
   clear G4 K4
   refine Ab ?_
   refine ls F W Aa (Af F Aa).q fun a w F W => ?_
   refine ls F W Aa (BQ F Aa Aa Aa).q fun a w F W => ?_
   refine ls F W Aa (Ae F Aa).q fun a w F W => ?_
   refine Ad (Ac ?_)
   have W := W.frontZ (i := 1) Aa Aa
   have W := W.frontZ (i := 1) Aa Aa
   exact ⟨_, H, (v8), F.re ⟨rfl, Aa, Aa, Aa, Aa, Aa, Aa, Aa, trivial⟩, W⟩
  have H := AV (BD hb) H
  rw [hb] at F
  clear hb
  refine Bg ?_
  iterate 2 refine BJ ?_
  refine Bh (Ac ?_)
  have W := W.frontZ (i := 1) Aa Aa
  have W := W.frontZ (i := 1) Aa Aa
  have H := L3 _ H
  exact ⟨_, _, (v7), H, F.re ⟨rfl, Aa, Aa, Aa, Aa, Aa, trivial⟩, W⟩
 rintro a w ⟨x5, x6, v6, hj, F, W⟩
 have hj := AX hj
 subst hj
 have H := K2
 clear G2 K2
 refine Ah (Ab ?_)
 refine ls F W Aa (An (v := Value.agg #[.int .i64 p0.1, v1, v2]) 0 F Aa Aa I2 Aa).q fun a w F W => ?_
 iterate 2 refine ls F W Aa (Af F Aa).q fun a w F W => ?_
 obtain ⟨x17, h8, H⟩ := Al H
 refine BO (Ml := []) (Zl := []) (M := [(b1, [.int .i64 p0.1, v1, v2])]) (Z := [row v5 56 (Rp.flt .f64) x4, row v6 3 (Rp.int .i64) x6]) (β := {x : Value // NN x (x17)}) (rv := fun x => x.1) (MM := fun x => []) (ZZ := fun x => [row x.1 56 (Rp.flt .f64) x17]) F W QL Aa Aa (fun hL => Fc _ w (v1) (v2) (v5) p0 x4 x5 _ h8 ((Am h_v1) w W).nx ((Am h_v2) w W).nx ((Av 0 Aa) w W).nx) fun x a w F W => ?_
 obtain ⟨v11, rfl⟩ : ∃ y, y = x := ⟨x, rfl⟩
 have W : Stw ⟨Y, [], w0⟩ [(b1, [.int .i64 p0.1, v1, v2])] [row v11.1 56 (Rp.flt .f64) x17, row v5 56 (Rp.flt .f64) x4, row v6 3 (Rp.int .i64) x6] w := W
 refine ls F W Aa (Ae F Aa).q fun a w F W => ?_
 refine Ad (Ac ?_)
 obtain ⟨o6, G6, K6⟩ := Al H
 refine AJ (fun a w => ∃ x18 : Bool, some (x18) = some o6 ∧ Fr 105 [] [(8, .bool x18)] a ∧ Stw ⟨Y, [], w0⟩ [(b1, [.int .i64 p0.1, v1, v2])] [] w) ?_ ?_
 ·
  have H := G6
  clear G6 K6
  refine CF W MO (by kernel_rfl) ?_
  refine qs F Aa (Af F Aa).q fun a F => ?_
  refine qs F Aa (Br (r := (Rp.flt .f64)) (l := x17) JQ Aa F Aa (Av 0 Aa)).q fun a F => ?_
  refine qs F Aa (Ai CA Aa Aa Aa T3 F Aa 0 Aa).q fun a F => ?_
  refine qs F Aa (An (v := Value.int .i64 p0.1) 0 F Aa Aa T3 Aa).q fun a F => ?_
  refine qs F Aa (CM F Aa Aa).q fun a F => ?_
  refine qs F Aa (Af F Aa).q fun a F => ?_
  rcases Bool.eq_false_or_eq_true (decide ((x17.length : Int) = p0.1)) with hb | hb
  ·
   have H := AW (BB hb) H
   rw [hb] at F
   clear hb
   iterate 2 refine Bz F (Ag F Aa Aa Aa Aa) Aa (Ak Aa) (Af F Aa).q fun a F => ?_
   obtain ⟨x19, h9, H⟩ := Al H
   refine Bz F (Ag F Aa Aa Aa Aa) Aa (Ak Aa) (AF (r := (Rp.flt .f64)) Hy F Aa Aa (Av 0 Aa) h9).q fun a F => ?_
   refine Bz F (Ag F Aa Aa Aa Aa) Aa (Ak Aa) (Aw (y := Value.float .f64 x19) (j := 0) (i := x5) F Aa Aa (Av 0 Aa) h9 Fl.flt.to Ih Aa).q fun a F => ?_
   refine Bz F (Ag F Aa Aa Aa Aa) Aa (Ak Aa) (LD F Aa Aa).q fun a F => ?_
   refine qs F Aa (Ao F Aa Aa Aa).q fun a F => ?_
   refine qs F Aa (Af F Aa).q fun a F => ?_
   rcases Bool.eq_false_or_eq_true (JP x19 0) with hb | hb
   ·
    have H := AW hb H
    rw [hb] at F
    clear hb
    iterate 2 refine Bz F (Ag F Aa Aa Aa Aa) Aa (Ak Aa) (Af F Aa).q fun a F => ?_
    obtain ⟨x20, h10, H⟩ := Al H
    refine Bz F (Ag F Aa Aa Aa Aa) Aa (Ak Aa) (AF (r := (Rp.flt .f64)) Hy F Aa Aa (Av 0 Aa) h10).q fun a F => ?_
    refine Bz F (Ag F Aa Aa Aa Aa) Aa (Ak Aa) (Aw (y := Value.float .f64 x20) (j := 0) (i := p2) F Aa Aa (Av 0 Aa) h10 Fl.flt.to Ih Aa).q fun a F => ?_
    iterate 2 refine Bz F (Ag F Aa Aa Aa Aa) Aa (Ak Aa) (Af F Aa).q fun a F => ?_
    obtain ⟨x21, h11, H⟩ := Al H
    refine Bz F (Ag F Aa Aa Aa Aa) Aa (Ak Aa) (AZ (v := Value.float .f64 x21) F R4 Aa (fun w W => JU any w (v5) (v6) x4 x6 _ h11 (((Av 1 Aa) : D6 _ _ _ _ _ _) w W).nx (((Av 2 Aa) : D6 _ _ _ _ _ _) w W).nx)) fun a F => ?_
    refine Bz F (Ag F Aa Aa Aa Aa) Aa (Ak Aa) (PB F Aa Aa).q fun a F => ?_
    refine qs F Aa (Ao F Aa Aa Aa).q fun a F => ?_
    refine qs F Aa (Af F Aa).q fun a F => ?_
    rcases Bool.eq_false_or_eq_true (Kr x20 x21 || JP x20 x21) with hb | hb
    ·
     have H := AW hb H
     rw [hb] at F
     clear hb
     obtain ⟨x22, h12, H⟩ := Al H
     refine Bz F (Ag F Aa Aa Aa Aa) Aa (Ak Aa) (AZ (v := Value.bool x22) F H8 Aa (fun w W => HW any w _ h12)) fun a F => ?_
     refine qs F Aa (Ao F Aa Aa Aa).q fun a F => ?_
     refine qs F Aa (Ae F Aa).q fun a F => ?_
     refine A9 fun w W => ?_
     refine Ac ?_
     have W := W.sub (M' := [(b1, [.int .i64 p0.1, v1, v2])]) (Z' := []) (List.Sublist.refl _) (List.nil_sublist _)
     exact ⟨_, H, F.re ⟨rfl, trivial⟩, W⟩
    have H := AV (by rw [hb]; decide) H
    rw [hb] at F
    clear hb
    refine CP F (Ca F Aa Aa Aa Aa Aa) Aa Aa fun a F => ?_
    refine qs F Aa (Aq F Aa Aa Aa).q fun a F => ?_
    refine qs F Aa (Ae F Aa).q fun a F => ?_
    refine A9 fun w W => ?_
    refine Ac ?_
    have W := W.sub (M' := [(b1, [.int .i64 p0.1, v1, v2])]) (Z' := []) (List.Sublist.refl _) (List.nil_sublist _)
    exact ⟨_, H, F.re ⟨rfl, trivial⟩, W⟩
   have H := AV (by rw [hb]; decide) H
   rw [hb] at F
   clear hb
   iterate 8 refine CP F (Ca F Aa Aa Aa Aa Aa) Aa Aa fun a F => ?_
   refine qs F Aa (Aq F Aa Aa Aa).q fun a F => ?_
   refine qs F Aa (Af F Aa).q fun a F => ?_
   refine CP F (Ca F Aa Aa Aa Aa Aa) Aa Aa fun a F => ?_
   refine qs F Aa (Aq F Aa Aa Aa).q fun a F => ?_
   refine qs F Aa (Ae F Aa).q fun a F => ?_
   refine A9 fun w W => ?_
   refine Ac ?_
   have W := W.sub (M' := [(b1, [.int .i64 p0.1, v1, v2])]) (Z' := []) (List.Sublist.refl _) (List.nil_sublist _)
   exact ⟨_, H, F.re ⟨rfl, trivial⟩, W⟩
  have H := AV (BD hb) H
  rw [hb] at F
  clear hb
  iterate 5 refine CP F (Ca F Aa Aa Aa Aa Aa) Aa Aa fun a F => ?_
  refine qs F Aa (Aq F Aa Aa Aa).q fun a F => ?_
  refine qs F Aa (Af F Aa).q fun a F => ?_
  iterate 8 refine CP F (Ca F Aa Aa Aa Aa Aa) Aa Aa fun a F => ?_
  refine qs F Aa (Aq F Aa Aa Aa).q fun a F => ?_
  refine qs F Aa (Af F Aa).q fun a F => ?_
  refine CP F (Ca F Aa Aa Aa Aa Aa) Aa Aa fun a F => ?_
  refine qs F Aa (Aq F Aa Aa Aa).q fun a F => ?_
  refine qs F Aa (Ae F Aa).q fun a F => ?_
  refine A9 fun w W => ?_
  refine Ac ?_
  have W := W.sub (M' := [(b1, [.int .i64 p0.1, v1, v2])]) (Z' := []) (List.Sublist.refl _) (List.nil_sublist _)
  exact ⟨_, H, F.re ⟨rfl, trivial⟩, W⟩
 rintro a w ⟨x18, hj, F, W⟩
 have hj := AX hj
 subst hj
 have H := K6
 clear G6 K6
 refine Az ?_
 have H := AX H
 subst H
 refine A0 (.inl Aa) F W Aa (Au F Aa) ?_
 exact ⟨rfl, W.done⟩
end Go.Proofs.Ytbogijdfacoccaa
