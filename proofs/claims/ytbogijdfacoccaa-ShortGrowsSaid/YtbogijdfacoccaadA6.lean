/- The functions of layer 19, FC. Conditions: none. -/
import Derived.Test.YtbogijdfacoccaadA5
namespace Go.Proofs.Ytbogijdfacoccaa
open Go Go.RowKit
set_option linter.unusedVariables false
set_option linter.unusedSimpArgs false
set_option maxRecDepth 20000
noncomputable def Cp (x14 : List Nat) (x15 : List Nat) : Int → Option (Int ⊕ (Unit ⊕ Bool))
  | x16 => (if x16 < (x14.length : Int) then (ix x15 x16).bind fun x17 => (ix x14 x16).bind fun x18 => (if (Kn x17 x18) = true then some (.inr (.inr false)) else some (.inl (BM (x16 + 1)))) else some (.inr (.inl ())))
noncomputable def C3 (p0 : Int × (List (Int × Int × Int × Int × Int × Int)) × (List (Int × Int))) (p1 : List Int) (p2 : Int) (p3 : Int) (p4 : Int) : Option Bool := (if (!(Ea p0 p1)) = true then some true else (Ee p0 p1).bind fun x2 => (if (!x2) = true then some true else (if p2 < 0 then some true else (if p0.1 ≤ p2 then some true else (if p3 < 0 then some true else some (decide ((p1.length : Int) ≤ p3))))))).bind fun x1 => (if x1 = true then (DF).bind fun x3 => some x3 else (Hm ([] : List Int) p1).bind fun x4 => (ix x4 p3).bind fun x5 => (Fp p1).bind fun x6 => (Fp (Au x4 p3 p4)).bind fun x7 => ((Ee p0 (Au x4 p3 p4)).bind fun x9 => (if (!x9) = true then some true else (if (x6.length : Int) ≠ (p1.length : Int) then some true else (if (x7.length : Int) ≠ (p1.length : Int) then some true else (ix x7 p3).bind fun x10 => (ix x6 p3).bind fun x11 => some (Kn x10 x11))))).bind fun x8 => (if x8 = true then (if (x6.length : Int) = (p1.length : Int) then (if (x7.length : Int) = (p1.length : Int) then (DF).bind fun x13 => some x13 else some false) else some false).bind fun x12 => some x12 else (B5 p0 x6 p2).bind fun x14 => (B5 p0 x7 p2).bind fun x15 => (if (decide ((x14.length : Int) ≠ p0.1) || decide ((x15.length : Int) ≠ p0.1)) = true then some false else Iu (AN (Cp x14 x15) 0) fun _ => (DF).bind fun x19 => some x19)))
theorem Hs (Y : Nat → Prop) (w0 : World) (v1 : Value) (v2 : Value) (v3 : Value) (p0 : Int × (List (Int × Int × Int × Int × Int × Int)) × (List (Int × Int))) (p1 : List Int) (p2 : Int) (p3 : Int) (p4 : Int) (r : Bool) (H : C3 p0 p1 p2 p3 p4 = some r) (h_v1 : Sl w0 (NX []) Fd v1 p0.2.1) (h_v2 : Sl w0 (NX []) Ft v2 p0.2.2) (s_v3 : Sl w0 Y (Rp.int .u64) v3 p1) :
    Calls Try.prog 6 #[.agg #[.int .i64 p0.1, v1, v2], v3, .int .i64 p2, .int .i64 p3, .int .u64 p4] w0 fun e w' => e = .returned (.bool r) ∧ Below w0.heap.size w0 w' := by
 refine enter Try.func6 Aa Try.ntmps6 Aa fun a F => ?_
 have W := Stw.start Y w0
 have h_v3 := W.nx s_v3
 unfold C3 at H
 refine Ah (Ab ?_)
 refine EJ (cs := [.int .i64 p0.1, v1, v2]) F W Aa Aa Aa fun b1 a w F W => ?_
 refine ls F W Aa (Af F Aa).q fun a w F W => ?_
 refine Ae (Ac (Ah ?_))
 obtain ⟨o1, G1, K1⟩ := Al H
 refine AL (fun a w => ∃ x1 : Bool, some (x1) = some o1 ∧ Fr 139 [] [(1, v3), (2, .int .i64 p2), (3, .int .i64 p3), (4, .int .u64 p4), (5, .pointer (some ⟨b1, 0, none⟩)), (10, .bool false), (46, .bool x1)] a ∧ Stw ⟨Y, [], w0⟩ [(b1, [.int .i64 p0.1, v1, v2])] [] w) ?_ ?_
 ·
  have H := G1
  clear G1 K1
  refine Ab ?_
  refine ls F W Aa (Ao (v := Value.agg #[.int .i64 p0.1, v1, v2]) 0 F Aa Aa Ik Aa).q fun a w F W => ?_
  refine ls F W Aa (Ad F Aa).q fun a w F W => ?_
  refine ls F W Aa (A1 (v := Value.bool (Ea p0 p1)) F H7 Aa (fun w W => KN any w (v1) (v2) (v3) p0 p1 _ Aa (((An h_v1) : Eb _ _ _ _ _ _) w W).nx (((An h_v2) : Eb _ _ _ _ _ _) w W).nx (((An h_v3) : Eb _ _ _ _ _ _) w W).nx)) fun a w F W => ?_
  refine ls F W Aa (FN F Aa).q fun a w F W => ?_
  refine ls F W Aa (Ad F Aa).q fun a w F W => ?_
  rcases Bool.eq_false_or_eq_true (!(Ea p0 p1)) with hb | hb
  ·
   have H := AS hb H
   rw [hb] at F
   clear hb
   iterate 4 refine Cf F Aa Aa Aa Aa Aa Aa Aa fun a F => ?_
   refine ls F W Aa (Am F Aa Aa Aa).q fun a w F W => ?_
   refine ls F W Aa (Ad F Aa).q fun a w F W => ?_
   iterate 2 refine Cf F Aa Aa Aa Aa Aa Aa Aa fun a F => ?_
   refine ls F W Aa (Am F Aa Aa Aa).q fun a w F W => ?_
   refine ls F W Aa (Ad F Aa).q fun a w F W => ?_
   iterate 4 refine Cf F Aa Aa Aa Aa Aa Aa Aa fun a F => ?_
   refine ls F W Aa (Am F Aa Aa Aa).q fun a w F W => ?_
   refine ls F W Aa (Ad F Aa).q fun a w F W => ?_
   iterate 2 refine Cf F Aa Aa Aa Aa Aa Aa Aa fun a F => ?_
   refine ls F W Aa (Am F Aa Aa Aa).q fun a w F W => ?_
   refine ls F W Aa (Ad F Aa).q fun a w F W => ?_
   iterate 4 refine Cf F Aa Aa Aa Aa Aa Aa Aa fun a F => ?_
   refine ls F W Aa (Am F Aa Aa Aa).q fun a w F W => ?_
   refine Ae (Ac ?_)
   exact ⟨_, H, F.re ⟨rfl, Aa, Aa, Aa, Aa, Aa, Aa, trivial⟩, W⟩
  have H := AU (by rw [hb]; decide) H
  rw [hb] at F
  clear hb
  refine AA F W (Ag F Aa Aa Aa Aa) Aa (Ak Aa) (Ao (v := Value.agg #[.int .i64 p0.1, v1, v2]) 0 F Aa Aa Ik Aa).q fun a w F W => ?_
  refine AA F W (Ag F Aa Aa Aa Aa) Aa (Ak Aa) (Ad F Aa).q fun a w F W => ?_
  refine Lx (Ag F Aa Aa Aa Aa) ?_
  obtain ⟨x2, h1, H⟩ := Al H
  refine ls F W Aa (A1 (v := Value.bool x2) F Ql Aa (fun w W => HR any w (v1) (v2) (v3) p0 p1 _ h1 (((An h_v1) : Eb _ _ _ _ _ _) w W).nx (((An h_v2) : Eb _ _ _ _ _ _) w W).nx (((An h_v3) : Eb _ _ _ _ _ _) w W).nx)) fun a w F W => ?_
  refine AA F W (Ag F Aa Aa Aa Aa) Aa (Ak Aa) (FN F Aa).q fun a w F W => ?_
  refine ls F W Aa (As F Aa Aa Aa).q fun a w F W => ?_
  refine ls F W Aa (Ad F Aa).q fun a w F W => ?_
  rcases Bool.eq_false_or_eq_true (!x2) with hb | hb
  ·
   have H := AS hb H
   rw [hb] at F
   clear hb
   iterate 2 refine Cf F Aa Aa Aa Aa Aa Aa Aa fun a F => ?_
   refine ls F W Aa (Am F Aa Aa Aa).q fun a w F W => ?_
   refine ls F W Aa (Ad F Aa).q fun a w F W => ?_
   iterate 4 refine Cf F Aa Aa Aa Aa Aa Aa Aa fun a F => ?_
   refine ls F W Aa (Am F Aa Aa Aa).q fun a w F W => ?_
   refine ls F W Aa (Ad F Aa).q fun a w F W => ?_
   iterate 2 refine Cf F Aa Aa Aa Aa Aa Aa Aa fun a F => ?_
   refine ls F W Aa (Am F Aa Aa Aa).q fun a w F W => ?_
   refine ls F W Aa (Ad F Aa).q fun a w F W => ?_
   iterate 4 refine Cf F Aa Aa Aa Aa Aa Aa Aa fun a F => ?_
   refine ls F W Aa (Am F Aa Aa Aa).q fun a w F W => ?_
   refine Ae (Ac ?_)
   exact ⟨_, H, F.re ⟨rfl, Aa, Aa, Aa, Aa, Aa, Aa, trivial⟩, W⟩
  have H := AU (by rw [hb]; decide) H
  rw [hb] at F
  clear hb
  refine AA F W (Ag F Aa Aa Aa Aa) Aa (Ak Aa) (Ad F Aa).q fun a w F W => ?_
  refine AA F W (Ag F Aa Aa Aa Aa) Aa (Ak Aa) (Bl F Aa Aa).q fun a w F W => ?_
  refine ls F W Aa (As F Aa Aa Aa).q fun a w F W => ?_
  refine ls F W Aa (Ad F Aa).q fun a w F W => ?_
  rcases Bool.eq_false_or_eq_true (decide (p2 < 0)) with hb | hb
  ·
   have H := AS (Bu hb) H
   rw [hb] at F
   clear hb
   iterate 4 refine Cf F Aa Aa Aa Aa Aa Aa Aa fun a F => ?_
   refine ls F W Aa (Am F Aa Aa Aa).q fun a w F W => ?_
   refine ls F W Aa (Ad F Aa).q fun a w F W => ?_
   iterate 2 refine Cf F Aa Aa Aa Aa Aa Aa Aa fun a F => ?_
   refine ls F W Aa (Am F Aa Aa Aa).q fun a w F W => ?_
   refine ls F W Aa (Ad F Aa).q fun a w F W => ?_
   iterate 4 refine Cf F Aa Aa Aa Aa Aa Aa Aa fun a F => ?_
   refine ls F W Aa (Am F Aa Aa Aa).q fun a w F W => ?_
   refine Ae (Ac ?_)
   exact ⟨_, H, F.re ⟨rfl, Aa, Aa, Aa, Aa, Aa, Aa, trivial⟩, W⟩
  have H := AU (Bv hb) H
  rw [hb] at F
  clear hb
  refine AA F W (Ag F Aa Aa Aa Aa) Aa (Ak Aa) (Ad F Aa).q fun a w F W => ?_
  refine AA F W (Ag F Aa Aa Aa Aa) Aa (Ak Aa) (Ai CD Aa Aa Aa T3 F Aa 0 Aa).q fun a w F W => ?_
  refine AA F W (Ag F Aa Aa Aa Aa) Aa (Ak Aa) (Ao (v := Value.int .i64 p0.1) 0 F Aa Aa T3 Aa).q fun a w F W => ?_
  refine AA F W (Ag F Aa Aa Aa Aa) Aa (Ak Aa) (E7 F Aa Aa).q fun a w F W => ?_
  refine ls F W Aa (As F Aa Aa Aa).q fun a w F W => ?_
  refine ls F W Aa (Ad F Aa).q fun a w F W => ?_
  rcases Bool.eq_false_or_eq_true (decide (p0.1 ≤ p2)) with hb | hb
  ·
   have H := AS (Bu hb) H
   rw [hb] at F
   clear hb
   iterate 2 refine Cf F Aa Aa Aa Aa Aa Aa Aa fun a F => ?_
   refine ls F W Aa (Am F Aa Aa Aa).q fun a w F W => ?_
   refine ls F W Aa (Ad F Aa).q fun a w F W => ?_
   iterate 4 refine Cf F Aa Aa Aa Aa Aa Aa Aa fun a F => ?_
   refine ls F W Aa (Am F Aa Aa Aa).q fun a w F W => ?_
   refine Ae (Ac ?_)
   exact ⟨_, H, F.re ⟨rfl, Aa, Aa, Aa, Aa, Aa, Aa, trivial⟩, W⟩
  have H := AU (Bv hb) H
  rw [hb] at F
  clear hb
  refine AA F W (Ag F Aa Aa Aa Aa) Aa (Ak Aa) (Ad F Aa).q fun a w F W => ?_
  refine AA F W (Ag F Aa Aa Aa Aa) Aa (Ak Aa) (Bl F Aa Aa).q fun a w F W => ?_
  refine ls F W Aa (As F Aa Aa Aa).q fun a w F W => ?_
  refine ls F W Aa (Ad F Aa).q fun a w F W => ?_
  rcases Bool.eq_false_or_eq_true (decide (p3 < 0)) with hb | hb
  ·
   have H := AS (Bu hb) H
   rw [hb] at F
   clear hb
   iterate 4 refine Cf F Aa Aa Aa Aa Aa Aa Aa fun a F => ?_
   refine ls F W Aa (Am F Aa Aa Aa).q fun a w F W => ?_
   refine Ae (Ac ?_)
   exact ⟨_, H, F.re ⟨rfl, Aa, Aa, Aa, Aa, Aa, Aa, trivial⟩, W⟩
  have H := AU (Bv hb) H
  rw [hb] at F
  clear hb
  iterate 2 refine AA F W (Ag F Aa Aa Aa Aa) Aa (Ak Aa) (Ad F Aa).q fun a w F W => ?_
  refine AA F W (Ag F Aa Aa Aa Aa) Aa (Ak Aa) (Bd (r := (Rp.int .u64)) (l := p1) I4 Aa F Aa (An h_v3)).q fun a w F W => ?_
  refine AA F W (Ag F Aa Aa Aa Aa) Aa (Ak Aa) (E7 F Aa Aa).q fun a w F W => ?_
  refine ls F W Aa (As F Aa Aa Aa).q fun a w F W => ?_
  refine Ae (Ac ?_)
  exact ⟨_, H, F.re ⟨rfl, Aa, Aa, Aa, Aa, Aa, Aa, trivial⟩, W⟩
 rintro a w ⟨x1, hj, F, W⟩
 have hj := AZ hj
 subst hj
 have H := K1
 clear G1 K1
 refine AC F Aa (fun hb => ?_) fun hb => ?_
 ·
  have H := AS hb H
  rw [hb] at F
  clear hb
  refine Ah (Ab ?_)
  obtain ⟨x3, h2, H⟩ := Al H
  refine ls F W Aa (A1 (v := Value.bool x3) F H8 Aa (fun w W => F0 any w _ h2)) fun a w F W => ?_
  refine ls F W Aa (Af F Aa).q fun a w F W => ?_
  refine Ae (Ac (AB (AY ?_)))
  have H := AZ H
  subst H
  refine AW (.inl Aa) F W Aa (Az F Aa) ?_
  exact ⟨rfl, W.done⟩
 have H := AU (by rw [hb]; decide) H
 rw [hb] at F
 clear hb
 refine Aw (Ac (Ah (Ab ?_)))
 refine ls F W Aa (Af F Aa).q fun a w F W => ?_
 refine Ae (Ac (Ah (Ab ?_)))
 iterate 2 refine ls F W Aa (Ad F Aa).q fun a w F W => ?_
 have W := W.nilRow 59 (Rp.int .u64)
 obtain ⟨x4, h3, H⟩ := Al H
 refine Dm (r := (Rp.int .u64)) (i := 0) F W Aa PL Aa Aa Aa Aa (J1 W s_v3) h3 Aa fun v4 a w F W => ?_
 have W : Stw ⟨Y, [], w0⟩ [(b1, [.int .i64 p0.1, v1, v2])] [row v4 59 (Rp.int .u64) x4] w := W
 refine ls F W Aa (Af F Aa).q fun a w F W => ?_
 refine Ae (Ac (Ah (Ab ?_)))
 iterate 3 refine ls F W Aa (Ad F Aa).q fun a w F W => ?_
 obtain ⟨x5, h4, H⟩ := Al H
 refine ls F W Aa (AG (r := (Rp.int .u64)) PL F Aa Aa (Ap 0 Aa) h4).q fun a w F W => ?_
 refine Cx (i := p3) (j := 0) (vs := [.int .u64 p4]) (x' := p4) F W Aa Aa Aa (k := 0) Aa Aa h4 P4 Aa Aa Aa Aa (fun A cs _ => Fl.int.sto (by rfl) _ _ _) fun w W => ?_
 refine Ae (Ac (Ah (Ab ?_)))
 refine ls F W Aa (Ad F Aa).q fun a w F W => ?_
 obtain ⟨x6, h5, H⟩ := Al H
 refine BJ (Ml := []) (Zl := []) (M := [(b1, [.int .i64 p0.1, v1, v2])]) (Z := [row v4 59 (Rp.int .u64) (Au x4 p3 p4)]) (β := Value) (rv := fun x => x) (MM := fun x => []) (ZZ := fun x => [row x 56 (Rp.flt .f64) x6]) F W H9 Aa Aa (fun hL => Io _ w (v3) p1 _ h5 ((An h_v3) w W).nx) fun x a w F W => ?_
 obtain ⟨v5, rfl⟩ : ∃ y, y = x := ⟨x, rfl⟩
 have W : Stw ⟨Y, [], w0⟩ [(b1, [.int .i64 p0.1, v1, v2])] [row v5 56 (Rp.flt .f64) x6, row v4 59 (Rp.int .u64) (Au x4 p3 p4)] w := W
 refine ls F W Aa (Ad F Aa).q fun a w F W => ?_
 obtain ⟨x7, h6, H⟩ := Al H
 refine BJ (Ml := []) (Zl := []) (M := [(b1, [.int .i64 p0.1, v1, v2])]) (Z := [row v5 56 (Rp.flt .f64) x6, row v4 59 (Rp.int .u64) (Au x4 p3 p4)]) (β := Value) (rv := fun x => x) (MM := fun x => []) (ZZ := fun x => [row x 56 (Rp.flt .f64) x7]) F W H9 Aa Aa (fun hL => Io _ w (v4) (Au x4 p3 p4) _ h6 ((Ap 1 Aa) w W).nx) fun x a w F W => ?_
 obtain ⟨v6, rfl⟩ : ∃ y, y = x := ⟨x, rfl⟩
 have W : Stw ⟨Y, [], w0⟩ [(b1, [.int .i64 p0.1, v1, v2])] [row v6 56 (Rp.flt .f64) x7, row v5 56 (Rp.flt .f64) x6, row v4 59 (Rp.int .u64) (Au x4 p3 p4)] w := W
 iterate 2 refine ls F W Aa (Af F Aa).q fun a w F W => ?_
 refine Ae (Ac (Ah ?_))
 obtain ⟨o2, G2, K2⟩ := Al H
 refine AL (fun a w => ∃ x8 : Bool, some (x8) = some o2 ∧ Fr 139 [] [(1, v3), (2, .int .i64 p2), (5, .pointer (some ⟨b1, 0, none⟩)), (10, .bool false), (12, v5), (13, v6), (87, .bool x8)] a ∧ Stw ⟨Y, [], w0⟩ [(b1, [.int .i64 p0.1, v1, v2])] [row v5 56 (Rp.flt .f64) x6, row v6 56 (Rp.flt .f64) x7] w) ?_ ?_
 ·
  have H := G2
  clear G2 K2
  refine Db W MO (by kernel_rfl) ?_
  refine qs F Aa (Ao (v := Value.agg #[.int .i64 p0.1, v1, v2]) 0 F Aa Aa Ik Aa).q fun a F => ?_
  refine qs F Aa (Ad F Aa).q fun a F => ?_
  obtain ⟨x9, h7, H⟩ := Al H
  refine qs F Aa (A1 (v := Value.bool x9) F Ql Aa (fun w W => HR any w (v1) (v2) (v4) p0 (Au x4 p3 p4) _ h7 (((An h_v1) : Eb _ _ _ _ _ _) w W).nx (((An h_v2) : Eb _ _ _ _ _ _) w W).nx (((Ap 2 Aa) : Eb _ _ _ _ _ _) w W).nx)) fun a F => ?_
  refine qs F Aa (FN F Aa).q fun a F => ?_
  refine qs F Aa (Ad F Aa).q fun a F => ?_
  rcases Bool.eq_false_or_eq_true (!x9) with hb | hb
  ·
   have H := AS hb H
   rw [hb] at F
   clear hb
   iterate 5 refine CO F (B7 F Aa Aa Aa Aa Aa) Aa Aa fun a F => ?_
   refine qs F Aa (Am F Aa Aa Aa).q fun a F => ?_
   refine qs F Aa (Ad F Aa).q fun a F => ?_
   iterate 5 refine CO F (B7 F Aa Aa Aa Aa Aa) Aa Aa fun a F => ?_
   refine qs F Aa (Am F Aa Aa Aa).q fun a F => ?_
   refine qs F Aa (Ad F Aa).q fun a F => ?_
   iterate 9 refine CO F (B7 F Aa Aa Aa Aa Aa) Aa Aa fun a F => ?_
   refine qs F Aa (Am F Aa Aa Aa).q fun a F => ?_
   refine Bg fun w W => ?_
   refine Ac ?_
   have W := W.frontZ (i := 1) Aa Aa
   have W := W.sub (M' := [(b1, [.int .i64 p0.1, v1, v2])]) (Z' := [row v5 56 (Rp.flt .f64) x6, row v6 56 (Rp.flt .f64) x7]) (List.Sublist.refl _) (List.Sublist.cons_cons _ (List.Sublist.cons_cons _ (List.nil_sublist _)))
   exact ⟨_, H, F.re ⟨rfl, Aa, Aa, Aa, Aa, Aa, Aa, trivial⟩, W⟩
  have H := AU (by rw [hb]; decide) H
  rw [hb] at F
  clear hb
  refine Bh F (Ag F Aa Aa Aa Aa) Aa (Ak Aa) (Ad F Aa).q fun a F => ?_
  refine Bh F (Ag F Aa Aa Aa Aa) Aa (Ak Aa) (Bd (r := (Rp.flt .f64)) (l := x6) GE Aa F Aa (Ap 1 Aa)).q fun a F => ?_
  refine Bh F (Ag F Aa Aa Aa Aa) Aa (Ak Aa) (Ad F Aa).q fun a F => ?_
  refine Bh F (Ag F Aa Aa Aa Aa) Aa (Ak Aa) (Bd (r := (Rp.int .u64)) (l := p1) I4 Aa F Aa (An h_v3)).q fun a F => ?_
  refine Bh F (Ag F Aa Aa Aa Aa) Aa (Ak Aa) (I1 F Aa Aa).q fun a F => ?_
  refine qs F Aa (As F Aa Aa Aa).q fun a F => ?_
  refine qs F Aa (Ad F Aa).q fun a F => ?_
  rcases Bool.eq_false_or_eq_true (decide ((x6.length : Int) ≠ (p1.length : Int))) with hb | hb
  ·
   have H := AS (Bu hb) H
   rw [hb] at F
   clear hb
   iterate 5 refine CO F (B7 F Aa Aa Aa Aa Aa) Aa Aa fun a F => ?_
   refine qs F Aa (Am F Aa Aa Aa).q fun a F => ?_
   refine qs F Aa (Ad F Aa).q fun a F => ?_
   iterate 9 refine CO F (B7 F Aa Aa Aa Aa Aa) Aa Aa fun a F => ?_
   refine qs F Aa (Am F Aa Aa Aa).q fun a F => ?_
   refine Bg fun w W => ?_
   refine Ac ?_
   have W := W.frontZ (i := 1) Aa Aa
   have W := W.sub (M' := [(b1, [.int .i64 p0.1, v1, v2])]) (Z' := [row v5 56 (Rp.flt .f64) x6, row v6 56 (Rp.flt .f64) x7]) (List.Sublist.refl _) (List.Sublist.cons_cons _ (List.Sublist.cons_cons _ (List.nil_sublist _)))
   exact ⟨_, H, F.re ⟨rfl, Aa, Aa, Aa, Aa, Aa, Aa, trivial⟩, W⟩
  have H := AU (Bv hb) H
  rw [hb] at F
  clear hb
  refine Bh F (Ag F Aa Aa Aa Aa) Aa (Ak Aa) (Ad F Aa).q fun a F => ?_
  refine Bh F (Ag F Aa Aa Aa Aa) Aa (Ak Aa) (Bd (r := (Rp.flt .f64)) (l := x7) GE Aa F Aa (Ap 0 Aa)).q fun a F => ?_
  refine Bh F (Ag F Aa Aa Aa Aa) Aa (Ak Aa) (Ad F Aa).q fun a F => ?_
  refine Bh F (Ag F Aa Aa Aa Aa) Aa (Ak Aa) (Bd (r := (Rp.int .u64)) (l := p1) I4 Aa F Aa (An h_v3)).q fun a F => ?_
  refine Bh F (Ag F Aa Aa Aa Aa) Aa (Ak Aa) (I1 F Aa Aa).q fun a F => ?_
  refine qs F Aa (As F Aa Aa Aa).q fun a F => ?_
  refine qs F Aa (Ad F Aa).q fun a F => ?_
  rcases Bool.eq_false_or_eq_true (decide ((x7.length : Int) ≠ (p1.length : Int))) with hb | hb
  ·
   have H := AS (Bu hb) H
   rw [hb] at F
   clear hb
   iterate 9 refine CO F (B7 F Aa Aa Aa Aa Aa) Aa Aa fun a F => ?_
   refine qs F Aa (Am F Aa Aa Aa).q fun a F => ?_
   refine Bg fun w W => ?_
   refine Ac ?_
   have W := W.frontZ (i := 1) Aa Aa
   have W := W.sub (M' := [(b1, [.int .i64 p0.1, v1, v2])]) (Z' := [row v5 56 (Rp.flt .f64) x6, row v6 56 (Rp.flt .f64) x7]) (List.Sublist.refl _) (List.Sublist.cons_cons _ (List.Sublist.cons_cons _ (List.nil_sublist _)))
   exact ⟨_, H, F.re ⟨rfl, Aa, Aa, Aa, Aa, Aa, Aa, trivial⟩, W⟩
  have H := AU (Bv hb) H
  rw [hb] at F
  clear hb
  iterate 2 refine Bh F (Ag F Aa Aa Aa Aa) Aa (Ak Aa) (Ad F Aa).q fun a F => ?_
  obtain ⟨x10, h8, H⟩ := Al H
  refine Bh F (Ag F Aa Aa Aa Aa) Aa (Ak Aa) (AG (r := (Rp.flt .f64)) Ho F Aa Aa (Ap 0 Aa) h8).q fun a F => ?_
  refine Bh F (Ag F Aa Aa Aa Aa) Aa (Ak Aa) (Av (y := Value.float .f64 x10) (j := 0) (i := p3) F Aa Aa (Ap 0 Aa) h8 Fl.flt.to KD Aa).q fun a F => ?_
  iterate 2 refine Bh F (Ag F Aa Aa Aa Aa) Aa (Ak Aa) (Ad F Aa).q fun a F => ?_
  obtain ⟨x11, h9, H⟩ := Al H
  refine Bh F (Ag F Aa Aa Aa Aa) Aa (Ak Aa) (AG (r := (Rp.flt .f64)) Ho F Aa Aa (Ap 1 Aa) h9).q fun a F => ?_
  refine Bh F (Ag F Aa Aa Aa Aa) Aa (Ak Aa) (Av (y := Value.float .f64 x11) (j := 0) (i := p3) F Aa Aa (Ap 1 Aa) h9 Fl.flt.to KD Aa).q fun a F => ?_
  refine Bh F (Ag F Aa Aa Aa Aa) Aa (Ak Aa) (Hu F Aa Aa).q fun a F => ?_
  refine qs F Aa (As F Aa Aa Aa).q fun a F => ?_
  refine Bg fun w W => ?_
  refine Ac ?_
  have W := W.frontZ (i := 1) Aa Aa
  have W := W.sub (M' := [(b1, [.int .i64 p0.1, v1, v2])]) (Z' := [row v5 56 (Rp.flt .f64) x6, row v6 56 (Rp.flt .f64) x7]) (List.Sublist.refl _) (List.Sublist.cons_cons _ (List.Sublist.cons_cons _ (List.nil_sublist _)))
  exact ⟨_, H, F.re ⟨rfl, Aa, Aa, Aa, Aa, Aa, Aa, trivial⟩, W⟩
 rintro a w ⟨x8, hj, F, W⟩
 have hj := AZ hj
 subst hj
 have H := K2
 clear G2 K2
 refine AC F Aa (fun hb => ?_) fun hb => ?_
 ·
  have H := AS hb H
  rw [hb] at F
  clear hb
  obtain ⟨o3, G3, K3⟩ := Al H
  refine AL (fun a w => ∃ x12 : Bool, some (x12) = some o3 ∧ Fr 139 [] [(2, .int .i64 p2), (5, .pointer (some ⟨b1, 0, none⟩)), (10, .bool x12), (12, v5), (13, v6)] a ∧ Stw ⟨Y, [], w0⟩ [(b1, [.int .i64 p0.1, v1, v2])] [row v5 56 (Rp.flt .f64) x6, row v6 56 (Rp.flt .f64) x7] w) ?_ ?_
  ·
   have H := G3
   clear G3 K3
   refine Ab ?_
   refine ls F W Aa (Ad F Aa).q fun a w F W => ?_
   refine ls F W Aa (Bd (r := (Rp.flt .f64)) (l := x6) GE Aa F Aa (Ap 0 Aa)).q fun a w F W => ?_
   refine ls F W Aa (Ad F Aa).q fun a w F W => ?_
   refine ls F W Aa (Bd (r := (Rp.int .u64)) (l := p1) I4 Aa F Aa (An h_v3)).q fun a w F W => ?_
   refine ls F W Aa (C6 F Aa Aa).q fun a w F W => ?_
   refine ls F W Aa (Ad F Aa).q fun a w F W => ?_
   rcases Bool.eq_false_or_eq_true (decide ((x6.length : Int) = (p1.length : Int))) with hb | hb
   ·
    have H := AS (Bu hb) H
    rw [hb] at F
    clear hb
    refine AA F W (Ag F Aa Aa Aa Aa) Aa (Ak Aa) (Ad F Aa).q fun a w F W => ?_
    refine AA F W (Ag F Aa Aa Aa Aa) Aa (Ak Aa) (Bd (r := (Rp.flt .f64)) (l := x7) GE Aa F Aa (Ap 1 Aa)).q fun a w F W => ?_
    refine AA F W (Ag F Aa Aa Aa Aa) Aa (Ak Aa) (Ad F Aa).q fun a w F W => ?_
    refine AA F W (Ag F Aa Aa Aa Aa) Aa (Ak Aa) (Bd (r := (Rp.int .u64)) (l := p1) I4 Aa F Aa (An h_v3)).q fun a w F W => ?_
    refine AA F W (Ag F Aa Aa Aa Aa) Aa (Ak Aa) (C6 F Aa Aa).q fun a w F W => ?_
    refine ls F W Aa (Am F Aa Aa Aa).q fun a w F W => ?_
    refine ls F W Aa (Ad F Aa).q fun a w F W => ?_
    rcases Bool.eq_false_or_eq_true (decide ((x7.length : Int) = (p1.length : Int))) with hb | hb
    ·
     have H := AS (Bu hb) H
     rw [hb] at F
     clear hb
     refine Lx (Ag F Aa Aa Aa Aa) ?_
     obtain ⟨x13, h10, H⟩ := Al H
     refine ls F W Aa (A1 (v := Value.bool x13) F H8 Aa (fun w W => F0 any w _ h10)) fun a w F W => ?_
     refine ls F W Aa (Am F Aa Aa Aa).q fun a w F W => ?_
     refine ls F W Aa (Af F Aa).q fun a w F W => ?_
     refine Ae (Ac ?_)
     have W := W.frontZ (i := 1) Aa Aa
     have W := W.frontZ (i := 1) Aa Aa
     exact ⟨_, H, F.re ⟨rfl, Aa, Aa, Aa, Aa, trivial⟩, W⟩
    have H := AU (Bv hb) H
    rw [hb] at F
    clear hb
    refine Cf F Aa Aa Aa Aa Aa Aa Aa fun a F => ?_
    refine ls F W Aa (As F Aa Aa Aa).q fun a w F W => ?_
    refine ls F W Aa (Af F Aa).q fun a w F W => ?_
    refine Ae (Ac ?_)
    have W := W.frontZ (i := 1) Aa Aa
    have W := W.frontZ (i := 1) Aa Aa
    exact ⟨_, H, F.re ⟨rfl, Aa, Aa, Aa, Aa, trivial⟩, W⟩
   have H := AU (Bv hb) H
   rw [hb] at F
   clear hb
   iterate 5 refine Cf F Aa Aa Aa Aa Aa Aa Aa fun a F => ?_
   refine ls F W Aa (As F Aa Aa Aa).q fun a w F W => ?_
   refine ls F W Aa (Ad F Aa).q fun a w F W => ?_
   refine Cf F Aa Aa Aa Aa Aa Aa Aa fun a F => ?_
   refine ls F W Aa (As F Aa Aa Aa).q fun a w F W => ?_
   refine ls F W Aa (Af F Aa).q fun a w F W => ?_
   refine Ae (Ac ?_)
   have W := W.frontZ (i := 1) Aa Aa
   have W := W.frontZ (i := 1) Aa Aa
   exact ⟨_, H, F.re ⟨rfl, Aa, Aa, Aa, Aa, trivial⟩, W⟩
  rintro a w ⟨x12, hj, F, W⟩
  have hj := AZ hj
  subst hj
  have H := K3
  clear G3 K3
  refine AB (AY ?_)
  have H := AZ H
  subst H
  refine AW (.inl Aa) F W Aa (Az F Aa) ?_
  exact ⟨rfl, W.done⟩
 have H := AU (by rw [hb]; decide) H
 rw [hb] at F
 clear hb
 refine Aw (Ac (Ah ?_))
 refine ID [(true, 0), (true, 1), (true, 2), (true, 4), (true, 5), (true, 6), (false, 3), (false, 7), (false, 8), (false, 9)] (CN ⟨Y, [], w0⟩ [(some 3, b1, [.int .i64 p0.1, v1, v2]), (some 7, b1, [.int .i64 p0.1, v1, v2])] []) (fun ch a d v w h => by cases d <;> exact h) MO (by kernel_rfl) W (fun w W => ⟨_, _, W, (all_cons (fun _ => (.head _)) (all_cons (fun _ => (.head _)) AF)), AF⟩) fun w W => ?_
 refine Ev (R := [3]) F Aa Aa (yC fun M Z hN hZ => Ig (cs := [.int .i64 p0.1, v1, v2]) (v := Value.agg #[.int .i64 p0.1, v1, v2]) F Aa (hN ((some 3), b1, [.int .i64 p0.1, v1, v2]) (.head _) Aa) Ik Aa) (by kernel_rfl) Aa fun a F => ?_
 iterate 2 refine Ev (R := []) F Aa Aa (yC fun M Z hN hZ => Ad F Aa) Aa Aa fun a F => ?_
 refine Ev (R := [7]) F Aa Aa (yC fun M Z hN hZ => Ig (cs := [.int .i64 p0.1, v1, v2]) (v := Value.agg #[.int .i64 p0.1, v1, v2]) F Aa (hN ((some 7), b1, [.int .i64 p0.1, v1, v2]) (.tail _ (.head _)) Aa) Ik Aa) (by kernel_rfl) Aa fun a F => ?_
 iterate 2 refine Ev (R := []) F Aa Aa (yC fun M Z hN hZ => Ad F Aa) Aa Aa fun a F => ?_
 refine KS Aa ?_
 obtain ⟨x14, h11, H⟩ := Al H
 refine BJ (Ml := []) (Zl := []) (M := [(b1, [.int .i64 p0.1, v1, v2])]) (Z := [row v5 56 (Rp.flt .f64) x6, row v6 56 (Rp.flt .f64) x7]) (β := {x : Value // NN x (x14)}) (rv := fun x => x.1) (MM := fun x => []) (ZZ := fun x => [row x.1 56 (Rp.flt .f64) x14]) F W PF Aa Aa (fun hL => El _ w (v1) (v2) (v5) p0 x6 p2 _ h11 ((An h_v1) w W).nx ((An h_v2) w W).nx ((Ap 0 Aa) w W).nx) fun x a w F W => ?_
 obtain ⟨v7, rfl⟩ : ∃ y, y = x := ⟨x, rfl⟩
 have W : Stw ⟨Y, [], w0⟩ [(b1, [.int .i64 p0.1, v1, v2])] [row v7.1 56 (Rp.flt .f64) x14, row v5 56 (Rp.flt .f64) x6, row v6 56 (Rp.flt .f64) x7] w := W
 refine E6 (N2 := []) (NZ2 := []) (N3 := [(some 3, b1, [.int .i64 p0.1, v1, v2]), (some 7, b1, [.int .i64 p0.1, v1, v2])]) (NZ3 := []) W Aa Aa (all_cons (fun h => BH (by kernel_rfl) h) (all_cons (fun _ => (.head _)) AF)) AF ?_
 refine KS Aa ?_
 obtain ⟨x15, h12, H⟩ := Al H
 refine BJ (Ml := []) (Zl := []) (M := [(b1, [.int .i64 p0.1, v1, v2])]) (Z := [row v7.1 56 (Rp.flt .f64) x14, row v5 56 (Rp.flt .f64) x6, row v6 56 (Rp.flt .f64) x7]) (β := {x : Value // NN x (x15)}) (rv := fun x => x.1) (MM := fun x => []) (ZZ := fun x => [row x.1 56 (Rp.flt .f64) x15]) F W PF Aa Aa (fun hL => El _ w (v1) (v2) (v6) p0 x7 p2 _ h12 ((An h_v1) w W).nx ((An h_v2) w W).nx ((Ap 2 Aa) w W).nx) fun x a w F W => ?_
 obtain ⟨v8, rfl⟩ : ∃ y, y = x := ⟨x, rfl⟩
 have W : Stw ⟨Y, [], w0⟩ [(b1, [.int .i64 p0.1, v1, v2])] [row v8.1 56 (Rp.flt .f64) x15, row v7.1 56 (Rp.flt .f64) x14, row v5 56 (Rp.flt .f64) x6, row v6 56 (Rp.flt .f64) x7] w := W
 refine E6 (N2 := []) (NZ2 := []) (N3 := [(some 3, b1, [.int .i64 p0.1, v1, v2]), (some 7, b1, [.int .i64 p0.1, v1, v2])]) (NZ3 := []) W Aa Aa (all_cons (fun h => BH (by kernel_rfl) h) (all_cons (fun h => BH (by kernel_rfl) h) AF)) AF ?_
 refine KS Aa ?_
 refine ls F W Aa (Af F Aa).q fun a w F W => ?_
 refine E6 (N2 := []) (NZ2 := []) (N3 := [(some 3, b1, [.int .i64 p0.1, v1, v2]), (some 7, b1, [.int .i64 p0.1, v1, v2])]) (NZ3 := []) W Aa Aa (all_cons (fun h => BH (by kernel_rfl) h) (all_cons (fun h => BH (by kernel_rfl) h) AF)) AF ?_
 refine KS Aa ?_
 refine ls F W Aa (Af F Aa).q fun a w F W => ?_
 refine E6 (N2 := []) (NZ2 := []) (N3 := [(some 3, b1, [.int .i64 p0.1, v1, v2]), (some 7, b1, [.int .i64 p0.1, v1, v2])]) (NZ3 := []) W Aa Aa (all_cons (fun h => BH (by kernel_rfl) h) (all_cons (fun h => BH (by kernel_rfl) h) AF)) AF ?_
 refine LC (Ac (Ah ?_))
 refine AL (fun a w => Fr 139 [] [(10, .bool false), (14, v7.1), (15, v8.1), (122, .bool (decide ((x14.length : Int) ≠ p0.1) || decide ((x15.length : Int) ≠ p0.1)))] a ∧ Stw ⟨Y, [], w0⟩ [(b1, [.int .i64 p0.1, v1, v2])] [row v8.1 56 (Rp.flt .f64) x15, row v7.1 56 (Rp.flt .f64) x14, row v5 56 (Rp.flt .f64) x6, row v6 56 (Rp.flt .f64) x7] w) ?_ ?_
 ·
  refine Ab ?_
  refine ls F W Aa (Ad F Aa).q fun a w F W => ?_
  refine ls F W Aa (Bd (r := (Rp.flt .f64)) (l := x14) GE Aa F Aa (Ap 1 Aa)).q fun a w F W => ?_
  refine ls F W Aa (Ai CD Aa Aa Aa T3 F Aa 0 Aa).q fun a w F W => ?_
  refine ls F W Aa (Ao (v := Value.int .i64 p0.1) 0 F Aa Aa T3 Aa).q fun a w F W => ?_
  refine ls F W Aa (I1 F Aa Aa).q fun a w F W => ?_
  refine ls F W Aa (Ad F Aa).q fun a w F W => ?_
  rcases Bool.eq_false_or_eq_true (decide ((x14.length : Int) ≠ p0.1)) with hb0 | hb0
  ·
   rw [hb0] at F
   iterate 5 refine Cf F Aa Aa Aa Aa Aa Aa Aa fun a F => ?_
   refine ls F W Aa (Am F Aa Aa Aa).q fun a w F W => ?_
   refine Ae (Ac ?_)
   exact ⟨F.re ⟨rfl, Aa, Aa, (by show some (Value.bool true) = some (Value.bool (decide ((x14.length : Int) ≠ p0.1) || decide ((x15.length : Int) ≠ p0.1))); try rw [hb0]; all_goals simp only [Bool.not_true, Bool.not_false, Bool.true_and, Bool.false_and, Bool.true_or, Bool.false_or, Bool.and_true, Bool.or_false, cond_true, cond_false]), trivial⟩, W⟩
  rw [hb0] at F
  refine AA F W (Ag F Aa Aa Aa Aa) Aa (Ak Aa) (Ad F Aa).q fun a w F W => ?_
  refine AA F W (Ag F Aa Aa Aa Aa) Aa (Ak Aa) (Bd (r := (Rp.flt .f64)) (l := x15) GE Aa F Aa (Ap 0 Aa)).q fun a w F W => ?_
  refine AA F W (Ag F Aa Aa Aa Aa) Aa (Ak Aa) (Ai CD Aa Aa Aa T3 F Aa 0 Aa).q fun a w F W => ?_
  refine AA F W (Ag F Aa Aa Aa Aa) Aa (Ak Aa) (Ao (v := Value.int .i64 p0.1) 0 F Aa Aa T3 Aa).q fun a w F W => ?_
  refine AA F W (Ag F Aa Aa Aa Aa) Aa (Ak Aa) (I1 F Aa Aa).q fun a w F W => ?_
  refine ls F W Aa (As F Aa Aa Aa).q fun a w F W => ?_
  refine Ae (Ac ?_)
  exact ⟨F.re ⟨rfl, Aa, Aa, (by show some (Value.bool (decide ((x15.length : Int) ≠ p0.1))) = some (Value.bool (decide ((x14.length : Int) ≠ p0.1) || decide ((x15.length : Int) ≠ p0.1))); try rw [hb0]; all_goals simp only [Bool.not_true, Bool.not_false, Bool.true_and, Bool.false_and, Bool.true_or, Bool.false_or, Bool.and_true, Bool.or_false, cond_true, cond_false]), trivial⟩, W⟩
 rintro a w ⟨F, W⟩
 refine AC F Aa (fun hb => ?_) fun hb => ?_
 ·
  have H := AS hb H
  rw [hb] at F
  clear hb
  refine Ah (Ab ?_)
  refine ls F W Aa (Af F Aa).q fun a w F W => ?_
  refine Ae (Ac (AB (AY ?_)))
  have H := AZ H
  subst H
  refine AW (.inl Aa) F W Aa (Az F Aa) ?_
  exact ⟨rfl, W.done⟩
 have H := AU (by rw [hb]; decide) H
 rw [hb] at F
 clear hb
 refine Aw (Ac ?_)
 obtain ⟨o4, G4, K4, L4⟩ := NW H
 refine AL (fun a w => some (Sum.inl ()) = some o4 ∧ Fr 139 [] [(10, .bool false)] a ∧ Stw ⟨Y, [], w0⟩ [(b1, [.int .i64 p0.1, v1, v2])] [] w) ?_ ?_
 ·
  have H := G4
  clear G4 K4
  refine Ah (Ab ?_)
  refine ls F W Aa (Af F Aa).q fun a w F W => ?_
  refine Ae (Ac (Ay ?_))
  have W := W.frontZ (i := 1) Aa Aa
  have W := W.sub (M' := [(b1, [.int .i64 p0.1, v1, v2])]) (Z' := [row v7.1 56 (Rp.flt .f64) x14, row v8.1 56 (Rp.flt .f64) x15]) (List.Sublist.refl _) (List.Sublist.cons_cons _ (List.Sublist.cons_cons _ (List.nil_sublist _)))
  refine Bf H (fun s a w => Fr 139 [] [(10, .bool false), (14, v7.1), (15, v8.1), (16, .int .i64 s)] a ∧ Stw ⟨Y, [], w0⟩ [(b1, [.int .i64 p0.1, v1, v2])] [row v7.1 56 (Rp.flt .f64) x14, row v8.1 56 (Rp.flt .f64) x15] w) ⟨F.re ⟨rfl, Aa, Aa, Aa, trivial⟩, W⟩ fun s o a w H L5 hR => ?_
  obtain ⟨x16, rfl⟩ : ∃ x, x = s := ⟨s, rfl⟩
  obtain ⟨F, W⟩ := hR
  have F : Fr 139 [] [(10, .bool false), (14, v7.1), (15, v8.1), (16, .int .i64 x16)] a := F
  have W : Stw ⟨Y, [], w0⟩ [(b1, [.int .i64 p0.1, v1, v2])] [row v7.1 56 (Rp.flt .f64) x14, row v8.1 56 (Rp.flt .f64) x15] w := W
  rw [Cp] at H
  refine Ah (Ah (Ab ?_))
  iterate 2 refine ls F W Aa (Ad F Aa).q fun a w F W => ?_
  refine ls F W Aa (Bd (r := (Rp.flt .f64)) (l := x14) GE Aa F Aa (Ap 0 Aa)).q fun a w F W => ?_
  refine ls F W Aa (Bl F Aa Aa).q fun a w F W => ?_
  refine Ae (Ac ?_)
  refine AC F Aa (fun hb => ?_) fun hb => ?_
  ·
   have H := AS (Bu hb) H
   rw [hb] at F
   clear hb
   refine Aw (Ac (Ah (Ay (Ah ?_))))
   refine Db W MO (by kernel_rfl) ?_
   iterate 2 refine qs F Aa (Ad F Aa).q fun a F => ?_
   obtain ⟨x17, h13, H⟩ := Al H
   refine qs F Aa (AG (r := (Rp.flt .f64)) Ho F Aa Aa (Ap 1 Aa) h13).q fun a F => ?_
   refine qs F Aa (Av (y := Value.float .f64 x17) (j := 0) (i := x16) F Aa Aa (Ap 1 Aa) h13 Fl.flt.to KD Aa).q fun a F => ?_
   iterate 2 refine qs F Aa (Ad F Aa).q fun a F => ?_
   obtain ⟨x18, h14, H⟩ := Al H
   refine qs F Aa (AG (r := (Rp.flt .f64)) Ho F Aa Aa (Ap 0 Aa) h14).q fun a F => ?_
   refine qs F Aa (Av (y := Value.float .f64 x18) (j := 0) (i := x16) F Aa Aa (Ap 0 Aa) h14 Fl.flt.to KD Aa).q fun a F => ?_
   refine qs F Aa (Hu F Aa Aa).q fun a F => ?_
   refine Bg fun w W => ?_
   refine Ac ?_
   refine AC F Aa (fun hb => ?_) fun hb => ?_
   ·
    have H := AS hb H
    rw [hb] at F
    clear hb
    refine Ah (Ab ?_)
    refine ls F W Aa (Af F Aa).q fun a w F W => ?_
    refine Ae (Ac (AB (A8 ?_)))
    iterate 2 refine AY ?_
    refine A8 (AY ?_)
    have H := L5 _ H
    have H := L4 _ H
    have H := AZ H
    subst H
    refine AW (.inl Aa) F W Aa (Az F Aa) ?_
    exact ⟨rfl, W.done⟩
   have H := AU (by rw [hb]; decide) H
   rw [hb] at F
   clear hb
   refine Aw (AX (Ac (Ab ?_)))
   refine ls F W Aa (Ad F Aa).q fun a w F W => ?_
   refine ls F W Aa (BT F Aa Aa Aa).q fun a w F W => ?_
   refine ls F W Aa (Af F Aa).q fun a w F W => ?_
   refine Ae (Ac ?_)
   have W := W.frontZ (i := 1) Aa Aa
   have W := W.frontZ (i := 1) Aa Aa
   exact ⟨_, H, F.re ⟨rfl, Aa, Aa, Aa, trivial⟩, W⟩
  have H := AU (Bv hb) H
  rw [hb] at F
  clear hb
  refine Bn ?_
  iterate 2 refine BR ?_
  refine Bm (Ac ?_)
  have W := W.sub (M' := [(b1, [.int .i64 p0.1, v1, v2])]) (Z' := []) (List.Sublist.refl _) (List.nil_sublist _)
  have H := L5 _ H
  exact ⟨H, F.re ⟨rfl, trivial⟩, W⟩
 rintro a w ⟨hj, F, W⟩
 have H := K4 _ hj
 clear hj G4 K4 L4
 refine Ah (Ab ?_)
 obtain ⟨x19, h15, H⟩ := Al H
 refine ls F W Aa (A1 (v := Value.bool x19) F H8 Aa (fun w W => F0 any w _ h15)) fun a w F W => ?_
 refine ls F W Aa (Af F Aa).q fun a w F W => ?_
 refine Ae (Ac (AB ?_))
 have H := AZ H
 subst H
 refine AW (.inl Aa) F W Aa (Az F Aa) ?_
 exact ⟨rfl, W.done⟩
end Go.Proofs.Ytbogijdfacoccaa
