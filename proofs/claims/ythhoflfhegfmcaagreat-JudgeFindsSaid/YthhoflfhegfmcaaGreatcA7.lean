/- The functions of layer 25, JA. Conditions: none. -/
import Derived.Test.YthhoflfhegfmcaaGreatcA6
namespace Go.Proofs.YthhoflfhegfmcaaGreat
open Go Go.RowKit
set_option linter.unusedVariables false
set_option linter.unusedSimpArgs false
set_option maxRecDepth 20000
set_option maxHeartbeats 1600000
theorem ZM : Has Tryz.prog 12 := Cv Tryz.func12
abbrev Qw  : List Value := [.slice none 0 0, .slice none 0 0, Jint 0, Jint 0, Jint 0, Jint 0]
abbrev VY (a0 : Nat) (a1 : Nat) (a2 : Int × (List (Int × Int × Int × Int × Int × Int)) × (List (Int × Int))) (a3 : Value) (a4 : Value) : List (Nat × List Value) := [(a0, [.slice none 0 0, .slice none 0 0, Jint 0, Jint 0, Jint 0, Jint 0]), (a1, [Jint a2.1, a3, a4])]
abbrev XA (a0 : Nat) (a1 : Value) (a2 : Int) (a3 : Int) (a4 : Nat) (a5 : Nat) (a6 : Int × (List (Int × Int × Int × Int × Int × Int)) × (List (Int × Int))) (a7 : Value) (a8 : Value) : List (Nat × List Value) := [(a0, [a1, .slice none 0 0, Jint a2, Jint a3, Jint 0, Jint 0]), (a4, [.slice none 0 0, .slice none 0 0, Jint 0, Jint 0, Jint 0, Jint 0]), (a5, [Jint a6.1, a7, a8])]
noncomputable def FB (p0 : Int × (List (Int × Int × Int × Int × Int × Int)) × (List (Int × Int))) (p1 : List (List Int)) (p2 : List (List Int)) (p3 : Int) (p4 : Int) (p5 : Int) : Option (((List (Int × Int × Int × Int)) × (List (Int × Int × List Int)) × Int × Int × Int × Int) × Int) := (if (decide (p3 < 0) || (decide (1099511627776 < p3) || (decide (p4 < 0) || (decide (1048576 < p4) || (decide (p5 < 0) || decide (1048576 < p5)))))) = true then some ((([] : List (Int × Int × Int × Int)), ([] : List (Int × Int × List Int)), 0, 0, 0, 0), 2) else (FP p0 p1 p2).bind fun x1 => (if x1.2 ≠ 0 then some ((([] : List (Int × Int × Int × Int)), ([] : List (Int × Int × List Int)), 0, 0, 0, 0), x1.2) else (if (x1.1.length : Int) = 0 then some ((([] : List (Int × Int × Int × Int)), ([] : List (Int × Int × List Int)), 0, 0, 0, 0), 7) else (Hm p0).bind fun x2 => (HG p0 p4).bind fun x3 => (Ie x1.1 (An ((An ((An ((An (p3 + p5)) + p4)) + x2)) + 1)) x3).bind fun x4 => (ix x4 (An ((x4.length : Int) - 1))).bind fun x5 => (if 1099511627776 < (An (x5.2.1 + p4)) then some ((([] : List (Int × Int × Int × Int)), ([] : List (Int × Int × List Int)), 0, 0, 0, 0), 11) else some ((x1.1, x4, p4, x2, An ((An ((An ((An ((An ((An (p3 + p5)) + p4)) + x2)) + 1)) - p4)) - x2), An (x5.2.1 + p4)), 0)))))
theorem Qt (Y : Nat → Prop) (w0 : World) (v1 : Value) (v2 : Value) (v3 : Value) (v4 : Value) (p0 : Int × (List (Int × Int × Int × Int × Int × Int)) × (List (Int × Int))) (p1 : List (List Int)) (p2 : List (List Int)) (p3 : Int) (p4 : Int) (p5 : Int) (r : ((List (Int × Int × Int × Int)) × (List (Int × Int × List Int)) × Int × Int × Int × Int) × Int) (H : FB p0 p1 p2 p3 p4 p5 = some r) (h_v1 : Sl w0 (NX []) IP v1 p0.2.1) (h_v2 : Sl w0 (NX []) IE v2 p0.2.2) (h_v3 : Sl w0 (NX []) (Rp.slice ri) v3 p1) (h_v4 : Sl w0 (NX []) (Rp.slice ri) v4 p2) :
    ca_ 7 #[.agg #[Jint p0.1, v1, v2], v3, v4, Jint p3, Jint p4, Jint p5] w0 fun e w' => ∃ x : Value × Value, e = .returned (.tuple #[.agg #[x.1, x.2, Jint r.1.2.2.1, Jint r.1.2.2.2.1, Jint r.1.2.2.2.2.1, Jint r.1.2.2.2.2.2], Jint r.2]) ∧ sy Y w0 [] [row (x.1) 43 AY r.1.1, row (x.2) 46 GO r.1.2.1] w' := by
 refine enter Tryz.func7 Aa Tryz.ntmps7 Aa fun a W => ?_
 have F := Stw.start Y w0
 obtain ⟨v5, h1, h_v3⟩ := h_v3.ex CK
 obtain ⟨v6, h2, h_v4⟩ := h_v4.ex CK
 unfold FB at H
 refine vc tk 2 W F fun a w W F => ?_
 refine D3 (cs := [Jint p0.1, v1, v2]) W F Aa Aa Aa fun b1 a w W F => ?_
 refine B6 (cs := (Qw)) W F Aa Yo Aa fun b2 a w W F => ?_
 refine BQ tk 4 W F fun a w W F => ?_
 refine As (fun a w => Fr 101 [] [(1, v3), (2, v4), (3, Jint p3), (4, Jint p4), (5, Jint p5), (6, pp b1), (12, pp b2), (13, Jint 0), (39, .bool (decide (p3 < 0) || (decide (1099511627776 < p3) || (decide (p4 < 0) || (decide (1048576 < p4) || (decide (p5 < 0) || decide (1048576 < p5)))))))] a ∧ sy Y w0 (VY b2 b1 p0 v1 v2) [] w) ?_ ?_
 ·
  refine vc tk 4 W F fun a w W F => ?_
  rcases bxq (decide (p3 < 0)) with hb0 | hb0
  ·
   rw [hb0] at W
   refine vl tk 20 W F fun a w W F => ?_
   refine Ab ?_
   exact ⟨W.re ⟨rfl, Aa, Aa, Aa, Aa, Aa, Aa, Aa, (HA (by try rw [hb0]; all_goals simp only [Hw])), trivial⟩, F⟩
  rw [hb0] at W
  refine vl tk 4 W F fun a w W F => ?_
  rcases bxq (decide (1099511627776 < p3)) with hb1 | hb1
  ·
   rw [hb1] at W
   refine vl tk 16 W F fun a w W F => ?_
   refine Ab ?_
   exact ⟨W.re ⟨rfl, Aa, Aa, Aa, Aa, Aa, Aa, Aa, (HA (by try rw [hb1]; try rw [hb0]; all_goals simp only [Hw])), trivial⟩, F⟩
  rw [hb1] at W
  refine vl tk 4 W F fun a w W F => ?_
  rcases bxq (decide (p4 < 0)) with hb2 | hb2
  ·
   rw [hb2] at W
   refine vl tk 12 W F fun a w W F => ?_
   refine Ab ?_
   exact ⟨W.re ⟨rfl, Aa, Aa, Aa, Aa, Aa, Aa, Aa, (HA (by try rw [hb1]; try rw [hb0]; try rw [hb2]; all_goals simp only [Hw])), trivial⟩, F⟩
  rw [hb2] at W
  refine vl tk 4 W F fun a w W F => ?_
  rcases bxq (decide (1048576 < p4)) with hb3 | hb3
  ·
   rw [hb3] at W
   refine vl tk 8 W F fun a w W F => ?_
   refine Ab ?_
   exact ⟨W.re ⟨rfl, Aa, Aa, Aa, Aa, Aa, Aa, Aa, (HA (by try rw [hb1]; try rw [hb3]; try rw [hb0]; try rw [hb2]; all_goals simp only [Hw])), trivial⟩, F⟩
  rw [hb3] at W
  refine vl tk 4 W F fun a w W F => ?_
  rcases bxq (decide (p5 < 0)) with hb4 | hb4
  ·
   rw [hb4] at W
   refine vl tk 4 W F fun a w W F => ?_
   refine Ab ?_
   exact ⟨W.re ⟨rfl, Aa, Aa, Aa, Aa, Aa, Aa, Aa, (HA (by try rw [hb1]; try rw [hb3]; try rw [hb0]; try rw [hb2]; try rw [hb4]; all_goals simp only [Hw])), trivial⟩, F⟩
  rw [hb4] at W
  refine vl tk 4 W F fun a w W F => ?_
  refine Ab ?_
  exact ⟨W.re ⟨rfl, Aa, Aa, Aa, Aa, Aa, Aa, Aa, (HA (by try rw [hb1]; try rw [hb3]; try rw [hb0]; try rw [hb2]; try rw [hb4]; all_goals simp only [Hw])), trivial⟩, F⟩
 rintro a w ⟨W, F⟩
 refine CS W Aa H (fun W H => ?_) fun W H => ?_
 ·
  refine vc tk 2 W F fun a w W F => ?_
  refine ls W F Aa (B9 (v := Value.agg #[.slice none 0 0, .slice none 0 0, Jint 0, Jint 0, Jint 0, Jint 0]) W0 W Aa Aa Aa).q fun a w W F => ?_
  refine Ej 0 W F Aa Aa Aa Q2 Aa Aa Aa fun w F => ?_
  refine BQ tk 3 W F fun a w W F => ?_
  refine Ap (AF ?_)
  have H := Ay H
  subst H
  refine FD (.inl Aa) W F Aa (IC 0 W Aa Aa Q2 Aa) (Am W Aa) ?_
  have F := F.nilRow 43 AY
  have F := F.nilRow 46 GO
  have F := F.frontZ (i := 1) Aa Aa
  have F := F.sub (M' := []) (Z' := [row (Value.slice none 0 0) 43 AY ([]), row (Value.slice none 0 0) 46 GO ([])]) nl sr
  exact ⟨((Value.slice none 0 0), (Value.slice none 0 0)), Aa, F⟩
 refine Lj tk 7 [1] W F (ai fun a w W F => ?_)
 obtain ⟨x1, h3, H⟩ := Ac H
 refine A9 (Ml := []) (Zl := []) (β := Value) (rv := fun x => .tuple #[x, Jint x1.2]) (MM := fun x => []) (ZZ := fun x => [row x 43 AY x1.1]) W F aI Aa Aa (fun hL => OY _ w (v1) (v2) (v3) (v4) p0 p1 p2 _ h3 ((Ae h_v1) w F).nx ((Ae h_v2) w F).nx ((AL CK h1 (Ae h_v3)) w F).nx ((AL CK h2 (Ae h_v4)) w F).nx) fun x a w W F => ?_
 obtain ⟨v7, rfl⟩ : ∃ y, y = x := ⟨x, rfl⟩
 have F : sy Y w0 (VY b2 b1 p0 v1 v2) [row v7 43 AY x1.1] w := F
 refine ls W F Aa (Ai W Aa).q fun a w W F => ?_
 refine ls W F Aa (Bi (v := v7) W Aa Aa).q fun a w W F => ?_
 refine ls W F Aa (Bi (v := Jint x1.2) W Aa Aa).q fun a w W F => ?_
 refine BQ tk 11 W F fun a w W F => ?_
 refine AW W Aa H (fun W H => ?_) fun W H => ?_
 ·
  refine vc tk 2 W F fun a w W F => ?_
  refine ls W F Aa (B9 (v := Value.agg #[.slice none 0 0, .slice none 0 0, Jint 0, Jint 0, Jint 0, Jint 0]) W0 W Aa Aa Aa).q fun a w W F => ?_
  refine ls W F Aa (Ai W Aa).q fun a w W F => ?_
  refine Ej 0 W F Aa Aa Aa Q2 Aa Aa Aa fun w F => ?_
  refine BQ tk 3 W F fun a w W F => ?_
  refine Ap (AF ?_)
  have H := Ay H
  subst H
  refine FD (.inl Aa) W F Aa (IC 0 W Aa Aa Q2 Aa) (Am W Aa) ?_
  have F := F.nilRow 43 AY
  have F := F.nilRow 46 GO
  have F := F.frontZ (i := 1) Aa Aa
  have F := F.sub (M' := []) (Z' := [row (Value.slice none 0 0) 43 AY ([]), row (Value.slice none 0 0) 46 GO ([])]) nl (sc (sc nl))
  exact ⟨((Value.slice none 0 0), (Value.slice none 0 0)), Aa, F⟩
 refine FL tk 6 W F fun a w W F => ?_
 refine ls W F Aa (BP (r := AY) (l := x1.1) PR Aa W Aa (Af 0 Aa)).q fun a w W F => ?_
 refine BQ tk 3 W F fun a w W F => ?_
 refine AW W Aa H (fun W H => ?_) fun W H => ?_
 ·
  refine vc tk 2 W F fun a w W F => ?_
  refine ls W F Aa (B9 (v := Value.agg #[.slice none 0 0, .slice none 0 0, Jint 0, Jint 0, Jint 0, Jint 0]) W0 W Aa Aa Aa).q fun a w W F => ?_
  refine Ej 0 W F Aa Aa Aa Q2 Aa Aa Aa fun w F => ?_
  refine BQ tk 3 W F fun a w W F => ?_
  refine Ap (AF ?_)
  have H := Ay H
  subst H
  refine FD (.inl Aa) W F Aa (IC 0 W Aa Aa Q2 Aa) (Am W Aa) ?_
  have F := F.nilRow 43 AY
  have F := F.nilRow 46 GO
  have F := F.frontZ (i := 1) Aa Aa
  have F := F.sub (M' := []) (Z' := [row (Value.slice none 0 0) 43 AY ([]), row (Value.slice none 0 0) 46 GO ([])]) nl (sc (sc nl))
  exact ⟨((Value.slice none 0 0), (Value.slice none 0 0)), Aa, F⟩
 refine Lj tk 7 [1] W F (ai fun a w W F => ?_)
 obtain ⟨x2, h4, H⟩ := Ac H
 refine ls W F Aa (Bc (v := Jint x2) W ZF Aa (fun w F => Nm any w (v1) (v2) p0 _ h4 (EJ (Ae h_v1) F) (EJ (Ae h_v2) F))) fun a w W F => ?_
 refine ls W F Aa (B9 (v := Value.agg #[v7, .slice none 0 0, Jint p4, Jint x2, Jint 0, Jint 0]) W0 W Aa (Bb Aa (BK (F.one (k := 0) Aa)) Aa (Bb Aa Aa Aa (Bb Aa Aa Aa Ev))) Aa).q fun a w W F => ?_
 refine B6 (cs := (Qw)) W F Aa Yo Aa fun b3 a w W F => ?_
 refine Ej 0 W F Aa Aa Aa Q2 Aa Aa (AB (F.one (k := 0) Aa) (AB Aa (AB Aa (AB Aa (AB Aa (AB Aa Ez)))))) fun w F => ?_
 refine Ii tk 22 [0, 2] W F (ai (ai fun a w W F => ?_))
 obtain ⟨x3, h5, H⟩ := Ac H
 refine ls W F Aa (Bc (v := Jint x3) W Zs Aa (fun w F => Ov any w (v1) (v2) p0 p4 _ h5 (EJ (Ae h_v1) F) (EJ (Ae h_v2) F))) fun a w W F => ?_
 obtain ⟨x4, h6, H⟩ := Ac H
 refine A9 (Ml := []) (Zl := []) (β := Value) (rv := fun x => x) (MM := fun x => []) (ZZ := fun x => [row x 46 GO x4]) W F ZM Aa Aa (fun hL => OK _ w (v7) x1.1 (An ((An ((An ((An (p3 + p5)) + p4)) + x2)) + 1)) x3 _ h6 ((Af 0 Aa) w F).nx) fun x a w W F => ?_
 obtain ⟨v8, rfl⟩ : ∃ y, y = x := ⟨x, rfl⟩
 have F : sy Y w0 (XA b3 v7 p4 x2 b2 b1 p0 v1 v2) [row v8 46 GO x4, row v7 43 AY x1.1] w := F
 refine ls W F Aa (Ax PE Aa Aa Aa SF W Aa 1 Aa).q fun a w W F => ?_
 refine NV (M' := [(b3, [v7, v8, Jint p4, Jint x2, Jint 0, Jint 0]), (b2, (Qw)), (b1, [Jint p0.1, v1, v2])]) 0 W F Aa Aa Aa SF (F.one (k := 0) Aa) Aa Aa fun w F => ?_
 refine Ii tk 11 [0] W F (ai fun a w W F => ?_)
 refine Ej 0 W F Aa Aa Aa T3 Aa Aa Aa fun w F => ?_
 refine BQ tk 3 W F fun a w W F => ?_
 obtain ⟨v9, h7, F⟩ := F.exR Gh
 refine Jk tk 5 [0, 0] W F (ai (ai fun a w W F => ?_))
 refine ls W F Aa (BP (r := GO) (l := x4) S1 Aa W Aa (AL Gh h7 (Af 0 Aa))).q fun a w W F => ?_
 refine ls W F Aa (Ek W Aa Aa Aa).q fun a w W F => ?_
 obtain ⟨x5, h8, H⟩ := Ac H
 obtain ⟨v10, h9, h10⟩ := EP h7 h8
 have h11 : LF v10 = [Jint x5.1, Jint x5.2.1, (v10.2.2.1)] := congrArg (fun q : Int × Int × List Int => ([Jint q.1, Jint q.2.1, (v10.2.2.1)] : List Value)) h10
 refine ls W F Aa (Al (r := OZ) UG W Aa Aa (Af 0 Aa) h9).q fun a w W F => ?_
 refine ls W F Aa (Ax SU Aa Aa Aa T3 W Aa (Jm v8 + (An ((x4.length : Int) - 1)).toNat * 3 + 1) Aa).q fun a w W F => ?_
 refine ls W F Aa (Ag (y := Jint x5.2.1) (j := 1) (i := An ((x4.length : Int) - 1)) (enc := LF) W Aa Aa (Af 0 Aa) h9 Q9 T3 (by rw [h11]; rfl)).q fun a w W F => ?_
 have F := F.note (F.rowAt (k := 0) Aa h9 (DA.snd (DA.snd DA.here)) (congrArg (fun q : Int × Int × List Int => q.2.2) h10))
 refine vl tk 3 W F fun a w W F => ?_
 refine Ej 0 W F Aa Aa Aa T3 Aa Aa Aa fun w F => ?_
 refine Ii tk 10 [0] W F (ai fun a w W F => ?_)
 refine AW W Aa H (fun W H => ?_) fun W H => ?_
 ·
  refine vc tk 2 W F fun a w W F => ?_
  refine ls W F Aa (B9 (v := Value.agg #[.slice none 0 0, .slice none 0 0, Jint 0, Jint 0, Jint 0, Jint 0]) W0 W Aa Aa Aa).q fun a w W F => ?_
  refine Ej 1 W F Aa Aa Aa Q2 Aa Aa Aa fun w F => ?_
  refine BQ tk 3 W F fun a w W F => ?_
  refine Ap (AF ?_)
  have H := Ay H
  subst H
  refine FD (.inl Aa) W F Aa (IC 1 W Aa Aa Q2 Aa) (Am W Aa) ?_
  have F := F.nilRow 43 AY
  have F := F.nilRow 46 GO
  have F := F.frontZ (i := 1) Aa Aa
  have F := F.sub (M' := []) (Z' := [row (Value.slice none 0 0) 43 AY ([]), row (Value.slice none 0 0) 46 GO ([])]) nl (sc (sc nl))
  exact ⟨((Value.slice none 0 0), (Value.slice none 0 0)), Aa, F⟩
 refine Lj tk 5 [0] W F (ai fun a w W F => ?_)
 refine Ej 1 W F Aa Aa Aa Q2 Aa Aa (AB (F.one (k := 2) Aa) (AB (F.one (k := 1) Aa) (AB Aa (AB Aa (AB Aa (AB Aa Ez)))))) fun w F => ?_
 refine BQ tk 3 W F fun a w W F => ?_
 refine Ap ?_
 have H := Ay H
 subst H
 refine FD (.inl Aa) W F Aa (IC 1 W Aa Aa Q2 Aa) (Am W Aa) ?_
 have F := F.frontZ (i := 1) Aa Aa
 have F := F.hideR Gh h7
 have F := F.frontZ (i := 2) Aa Aa
 have F := F.sub (M' := []) (Z' := [row v7 43 AY x1.1, row v8 46 GO x4]) nl (sc (sc nl))
 exact ⟨((v7), (v8)), Aa, F⟩
theorem H7 : Has Tryz.prog 7 := Cv Tryz.func7
abbrev TW (a0 : Nat) (a1 : Value) (a2 : Value) (a3 : ((List (Int × Int × Int × Int)) × (List (Int × Int × List Int)) × Int × Int × Int × Int) × Int) (a4 : Nat) (a5 : Int × (List (Int × Int × Int × Int × Int × Int)) × (List (Int × Int))) (a6 : Value) (a7 : Value) : List (Nat × List Value) := [(a0, [a1, a2, Jint a3.1.2.2.1, Jint a3.1.2.2.2.1, Jint a3.1.2.2.2.2.1, Jint a3.1.2.2.2.2.2]), (a4, [Jint a5.1, a6, a7])]
noncomputable def Gw (p0 : Int × (List (Int × Int × Int × Int × Int × Int)) × (List (Int × Int))) (p1 : List (List Int)) (p2 : List (List Int)) (p3 : Int) (p4 : Int) (p5 : Int) (p6 : Int) : Option Bool := ((IV p0 p1).bind fun x2 => (if (!x2) = true then some true else (IV p0 p2).bind fun x3 => some (!x3))).bind fun x1 => (if x1 = true then (GH).bind fun x4 => some x4 else (FB p0 p1 p2 p3 p4 p5).bind fun x5 => (if (decide (x5.2 ≠ 0) || (decide (p6 < 0) || decide ((x5.1.1.length : Int) ≤ p6))) = true then (GH).bind fun x6 => some x6 else (Jz x5.1.1 0 p6).bind fun x7 => (HN ([] : List (Int × Int × Int × Int)) x7).bind fun x8 => (Jz x5.1.1 (An (p6 + 1)) (x5.1.1.length : Int)).bind fun x9 => (HN x8 x9).bind fun x10 => (EH p0 p1 p2 (x10, x5.1.2.1, x5.1.2.2.1, x5.1.2.2.2.1, x5.1.2.2.2.2.1, x5.1.2.2.2.2.2)).bind fun x11 => (if (x11.length : Int) = 0 then some true else (ix x11 0).bind fun x13 => (ix x5.1.1 p6).bind fun x14 => (ix x5.1.1 p6).bind fun x15 => some (!(decide (x13.1 = 2 ∧ x13.2.1 = x14.1 ∧ x13.2.2 = x15.2.1)))).bind fun x12 => (if x12 = true then some false else (if (decide (p6 = 0) || decide ((x5.1.2.1.length : Int) ≤ p6)) = true then (GH).bind fun x16 => some x16 else (HN ([] : List (Int × Int × List Int)) x5.1.2.1).bind fun x17 => (ix x17 (An (p6 - 1))).bind fun x18 => (ix x17 p6).bind fun x19 => (EH p0 p1 p2 (x5.1.1, (Ah x17 p6 (x19.1, x18.2.1, x19.2.2)), x5.1.2.2.1, x5.1.2.2.2.1, x5.1.2.2.2.2.1, x5.1.2.2.2.2.2)).bind fun x20 => (if (x20.length : Int) = 1 then (ix x20 0).bind fun x22 => (if x22.1 = 4 ∧ x22.2.1 = p6 ∧ x22.2.2 = 0 then (GH).bind fun x23 => some x23 else some false) else some false).bind fun x21 => some x21))))
theorem MC (Y : Nat → Prop) (w0 : World) (v1 : Value) (v2 : Value) (v3 : Value) (v4 : Value) (p0 : Int × (List (Int × Int × Int × Int × Int × Int)) × (List (Int × Int))) (p1 : List (List Int)) (p2 : List (List Int)) (p3 : Int) (p4 : Int) (p5 : Int) (p6 : Int) (r : Bool) (H : Gw p0 p1 p2 p3 p4 p5 p6 = some r) (h_v1 : Sl w0 (NX []) IP v1 p0.2.1) (h_v2 : Sl w0 (NX []) IE v2 p0.2.2) (s_v3 : Sl w0 Y (Rp.slice ri) v3 p1) (h_v4 : Sl w0 (NX []) (Rp.slice ri) v4 p2) :
    ca_ 4 #[.agg #[Jint p0.1, v1, v2], v3, v4, Jint p3, Jint p4, Jint p5, Jint p6] w0 fun e w' => e = .returned (.bool r) ∧ Below w0.heap.size w0 w' := by
 refine enter Tryz.func4 Aa Tryz.ntmps4 Aa fun a W => ?_
 have F := Stw.start Y w0
 obtain ⟨v5, h1, s_v3⟩ := s_v3.ex CK
 obtain ⟨v6, h2, h_v4⟩ := h_v4.ex CK
 have h_v3 := F.nx s_v3
 unfold Gw at H
 refine vc tk 2 W F fun a w W F => ?_
 refine D3 (cs := [Jint p0.1, v1, v2]) W F Aa Aa Aa fun b1 a w W F => ?_
 refine BQ tk 4 W F fun a w W F => ?_
 obtain ⟨o1, G1, K1⟩ := Ac H
 refine As (fun a w => ∃ x1 : Bool, some (x1) = some o1 ∧ Fr 147 [] [(1, v3), (2, v4), (3, Jint p3), (4, Jint p4), (5, Jint p5), (6, Jint p6), (7, pp b1), (14, .bool false), (29, .bool x1)] a ∧ sy Y w0 [(b1, [Jint p0.1, v1, v2])] [] w) ?_ ?_
 ·
  have H := G1
  clear G1 K1
  refine Jk tk 3 [0] W F (ai fun a w W F => ?_)
  obtain ⟨x2, h3, H⟩ := Ac H
  refine ls W F Aa (Bc (v := Value.bool x2) W H5 Aa (fun w F => M9 any w (v1) (v2) (v3) p0 p1 _ h3 (EJ (Ae h_v1) F) (EJ (Ae h_v2) F) (EJ (AL CK h1 (Ae h_v3)) F))) fun a w W F => ?_
  refine vl tk 2 W F fun a w W F => ?_
  rcases bxq (!x2) with hb | hb
  ·
   have H := DU hb H
   rw [hb] at W
   clear hb
   refine vl tk 6 W F fun a w W F => ?_
   refine Ab ?_
   exact ⟨_, H, W.ra Aa, F⟩
  have H := DS (by rw [hb]; decide) H
  rw [hb] at W
  clear hb
  refine Kp tk 2 [0] W F (ai fun a w W F => ?_)
  refine MI (Ad W Aa Aa Aa Aa) ?_
  obtain ⟨x3, h4, H⟩ := Ac H
  refine ls W F Aa (Bc (v := Value.bool x3) W H5 Aa (fun w F => M9 any w (v1) (v2) (v4) p0 p2 _ h4 (EJ (Ae h_v1) F) (EJ (Ae h_v2) F) (EJ (AL CK h2 (Ae h_v4)) F))) fun a w W F => ?_
  refine vl tk 3 W F fun a w W F => ?_
  refine Ab ?_
  exact ⟨_, H, W.ra Aa, F⟩
 rintro a w ⟨x1, hj, W, F⟩
 have hj := Ay hj
 subst hj
 have H := K1
 clear G1 K1
 refine CS W Aa H (fun W H => ?_) fun W H => ?_
 ·
  refine vc tk 2 W F fun a w W F => ?_
  obtain ⟨x4, h5, H⟩ := Ac H
  refine ls W F Aa (Bc (v := Value.bool x4) W H6 Aa (fun w F => Js any w _ h5)) fun a w W F => ?_
  refine BQ tk 3 W F fun a w W F => ?_
  refine Ap (AF ?_)
  have H := Ay H
  subst H
  refine A1 (.inl Aa) W F Aa (Am W Aa) ?_
  exact ⟨rfl, F.done⟩
 refine Lj tk 10 [0] W F (ai fun a w W F => ?_)
 obtain ⟨x5, h6, H⟩ := Ac H
 refine A9 (Ml := []) (Zl := []) (β := Value × Value) (rv := fun x => .tuple #[.agg #[x.1, x.2, Jint x5.1.2.2.1, Jint x5.1.2.2.2.1, Jint x5.1.2.2.2.2.1, Jint x5.1.2.2.2.2.2], Jint x5.2]) (MM := fun x => []) (ZZ := fun x => [row x.1 43 AY x5.1.1, row x.2 46 GO x5.1.2.1]) W F H7 Aa Aa (fun hL => Qt _ w (v1) (v2) (v3) (v4) p0 p1 p2 p3 p4 p5 _ h6 ((Ae h_v1) w F).nx ((Ae h_v2) w F).nx ((AL CK h1 (Ae h_v3)) w F).nx ((AL CK h2 (Ae h_v4)) w F).nx) fun x a w W F => ?_
 obtain ⟨v7, v8⟩ := x
 have F : sy Y w0 [(b1, [Jint p0.1, v1, v2])] [row v7 43 AY x5.1.1, row v8 46 GO x5.1.2.1] w := F
 refine ls W F Aa (Ai W Aa).q fun a w W F => ?_
 refine ls W F Aa (Bi (v := Value.agg #[v7, v8, Jint x5.1.2.2.1, Jint x5.1.2.2.2.1, Jint x5.1.2.2.2.2.1, Jint x5.1.2.2.2.2.2]) W Aa Aa).q fun a w W F => ?_
 refine ls W F Aa (Bi (v := Jint x5.2) W Aa Aa).q fun a w W F => ?_
 refine B6 (cs := (Qw)) W F Aa Yo Aa fun b2 a w W F => ?_
 refine Ej 0 W F Aa Aa Aa Q2 Aa Aa (AB (F.one (k := 0) Aa) (AB (F.one (k := 1) Aa) (AB Aa (AB Aa (AB Aa (AB Aa Ez)))))) fun w F => ?_
 refine BQ tk 4 W F fun a w W F => ?_
 refine As (fun a w => Fr 147 [] [(1, v3), (2, v4), (6, Jint p6), (7, pp b1), (14, .bool false), (15, pp b2), (53, .bool (decide (x5.2 ≠ 0) || (decide (p6 < 0) || decide ((x5.1.1.length : Int) ≤ p6))))] a ∧ sy Y w0 (TW b2 v7 v8 x5 b1 p0 v1 v2) [row v7 43 AY x5.1.1, row v8 46 GO x5.1.2.1] w) ?_ ?_
 ·
  refine vc tk 4 W F fun a w W F => ?_
  rcases bxq (decide (x5.2 ≠ 0)) with hb0 | hb0
  ·
   rw [hb0] at W
   refine vl tk 11 W F fun a w W F => ?_
   refine Ab ?_
   exact ⟨W.re ⟨rfl, Aa, Aa, Aa, Aa, Aa, (HA (by try rw [hb0]; all_goals simp only [Hw])), trivial⟩, F⟩
  rw [hb0] at W
  refine vl tk 4 W F fun a w W F => ?_
  rcases bxq (decide (p6 < 0)) with hb1 | hb1
  ·
   rw [hb1] at W
   refine vl tk 7 W F fun a w W F => ?_
   refine Ab ?_
   exact ⟨W.re ⟨rfl, Aa, Aa, Aa, Aa, Aa, (HA (by try rw [hb0]; try rw [hb1]; all_goals simp only [Hw])), trivial⟩, F⟩
  rw [hb1] at W
  refine Kp tk 3 [0] W F (ai fun a w W F => ?_)
  refine Gb W F (Ad W Aa Aa Aa Aa) Aa (Ao Aa) (BP (r := AY) (l := x5.1.1) PR Aa W Aa (Af 0 Aa)).q fun a w W F => ?_
  refine vl tk 3 W F fun a w W F => ?_
  refine Ab ?_
  exact ⟨W.re ⟨rfl, Aa, Aa, Aa, Aa, Aa, (HA (by try rw [hb0]; try rw [hb1]; all_goals simp only [Hw])), trivial⟩, F⟩
 rintro a w ⟨W, F⟩
 refine CS W Aa H (fun W H => ?_) fun W H => ?_
 ·
  refine vc tk 2 W F fun a w W F => ?_
  obtain ⟨x6, h7, H⟩ := Ac H
  refine ls W F Aa (Bc (v := Value.bool x6) W H6 Aa (fun w F => Js any w _ h7)) fun a w W F => ?_
  refine BQ tk 3 W F fun a w W F => ?_
  refine Ap (AF ?_)
  have H := Ay H
  subst H
  refine A1 (.inl Aa) W F Aa (Am W Aa) ?_
  exact ⟨rfl, F.done⟩
 refine Lj tk 13 [0] W F (ai fun a w W F => ?_)
 obtain ⟨x7, h8, H⟩ := Ac H
 refine ls W F Aa (Kn (r := AY) Eu W Aa Aa Aa (Af 0 Aa) h8).q fun a w W F => ?_
 have F := F.nilRow 43 AY
 obtain ⟨x8, h9, H⟩ := Ac H
 refine Di (r := AY) (i := 0) W F Aa Eu Aa Aa Aa Aa (Q4.sub (D1 F 1 Aa) h8) h9 Aa fun v9 a w W F => ?_
 have F : sy Y w0 (TW b2 v7 v8 x5 b1 p0 v1 v2) [row v9 43 AY x8, row v7 43 AY x5.1.1, row v8 46 GO x5.1.2.1] w := F
 refine Ii tk 10 [0] W F (ai fun a w W F => ?_)
 obtain ⟨x9, h10, H⟩ := Ac H
 refine ls W F Aa (Kn (r := AY) Eu W Aa Aa Aa (Af 1 Aa) h10).q fun a w W F => ?_
 obtain ⟨x10, h11, H⟩ := Ac H
 refine Di (r := AY) (i := 0) W F Aa Eu Aa Aa Aa Aa (Q4.sub (D1 F 1 Aa) h10) h11 Aa fun v10 a w W F => ?_
 have F : sy Y w0 (TW b2 v7 v8 x5 b1 p0 v1 v2) [row v10 43 AY x10, row v7 43 AY x5.1.1, row v8 46 GO x5.1.2.1] w := F
 refine Ii tk 6 [0] W F (ai fun a w W F => ?_)
 refine B6 (cs := (Qw)) W F Aa Yo Aa fun b3 a w W F => ?_
 refine Ej 0 W F Aa Aa Aa Q2 Aa Aa (AB (F.one (k := 1) Aa) (AB (F.one (k := 2) Aa) (AB Aa (AB Aa (AB Aa (AB Aa Ez)))))) fun w F => ?_
 refine BQ tk 6 W F fun a w W F => ?_
 refine NV (M' := [(b3, [v10, v8, Jint x5.1.2.2.1, Jint x5.1.2.2.2.1, Jint x5.1.2.2.2.2.1, Jint x5.1.2.2.2.2.2]), (b2, [v7, v8, Jint x5.1.2.2.1, Jint x5.1.2.2.2.1, Jint x5.1.2.2.2.2.1, Jint x5.1.2.2.2.2.2]), (b1, [Jint p0.1, v1, v2])]) 0 W F Aa Aa Aa Xw (F.one (k := 0) Aa) Aa Aa fun w F => ?_
 refine Ii tk 8 [2, 0] W F (ai (ai fun a w W F => ?_))
 obtain ⟨x11, h12, H⟩ := Ac H
 refine A9 (Ml := []) (Zl := []) (β := Value) (rv := fun x => x) (MM := fun x => []) (ZZ := fun x => [row x 41 CI x11]) W F H8 Aa Aa (fun hL => Ia _ w (v1) (v2) (v3) (v4) (v10) (v8) p0 p1 p2 (x10, x5.1.2.1, x5.1.2.2.1, x5.1.2.2.2.1, x5.1.2.2.2.2.1, x5.1.2.2.2.2.2) _ h12 ((Ae h_v1) w F).nx ((Ae h_v2) w F).nx (Sl.hide CK h1 (F.old s_v3)) ((AL CK h2 (Ae h_v4)) w F).nx ((Af 0 Aa) w F).nx ((Af 2 Aa) w F).nx) fun x a w W F => ?_
 obtain ⟨v11, rfl⟩ : ∃ y, y = x := ⟨x, rfl⟩
 have F : sy Y w0 [(b3, [v10, v8, Jint x5.1.2.2.1, Jint x5.1.2.2.2.1, Jint x5.1.2.2.2.2.1, Jint x5.1.2.2.2.2.2]), (b2, [v7, v8, Jint x5.1.2.2.1, Jint x5.1.2.2.2.1, Jint x5.1.2.2.2.2.1, Jint x5.1.2.2.2.2.2]), (b1, [Jint p0.1, v1, v2])] [row v11 41 CI x11, row v10 43 AY x10, row v7 43 AY x5.1.1, row v8 46 GO x5.1.2.1] w := F
 refine BQ tk 4 W F fun a w W F => ?_
 obtain ⟨o2, G2, K2⟩ := Ac H
 refine As (fun a w => ∃ x12 : Bool, some (x12) = some o2 ∧ Fr 147 [] [(1, v3), (2, v4), (6, Jint p6), (7, pp b1), (14, .bool false), (15, pp b2), (18, pp b3), (97, .bool x12)] a ∧ sy Y w0 [(b3, [v10, v8, Jint x5.1.2.2.1, Jint x5.1.2.2.2.1, Jint x5.1.2.2.2.2.1, Jint x5.1.2.2.2.2.2]), (b2, [v7, v8, Jint x5.1.2.2.1, Jint x5.1.2.2.2.1, Jint x5.1.2.2.2.2.1, Jint x5.1.2.2.2.2.2]), (b1, [Jint p0.1, v1, v2])] [row v10 43 AY x10, row v8 46 GO x5.1.2.1, row v7 43 AY x5.1.1] w) ?_ ?_
 ·
  have H := G2
  clear G2 K2
  refine Bz F MO (by kernel_rfl) ?_
  refine qs W Aa (Ai W Aa).q fun a W => ?_
  refine qs W Aa (BP (r := CI) (l := x11) ON Aa W Aa (Af 0 Aa)).q fun a W => ?_
  refine qs W Aa (Sf W Aa Aa).q fun a W => ?_
  refine qs W Aa (Ai W Aa).q fun a W => ?_
  rcases bxq (decide ((x11.length : Int) = 0)) with hb | hb
  ·
   have H := DU (Fa hb) H
   rw [hb] at W
   clear hb
   iterate 17 refine Dn W (CX W Aa Aa Aa Aa Aa) Aa Aa fun a W => ?_
   refine qs W Aa (C4 W Aa Aa Aa).q fun a W => ?_
   refine AA fun w F => ?_
   refine Ab ?_
   have F := F.frontZ (i := 2) Aa Aa
   have F := F.frontZ (i := 3) Aa Aa
   have F := F.frontZ (i := 3) Aa Aa
   have F := F.frontM (i := 2) Aa Aa
   have F := F.frontM (i := 2) Aa Aa
   have F := F.frontM (i := 2) Aa Aa
   have F := F.sub (M' := [(b3, [v10, v8, Jint x5.1.2.2.1, Jint x5.1.2.2.2.1, Jint x5.1.2.2.2.2.1, Jint x5.1.2.2.2.2.2]), (b2, [v7, v8, Jint x5.1.2.2.1, Jint x5.1.2.2.2.1, Jint x5.1.2.2.2.2.1, Jint x5.1.2.2.2.2.2]), (b1, [Jint p0.1, v1, v2])]) (Z' := [row v10 43 AY x10, row v8 46 GO x5.1.2.1, row v7 43 AY x5.1.1]) sr (sc (sc (sc nl)))
   exact ⟨_, H, W.ra Aa, F⟩
  have H := DS (E4 hb) H
  rw [hb] at W
  clear hb
  refine AZ W (Ad W Aa Aa Aa Aa) Aa (Ao Aa) (Ai W Aa).q fun a W => ?_
  obtain ⟨x13, h13, H⟩ := Ac H
  refine AZ W (Ad W Aa Aa Aa Aa) Aa (Ao Aa) (Al (r := CI) PW W Aa Aa (Af 0 Aa) h13).q fun a W => ?_
  refine AZ W (Ad W Aa Aa Aa Aa) Aa (Ao Aa) (Ag (y := Value.agg #[Jint x13.1, Jint x13.2.1, Jint x13.2.2]) (j := 0) (i := 0) W Aa Aa (Af 0 Aa) h13 UH.to YW Aa).q fun a W => ?_
  refine AZ W (Ad W Aa Aa Aa Aa) Aa (Ao Aa) (Ax PE Aa Aa Aa Xw W Aa 0 Aa).q fun a W => ?_
  refine AZ W (Ad W Aa Aa Aa Aa) Aa (Ao Aa) (Bx (v := v7) 1 W Aa Aa Xw Aa).q fun a W => ?_
  refine AZ W (Ad W Aa Aa Aa Aa) Aa (Ao Aa) (Ai W Aa).q fun a W => ?_
  obtain ⟨x14, h14, H⟩ := Ac H
  refine AZ W (Ad W Aa Aa Aa Aa) Aa (Ao Aa) (Al (r := AY) Eu W Aa Aa (Af 2 Aa) h14).q fun a W => ?_
  refine AZ W (Ad W Aa Aa Aa Aa) Aa (Ao Aa) (Ax I8 Aa Aa Aa T3 W Aa (Jm v7 + (p6).toNat * 4) Aa).q fun a W => ?_
  refine AZ W (Ad W Aa Aa Aa Aa) Aa (Ao Aa) (Ag (y := Jint x14.1) (j := 0) (i := p6) W Aa Aa (Af 2 Aa) h14 EK.to T3 Aa).q fun a W => ?_
  refine AZ W (Ad W Aa Aa Aa Aa) Aa (Ao Aa) (Ax PE Aa Aa Aa Xw W Aa 0 Aa).q fun a W => ?_
  refine AZ W (Ad W Aa Aa Aa Aa) Aa (Ao Aa) (Bx (v := v7) 1 W Aa Aa Xw Aa).q fun a W => ?_
  refine AZ W (Ad W Aa Aa Aa Aa) Aa (Ao Aa) (Ai W Aa).q fun a W => ?_
  obtain ⟨x15, h15, H⟩ := Ac H
  refine AZ W (Ad W Aa Aa Aa Aa) Aa (Ao Aa) (Al (r := AY) Eu W Aa Aa (Af 2 Aa) h15).q fun a W => ?_
  refine AZ W (Ad W Aa Aa Aa Aa) Aa (Ao Aa) (Ax I8 Aa Aa Aa T3 W Aa (Jm v7 + (p6).toNat * 4 + 1) Aa).q fun a W => ?_
  refine AZ W (Ad W Aa Aa Aa Aa) Aa (Ao Aa) (Ag (y := Jint x15.2.1) (j := 1) (i := p6) W Aa Aa (Af 2 Aa) h15 EK.to T3 Aa).q fun a W => ?_
  refine AZ W (Ad W Aa Aa Aa Aa) Aa (Ao Aa) (B9 (v := Value.agg #[Jint 2, Jint x14.1, Jint x15.2.1]) Vt W Aa Aa Aa).q fun a W => ?_
  refine AZ W (Ad W Aa Aa Aa Aa) Aa (Ao Aa) (XS (t := decide (x13.1 = 2 ∧ x13.2.1 = x14.1 ∧ x13.2.2 = x15.2.1)) YN (Y9 _ _ _ _ _ _) W Aa Aa).q fun a W => ?_
  refine qs W Aa (Dw W Aa Aa Aa).q fun a W => ?_
  refine AA fun w F => ?_
  refine Ab ?_
  have F := F.frontZ (i := 2) Aa Aa
  have F := F.frontZ (i := 3) Aa Aa
  have F := F.frontZ (i := 3) Aa Aa
  have F := F.frontM (i := 2) Aa Aa
  have F := F.frontM (i := 2) Aa Aa
  have F := F.frontM (i := 2) Aa Aa
  have F := F.sub (M' := [(b3, [v10, v8, Jint x5.1.2.2.1, Jint x5.1.2.2.2.1, Jint x5.1.2.2.2.2.1, Jint x5.1.2.2.2.2.2]), (b2, [v7, v8, Jint x5.1.2.2.1, Jint x5.1.2.2.2.1, Jint x5.1.2.2.2.2.1, Jint x5.1.2.2.2.2.2]), (b1, [Jint p0.1, v1, v2])]) (Z' := [row v10 43 AY x10, row v8 46 GO x5.1.2.1, row v7 43 AY x5.1.1]) sr (sc (sc (sc nl)))
  exact ⟨_, H, W.ra Aa, F⟩
 rintro a w ⟨x12, hj, W, F⟩
 have hj := Ay hj
 subst hj
 have H := K2
 clear G2 K2
 refine CS W Aa H (fun W H => ?_) fun W H => ?_
 ·
  refine vc tk 5 W F fun a w W F => ?_
  refine Ap (AF ?_)
  have H := Ay H
  subst H
  refine A1 (.inl Aa) W F Aa (Am W Aa) ?_
  exact ⟨rfl, F.done⟩
 refine FL tk 3 W F fun a w W F => ?_
 refine As (fun a w => Fr 147 [] [(1, v3), (2, v4), (6, Jint p6), (7, pp b1), (14, .bool false), (15, pp b2), (18, pp b3), (106, .bool (decide (p6 = 0) || decide ((x5.1.2.1.length : Int) ≤ p6)))] a ∧ sy Y w0 [(b3, [v10, v8, Jint x5.1.2.2.1, Jint x5.1.2.2.2.1, Jint x5.1.2.2.2.2.1, Jint x5.1.2.2.2.2.2]), (b2, [v7, v8, Jint x5.1.2.2.1, Jint x5.1.2.2.2.1, Jint x5.1.2.2.2.2.1, Jint x5.1.2.2.2.2.2]), (b1, [Jint p0.1, v1, v2])] [row v10 43 AY x10, row v8 46 GO x5.1.2.1, row v7 43 AY x5.1.1] w) ?_ ?_
 ·
  refine vc tk 4 W F fun a w W F => ?_
  rcases bxq (decide (p6 = 0)) with hb0 | hb0
  ·
   rw [hb0] at W
   refine vl tk 7 W F fun a w W F => ?_
   refine Ab ?_
   exact ⟨W.re ⟨rfl, Aa, Aa, Aa, Aa, Aa, Aa, (HA (by try rw [hb0]; all_goals simp only [Hw])), trivial⟩, F⟩
  rw [hb0] at W
  refine Kp tk 3 [1] W F (ai fun a w W F => ?_)
  refine Gb W F (Ad W Aa Aa Aa Aa) Aa (Ao Aa) (BP (r := GO) (l := x5.1.2.1) S1 Aa W Aa (Af 1 Aa)).q fun a w W F => ?_
  refine vl tk 3 W F fun a w W F => ?_
  refine Ab ?_
  exact ⟨W.re ⟨rfl, Aa, Aa, Aa, Aa, Aa, Aa, (HA (by try rw [hb0]; all_goals simp only [Hw])), trivial⟩, F⟩
 rintro a w ⟨W, F⟩
 refine CS W Aa H (fun W H => ?_) fun W H => ?_
 ·
  refine vc tk 2 W F fun a w W F => ?_
  obtain ⟨x16, h16, H⟩ := Ac H
  refine ls W F Aa (Bc (v := Value.bool x16) W H6 Aa (fun w F => Js any w _ h16)) fun a w W F => ?_
  refine BQ tk 3 W F fun a w W F => ?_
  refine Ap (AF ?_)
  have H := Ay H
  subst H
  refine A1 (.inl Aa) W F Aa (Am W Aa) ?_
  exact ⟨rfl, F.done⟩
 refine Lj tk 5 [1] W F (ai fun a w W F => ?_)
 refine Ej 0 W F Aa Aa Aa Q2 Aa Aa (AB (F.one (k := 2) Aa) (AB (F.one (k := 1) Aa) (AB Aa (AB Aa (AB Aa (AB Aa Ez)))))) fun w F => ?_
 refine BQ tk 5 W F fun a w W F => ?_
 refine Ej 0 W F Aa Aa Aa SF Aa Aa Aa fun w F => ?_
 refine Ii tk 8 [0, 1] W F (ai (ai fun a w W F => ?_))
 have F := F.nilRow 46 GO
 obtain ⟨x17, h17, H⟩ := Ac H
 refine Di (r := GO) (i := 0) W F Aa UG Aa Aa Aa Aa (D1 F 2 Aa) h17 Aa fun v12 a w W F => ?_
 have F : sy Y w0 [(b3, [v7, .slice none 0 0, Jint x5.1.2.2.1, Jint x5.1.2.2.2.1, Jint x5.1.2.2.2.2.1, Jint x5.1.2.2.2.2.2]), (b2, [v7, v8, Jint x5.1.2.2.1, Jint x5.1.2.2.2.1, Jint x5.1.2.2.2.2.1, Jint x5.1.2.2.2.2.2]), (b1, [Jint p0.1, v1, v2])] [row v12 46 GO x17, row v10 43 AY x10, row v8 46 GO x5.1.2.1, row v7 43 AY x5.1.1] w := F
 refine ls W F Aa (Ax PE Aa Aa Aa SF W Aa 1 Aa).q fun a w W F => ?_
 refine NV (M' := [(b3, [v7, v12, Jint x5.1.2.2.1, Jint x5.1.2.2.2.1, Jint x5.1.2.2.2.2.1, Jint x5.1.2.2.2.2.2]), (b2, [v7, v8, Jint x5.1.2.2.1, Jint x5.1.2.2.2.1, Jint x5.1.2.2.2.2.1, Jint x5.1.2.2.2.2.2]), (b1, [Jint p0.1, v1, v2])]) 0 W F Aa Aa Aa SF (F.one (k := 0) Aa) Aa Aa fun w F => ?_
 refine BQ tk 3 W F fun a w W F => ?_
 obtain ⟨v13, h18, F⟩ := F.exR Gh
 have F := F.frontZ (i := 2) Aa Aa
 obtain ⟨v14, h19, F⟩ := F.exR Gh
 refine Ik 12 F MO (by kernel_rfl) ?_
 refine qs W Aa (Ax PE Aa Aa Aa SF W Aa 1 Aa).q fun a W => ?_
 refine qs W Aa (Bx (v := v12) 0 W Aa Aa SF Aa).q fun a W => ?_
 refine qs W Aa (Ai W Aa).q fun a W => ?_
 refine qs W Aa (Ax PE Aa Aa Aa SF W Aa 1 Aa).q fun a W => ?_
 refine qs W Aa (Bx (v := v12) 0 W Aa Aa SF Aa).q fun a W => ?_
 refine qs W Aa (Ai W Aa).q fun a W => ?_
 refine qs W Aa (Ek W Aa Aa Aa).q fun a W => ?_
 obtain ⟨x18, h20, H⟩ := Ac H
 obtain ⟨v15, h21, h22⟩ := EP h18 h20
 have h23 : LF v15 = [Jint x18.1, Jint x18.2.1, (v15.2.2.1)] := congrArg (fun q : Int × Int × List Int => ([Jint q.1, Jint q.2.1, (v15.2.2.1)] : List Value)) h22
 refine qs W Aa (Al (r := OZ) UG W Aa Aa (Af 1 Aa) h21).q fun a W => ?_
 refine qs W Aa (Ax SU Aa Aa Aa T3 W Aa (Jm v12 + (An (p6 - 1)).toNat * 3 + 1) Aa).q fun a W => ?_
 refine qs W Aa (Ag (y := Jint x18.2.1) (j := 1) (i := An (p6 - 1)) (enc := LF) W Aa Aa (Af 1 Aa) h21 Q9 T3 (by rw [h23]; rfl)).q fun a W => ?_
 obtain ⟨x19, h24, H⟩ := Ac H
 obtain ⟨v16, h25, h26⟩ := EP h18 h24
 have h27 : LF v16 = [Jint x19.1, Jint x19.2.1, (v16.2.2.1)] := congrArg (fun q : Int × Int × List Int => ([Jint q.1, Jint q.2.1, (v16.2.2.1)] : List Value)) h26
 refine qs W Aa (Al (r := OZ) UG W Aa Aa (Af 1 Aa) h25).q fun a W => ?_
 refine qs W Aa (Ax SU Aa Aa Aa T3 W Aa (Jm v12 + (p6).toNat * 3 + 1) Aa).q fun a W => ?_
 refine AA fun w F => ?_
 have F := F.note (F.rowAt (k := 1) Aa h21 (DA.snd (DA.snd DA.here)) (congrArg (fun q : Int × Int × List Int => q.2.2) h22))
 have F := F.frontZ (i := 2) Aa Aa
 have F := F.hideR Gh h18
 refine A0 (r := GO) (i := p6) (j := 1) (vs := [Jint x18.2.1]) (x' := (x19.1, x18.2.1, x19.2.2)) W F rfl rfl rfl (k := 0) rfl rfl h24 T3 rfl rfl rfl (AB rfl Ez) (fun A cs hA hc => by obtain ⟨z, hz, hc⟩ := Gh.to hc; have e1 := Q9 hc; have e2 : LF z = [Jint x19.1, Jint x19.2.1, (z.2.2.1)] := (congrArg (fun q : Int × Int × List Int => ([Jint q.1, Jint q.2.1, (z.2.2.1)] : List Value)) hz); rw [e1, e2]; exact ⟨[Jint x19.1], [Jint x18.2.1, (z.2.2.1)], rfl, rfl, ⟨[Jint x18.2.1], [(z.2.2.1)], rfl, rfl, ⟨_, rfl, (Sl.cast ((DA.snd (DA.snd DA.here)) hc) (congrArg (fun q : Int × Int × List Int => q.2.2) hz))⟩⟩⟩) fun w F => ?_
 refine Ii tk 8 [2, 0] W F (ai (ai fun a w W F => ?_))
 obtain ⟨x20, h28, H⟩ := Ac H
 refine A9 (Ml := []) (Zl := []) (β := Value) (rv := fun x => x) (MM := fun x => []) (ZZ := fun x => [row x 41 CI x20]) W F H8 Aa Aa (fun hL => Ia _ w (v1) (v2) (v3) (v4) (v7) (v12) p0 p1 p2 (x5.1.1, (Ah x17 p6 (x19.1, x18.2.1, x19.2.2)), x5.1.2.2.1, x5.1.2.2.2.1, x5.1.2.2.2.2.1, x5.1.2.2.2.2.2) _ h28 ((Ae h_v1) w F).nx ((Ae h_v2) w F).nx (Sl.hide CK h1 (F.old s_v3)) ((AL CK h2 (Ae h_v4)) w F).nx ((Af 4 Aa) w F).nx ((Af 0 Aa) w F).nx) fun x a w W F => ?_
 obtain ⟨v17, rfl⟩ : ∃ y, y = x := ⟨x, rfl⟩
 have F : sy Y w0 [(b3, [v7, v12, Jint x5.1.2.2.1, Jint x5.1.2.2.2.1, Jint x5.1.2.2.2.2.1, Jint x5.1.2.2.2.2.2]), (b2, [v7, v8, Jint x5.1.2.2.1, Jint x5.1.2.2.2.1, Jint x5.1.2.2.2.2.1, Jint x5.1.2.2.2.2.2]), (b1, [Jint p0.1, v1, v2])] [row v17 41 CI x20, row v12 46 GO (Ah x17 p6 (x19.1, x18.2.1, x19.2.2)), Lz (v15.2.2.1) ri x18.2.2, row v8 46 OZ v14, row v10 43 AY x10, row v7 43 AY x5.1.1] w := F
 refine vl tk 2 W F fun a w W F => ?_
 refine Ab ?_
 obtain ⟨o3, G3, K3⟩ := Ac H
 refine As (fun a w => ∃ x21 : Bool, some (x21) = some o3 ∧ Fr 147 [] [(14, .bool x21)] a ∧ sy Y w0 [(b3, [v7, v12, Jint x5.1.2.2.1, Jint x5.1.2.2.2.1, Jint x5.1.2.2.2.2.1, Jint x5.1.2.2.2.2.2]), (b2, [v7, v8, Jint x5.1.2.2.1, Jint x5.1.2.2.2.1, Jint x5.1.2.2.2.2.1, Jint x5.1.2.2.2.2.2]), (b1, [Jint p0.1, v1, v2])] [row v7 43 AY x5.1.1, row v12 46 GO (Ah x17 p6 (x19.1, x18.2.1, x19.2.2)), row v8 46 GO x5.1.2.1] w) ?_ ?_
 ·
  have H := G3
  clear G3 K3
  refine vc tk 2 W F fun a w W F => ?_
  refine ls W F Aa (BP (r := CI) (l := x20) ON Aa W Aa (Af 0 Aa)).q fun a w W F => ?_
  refine vl tk 2 W F fun a w W F => ?_
  rcases bxq (decide ((x20.length : Int) = 1)) with hb | hb
  ·
   have H := DU (Fa hb) H
   rw [hb] at W
   clear hb
   refine Gb W F (Ad W Aa Aa Aa Aa) Aa (Ao Aa) (Ai W Aa).q fun a w W F => ?_
   obtain ⟨x22, h29, H⟩ := Ac H
   refine Gb W F (Ad W Aa Aa Aa Aa) Aa (Ao Aa) (Al (r := CI) PW W Aa Aa (Af 0 Aa) h29).q fun a w W F => ?_
   refine Gb W F (Ad W Aa Aa Aa Aa) Aa (Ao Aa) (Ag (y := Value.agg #[Jint x22.1, Jint x22.2.1, Jint x22.2.2]) (j := 0) (i := 0) W Aa Aa (Af 0 Aa) h29 UH.to YW Aa).q fun a w W F => ?_
   refine Gb W F (Ad W Aa Aa Aa Aa) Aa (Ao Aa) (Ai W Aa).q fun a w W F => ?_
   refine Gb W F (Ad W Aa Aa Aa Aa) Aa (Ao Aa) (B9 (v := Value.agg #[Jint 4, Jint p6, Jint 0]) Vt W Aa Aa Aa).q fun a w W F => ?_
   refine Gb W F (Ad W Aa Aa Aa Aa) Aa (Ao Aa) (QZ (t := decide (x22.1 = 4 ∧ x22.2.1 = p6 ∧ x22.2.2 = 0)) YN (Y9 _ _ _ _ _ _) W Aa Aa).q fun a w W F => ?_
   refine vl tk 2 W F fun a w W F => ?_
   rcases bxq (decide (x22.1 = 4 ∧ x22.2.1 = p6 ∧ x22.2.2 = 0)) with hb | hb
   ·
    have H := DU (Fa hb) H
    rw [hb] at W
    clear hb
    refine MI (Ad W Aa Aa Aa Aa) ?_
    obtain ⟨x23, h30, H⟩ := Ac H
    refine ls W F Aa (Bc (v := Value.bool x23) W H6 Aa (fun w F => Js any w _ h30)) fun a w W F => ?_
    refine vl tk 3 W F fun a w W F => ?_
    refine Ab ?_
    have F := F.frontZ (i := 3) Aa Aa
    have F := F.hideR Gh h19
    have F := F.frontZ (i := 2) Aa Aa
    have F := F.frontZ (i := 5) Aa Aa
    have F := F.frontM (i := 2) Aa Aa
    have F := F.frontM (i := 2) Aa Aa
    have F := F.frontM (i := 2) Aa Aa
    have F := F.sub (M' := [(b3, [v7, v12, Jint x5.1.2.2.1, Jint x5.1.2.2.2.1, Jint x5.1.2.2.2.2.1, Jint x5.1.2.2.2.2.2]), (b2, [v7, v8, Jint x5.1.2.2.1, Jint x5.1.2.2.2.1, Jint x5.1.2.2.2.2.1, Jint x5.1.2.2.2.2.2]), (b1, [Jint p0.1, v1, v2])]) (Z' := [row v7 43 AY x5.1.1, row v12 46 GO (Ah x17 p6 (x19.1, x18.2.1, x19.2.2)), row v8 46 GO x5.1.2.1]) sr (sc (sc (sc nl)))
    exact ⟨_, H, W.ra Aa, F⟩
   have H := DS (E4 hb) H
   rw [hb] at W
   clear hb
   refine vl tk 4 W F fun a w W F => ?_
   refine Ab ?_
   have F := F.frontZ (i := 3) Aa Aa
   have F := F.hideR Gh h19
   have F := F.frontZ (i := 2) Aa Aa
   have F := F.frontZ (i := 5) Aa Aa
   have F := F.frontM (i := 2) Aa Aa
   have F := F.frontM (i := 2) Aa Aa
   have F := F.frontM (i := 2) Aa Aa
   have F := F.sub (M' := [(b3, [v7, v12, Jint x5.1.2.2.1, Jint x5.1.2.2.2.1, Jint x5.1.2.2.2.2.1, Jint x5.1.2.2.2.2.2]), (b2, [v7, v8, Jint x5.1.2.2.1, Jint x5.1.2.2.2.1, Jint x5.1.2.2.2.2.1, Jint x5.1.2.2.2.2.2]), (b1, [Jint p0.1, v1, v2])]) (Z' := [row v7 43 AY x5.1.1, row v12 46 GO (Ah x17 p6 (x19.1, x18.2.1, x19.2.2)), row v8 46 GO x5.1.2.1]) sr (sc (sc (sc nl)))
   exact ⟨_, H, W.ra Aa, F⟩
  have H := DS (E4 hb) H
  rw [hb] at W
  clear hb
  refine vl tk 12 W F fun a w W F => ?_
  refine Ab ?_
  have F := F.frontZ (i := 3) Aa Aa
  have F := F.hideR Gh h19
  have F := F.frontZ (i := 2) Aa Aa
  have F := F.frontZ (i := 5) Aa Aa
  have F := F.frontM (i := 2) Aa Aa
  have F := F.frontM (i := 2) Aa Aa
  have F := F.frontM (i := 2) Aa Aa
  have F := F.sub (M' := [(b3, [v7, v12, Jint x5.1.2.2.1, Jint x5.1.2.2.2.1, Jint x5.1.2.2.2.2.1, Jint x5.1.2.2.2.2.2]), (b2, [v7, v8, Jint x5.1.2.2.1, Jint x5.1.2.2.2.1, Jint x5.1.2.2.2.2.1, Jint x5.1.2.2.2.2.2]), (b1, [Jint p0.1, v1, v2])]) (Z' := [row v7 43 AY x5.1.1, row v12 46 GO (Ah x17 p6 (x19.1, x18.2.1, x19.2.2)), row v8 46 GO x5.1.2.1]) sr (sc (sc (sc nl)))
  exact ⟨_, H, W.ra Aa, F⟩
 rintro a w ⟨x21, hj, W, F⟩
 have hj := Ay hj
 subst hj
 have H := K3
 clear G3 K3
 refine Ap ?_
 have H := Ay H
 subst H
 refine A1 (.inl Aa) W F Aa (Am W Aa) ?_
 exact ⟨rfl, F.done⟩
end Go.Proofs.YthhoflfhegfmcaaGreat
