/- The functions of layer 25, JD. Conditions: none. -/
import Derived.Test.YthhoflfhegfmcaaGreatbA6
namespace Go.Proofs.YthhoflfhegfmcaaGreat
open Go Go.RowKit
set_option linter.unusedVariables false
set_option linter.unusedSimpArgs false
set_option maxRecDepth 20000
set_option maxHeartbeats 1600000
theorem aB : Has Tryz.prog 12 := Cu Tryz.func12
abbrev RY  : List Value := [.slice none 0 0, .slice none 0 0, .int .i64 0, .int .i64 0, .int .i64 0, .int .i64 0]
abbrev V3 (a0 : Nat) (a1 : Nat) (a2 : Int × (List (Int × Int × Int × Int × Int × Int)) × (List (Int × Int))) (a3 : Value) (a4 : Value) : List (Nat × List Value) := [(a0, [.slice none 0 0, .slice none 0 0, .int .i64 0, .int .i64 0, .int .i64 0, .int .i64 0]), (a1, [.int .i64 a2.1, a3, a4])]
abbrev Xv (a0 : Nat) (a1 : Value) (a2 : Int) (a3 : Int) (a4 : Nat) (a5 : Nat) (a6 : Int × (List (Int × Int × Int × Int × Int × Int)) × (List (Int × Int))) (a7 : Value) (a8 : Value) : List (Nat × List Value) := [(a0, [a1, .slice none 0 0, .int .i64 a2, .int .i64 a3, .int .i64 0, .int .i64 0]), (a4, [.slice none 0 0, .slice none 0 0, .int .i64 0, .int .i64 0, .int .i64 0, .int .i64 0]), (a5, [.int .i64 a6.1, a7, a8])]
noncomputable def Fw (p0 : Int × (List (Int × Int × Int × Int × Int × Int)) × (List (Int × Int))) (p1 : List (List Int)) (p2 : List (List Int)) (p3 : Int) (p4 : Int) (p5 : Int) : Option (((List (Int × Int × Int × Int)) × (List (Int × Int × List Int)) × Int × Int × Int × Int) × Int) := (if (decide (p3 < 0) || (decide (1099511627776 < p3) || (decide (p4 < 0) || (decide (1048576 < p4) || (decide (p5 < 0) || decide (1048576 < p5)))))) = true then some ((([] : List (Int × Int × Int × Int)), ([] : List (Int × Int × List Int)), 0, 0, 0, 0), 2) else (FO p0 p1 p2).bind fun x1 => (if x1.2 ≠ 0 then some ((([] : List (Int × Int × Int × Int)), ([] : List (Int × Int × List Int)), 0, 0, 0, 0), x1.2) else (if (x1.1.length : Int) = 0 then some ((([] : List (Int × Int × Int × Int)), ([] : List (Int × Int × List Int)), 0, 0, 0, 0), 7) else (Hj p0).bind fun x2 => (Hw p0 p4).bind fun x3 => (Ic x1.1 (An ((An ((An ((An (p3 + p5)) + p4)) + x2)) + 1)) x3).bind fun x4 => (ix x4 (An ((x4.length : Int) - 1))).bind fun x5 => (if 1099511627776 < (An (x5.2.1 + p4)) then some ((([] : List (Int × Int × Int × Int)), ([] : List (Int × Int × List Int)), 0, 0, 0, 0), 11) else some ((x1.1, x4, p4, x2, An ((An ((An ((An ((An ((An (p3 + p5)) + p4)) + x2)) + 1)) - p4)) - x2), An (x5.2.1 + p4)), 0)))))
theorem Qg (Y : Nat → Prop) (w0 : World) (v1 : Value) (v2 : Value) (v3 : Value) (v4 : Value) (p0 : Int × (List (Int × Int × Int × Int × Int × Int)) × (List (Int × Int))) (p1 : List (List Int)) (p2 : List (List Int)) (p3 : Int) (p4 : Int) (p5 : Int) (r : ((List (Int × Int × Int × Int)) × (List (Int × Int × List Int)) × Int × Int × Int × Int) × Int) (H : Fw p0 p1 p2 p3 p4 p5 = some r) (h_v1 : Sl w0 (NX []) IG v1 p0.2.1) (h_v2 : Sl w0 (NX []) IB v2 p0.2.2) (h_v3 : Sl w0 (NX []) (Rp.slice (Rp.int .i64)) v3 p1) (h_v4 : Sl w0 (NX []) (Rp.slice (Rp.int .i64)) v4 p2) :
    Calls Tryz.prog 7 #[.agg #[.int .i64 p0.1, v1, v2], v3, v4, .int .i64 p3, .int .i64 p4, .int .i64 p5] w0 fun e w' => ∃ x : Value × Value, e = .returned (.tuple #[.agg #[x.1, x.2, .int .i64 r.1.2.2.1, .int .i64 r.1.2.2.2.1, .int .i64 r.1.2.2.2.2.1, .int .i64 r.1.2.2.2.2.2], .int .i64 r.2]) ∧ Stw ⟨Y, [], w0⟩ [] [row (x.1) 43 A5 r.1.1, row (x.2) 46 Jg r.1.2.1] w' := by
 refine enter Tryz.func7 Aa Tryz.ntmps7 Aa fun a W => ?_
 have F := Stw.start Y w0
 obtain ⟨v5, h1, h_v3⟩ := h_v3.ex CM
 obtain ⟨v6, h2, h_v4⟩ := h_v4.ex CM
 unfold Fw at H
 refine vc tk 2 W F fun a w W F => ?_
 refine D2 (cs := [.int .i64 p0.1, v1, v2]) W F Aa Aa Aa fun b1 a w W F => ?_
 refine B8 (cs := (RY)) W F Aa Y6 Aa fun b2 a w W F => ?_
 refine BR tk 4 W F fun a w W F => ?_
 refine Aq (fun a w => Fr 101 [] [(1, v3), (2, v4), (3, .int .i64 p3), (4, .int .i64 p4), (5, .int .i64 p5), (6, .pointer (some ⟨b1, 0, none⟩)), (12, .pointer (some ⟨b2, 0, none⟩)), (13, .int .i64 0), (39, .bool (decide (p3 < 0) || (decide (1099511627776 < p3) || (decide (p4 < 0) || (decide (1048576 < p4) || (decide (p5 < 0) || decide (1048576 < p5)))))))] a ∧ Stw ⟨Y, [], w0⟩ (V3 b2 b1 p0 v1 v2) [] w) ?_ ?_
 ·
  refine vc tk 4 W F fun a w W F => ?_
  rcases Bool.eq_false_or_eq_true (decide (p3 < 0)) with hb0 | hb0
  ·
   rw [hb0] at W
   refine vl tk 20 W F fun a w W F => ?_
   refine Ab ?_
   exact ⟨W.re ⟨rfl, Aa, Aa, Aa, Aa, Aa, Aa, Aa, (H0 (by try rw [hb0]; all_goals simp only [H2])), trivial⟩, F⟩
  rw [hb0] at W
  refine vl tk 4 W F fun a w W F => ?_
  rcases Bool.eq_false_or_eq_true (decide (1099511627776 < p3)) with hb1 | hb1
  ·
   rw [hb1] at W
   refine vl tk 16 W F fun a w W F => ?_
   refine Ab ?_
   exact ⟨W.re ⟨rfl, Aa, Aa, Aa, Aa, Aa, Aa, Aa, (H0 (by try rw [hb1]; try rw [hb0]; all_goals simp only [H2])), trivial⟩, F⟩
  rw [hb1] at W
  refine vl tk 4 W F fun a w W F => ?_
  rcases Bool.eq_false_or_eq_true (decide (p4 < 0)) with hb2 | hb2
  ·
   rw [hb2] at W
   refine vl tk 12 W F fun a w W F => ?_
   refine Ab ?_
   exact ⟨W.re ⟨rfl, Aa, Aa, Aa, Aa, Aa, Aa, Aa, (H0 (by try rw [hb1]; try rw [hb0]; try rw [hb2]; all_goals simp only [H2])), trivial⟩, F⟩
  rw [hb2] at W
  refine vl tk 4 W F fun a w W F => ?_
  rcases Bool.eq_false_or_eq_true (decide (1048576 < p4)) with hb3 | hb3
  ·
   rw [hb3] at W
   refine vl tk 8 W F fun a w W F => ?_
   refine Ab ?_
   exact ⟨W.re ⟨rfl, Aa, Aa, Aa, Aa, Aa, Aa, Aa, (H0 (by try rw [hb1]; try rw [hb3]; try rw [hb0]; try rw [hb2]; all_goals simp only [H2])), trivial⟩, F⟩
  rw [hb3] at W
  refine vl tk 4 W F fun a w W F => ?_
  rcases Bool.eq_false_or_eq_true (decide (p5 < 0)) with hb4 | hb4
  ·
   rw [hb4] at W
   refine vl tk 4 W F fun a w W F => ?_
   refine Ab ?_
   exact ⟨W.re ⟨rfl, Aa, Aa, Aa, Aa, Aa, Aa, Aa, (H0 (by try rw [hb1]; try rw [hb3]; try rw [hb0]; try rw [hb2]; try rw [hb4]; all_goals simp only [H2])), trivial⟩, F⟩
  rw [hb4] at W
  refine vl tk 4 W F fun a w W F => ?_
  refine Ab ?_
  exact ⟨W.re ⟨rfl, Aa, Aa, Aa, Aa, Aa, Aa, Aa, (H0 (by try rw [hb1]; try rw [hb3]; try rw [hb0]; try rw [hb2]; try rw [hb4]; all_goals simp only [H2])), trivial⟩, F⟩
 rintro a w ⟨W, F⟩
 refine C2 W Aa H (fun W H => ?_) fun W H => ?_
 ·
  refine vc tk 2 W F fun a w W F => ?_
  refine ls W F Aa (Cg (v := Value.agg #[.slice none 0 0, .slice none 0 0, .int .i64 0, .int .i64 0, .int .i64 0, .int .i64 0]) WV W Aa Aa Aa).q fun a w W F => ?_
  refine Ey 0 W F Aa Aa Aa RN Aa Aa Aa fun w F => ?_
  refine BR tk 3 W F fun a w W F => ?_
  refine Ao (AE ?_)
  have H := Ax H
  subst H
  refine FF (.inl Aa) W F Aa (Iz 0 W Aa Aa RN Aa) (Am W Aa) ?_
  have F := F.nilRow 43 A5
  have F := F.nilRow 46 Jg
  have F := F.frontZ (i := 1) Aa Aa
  have F := F.sub (M' := []) (Z' := [row (Value.slice none 0 0) 43 A5 ([]), row (Value.slice none 0 0) 46 Jg ([])]) (List.nil_sublist _) (List.Sublist.refl _)
  exact ⟨((Value.slice none 0 0), (Value.slice none 0 0)), Aa, F⟩
 refine Ms tk 7 [1] W F (ai fun a w W F => ?_)
 obtain ⟨x1, h3, H⟩ := Ac H
 refine A9 (Ml := []) (Zl := []) (β := Value) (rv := fun x => .tuple #[x, .int .i64 x1.2]) (MM := fun x => []) (ZZ := fun x => [row x 43 A5 x1.1]) W F bO Aa Aa (fun hL => OP _ w (v1) (v2) (v3) (v4) p0 p1 p2 _ h3 ((Ad h_v1) w F).nx ((Ad h_v2) w F).nx ((AN CM h1 (Ad h_v3)) w F).nx ((AN CM h2 (Ad h_v4)) w F).nx) fun x a w W F => ?_
 obtain ⟨v7, rfl⟩ : ∃ y, y = x := ⟨x, rfl⟩
 have F : Stw ⟨Y, [], w0⟩ (V3 b2 b1 p0 v1 v2) [row v7 43 A5 x1.1] w := F
 refine ls W F Aa (Ai W Aa).q fun a w W F => ?_
 refine ls W F Aa (Bi (v := v7) W Aa Aa).q fun a w W F => ?_
 refine ls W F Aa (Bi (v := Value.int .i64 x1.2) W Aa Aa).q fun a w W F => ?_
 refine BR tk 11 W F fun a w W F => ?_
 refine AU W Aa H (fun W H => ?_) fun W H => ?_
 ·
  refine vc tk 2 W F fun a w W F => ?_
  refine ls W F Aa (Cg (v := Value.agg #[.slice none 0 0, .slice none 0 0, .int .i64 0, .int .i64 0, .int .i64 0, .int .i64 0]) WV W Aa Aa Aa).q fun a w W F => ?_
  refine ls W F Aa (Ai W Aa).q fun a w W F => ?_
  refine Ey 0 W F Aa Aa Aa RN Aa Aa Aa fun w F => ?_
  refine BR tk 3 W F fun a w W F => ?_
  refine Ao (AE ?_)
  have H := Ax H
  subst H
  refine FF (.inl Aa) W F Aa (Iz 0 W Aa Aa RN Aa) (Am W Aa) ?_
  have F := F.nilRow 43 A5
  have F := F.nilRow 46 Jg
  have F := F.frontZ (i := 1) Aa Aa
  have F := F.sub (M' := []) (Z' := [row (Value.slice none 0 0) 43 A5 ([]), row (Value.slice none 0 0) 46 Jg ([])]) (List.nil_sublist _) (List.Sublist.cons_cons _ (List.Sublist.cons_cons _ (List.nil_sublist _)))
  exact ⟨((Value.slice none 0 0), (Value.slice none 0 0)), Aa, F⟩
 refine FP tk 6 W F fun a w W F => ?_
 refine ls W F Aa (BS (r := A5) (l := x1.1) Qz Aa W Aa (Af 0 Aa)).q fun a w W F => ?_
 refine BR tk 3 W F fun a w W F => ?_
 refine AU W Aa H (fun W H => ?_) fun W H => ?_
 ·
  refine vc tk 2 W F fun a w W F => ?_
  refine ls W F Aa (Cg (v := Value.agg #[.slice none 0 0, .slice none 0 0, .int .i64 0, .int .i64 0, .int .i64 0, .int .i64 0]) WV W Aa Aa Aa).q fun a w W F => ?_
  refine Ey 0 W F Aa Aa Aa RN Aa Aa Aa fun w F => ?_
  refine BR tk 3 W F fun a w W F => ?_
  refine Ao (AE ?_)
  have H := Ax H
  subst H
  refine FF (.inl Aa) W F Aa (Iz 0 W Aa Aa RN Aa) (Am W Aa) ?_
  have F := F.nilRow 43 A5
  have F := F.nilRow 46 Jg
  have F := F.frontZ (i := 1) Aa Aa
  have F := F.sub (M' := []) (Z' := [row (Value.slice none 0 0) 43 A5 ([]), row (Value.slice none 0 0) 46 Jg ([])]) (List.nil_sublist _) (List.Sublist.cons_cons _ (List.Sublist.cons_cons _ (List.nil_sublist _)))
  exact ⟨((Value.slice none 0 0), (Value.slice none 0 0)), Aa, F⟩
 refine Ms tk 7 [1] W F (ai fun a w W F => ?_)
 obtain ⟨x2, h4, H⟩ := Ac H
 refine ls W F Aa (Be (v := Value.int .i64 x2) W Zf Aa (fun w F => M4 any w (v1) (v2) p0 _ h4 (EG (Ad h_v1) F) (EG (Ad h_v2) F))) fun a w W F => ?_
 refine ls W F Aa (Cg (v := Value.agg #[v7, .slice none 0 0, .int .i64 p4, .int .i64 x2, .int .i64 0, .int .i64 0]) WV W Aa (Bb Aa (BM (F.one (k := 0) Aa)) Aa (Bb Aa Aa Aa (Bb Aa Aa Aa Eo))) Aa).q fun a w W F => ?_
 refine B8 (cs := (RY)) W F Aa Y6 Aa fun b3 a w W F => ?_
 refine Ey 0 W F Aa Aa Aa RN Aa Aa (AV (F.one (k := 0) Aa) (AV Aa (AV Aa (AV Aa (AV Aa (AV Aa Fp)))))) fun w F => ?_
 refine JG tk 22 [0, 2] W F (ai (ai fun a w W F => ?_))
 obtain ⟨x3, h5, H⟩ := Ac H
 refine ls W F Aa (Be (v := Value.int .i64 x3) W Zp Aa (fun w F => NN any w (v1) (v2) p0 p4 _ h5 (EG (Ad h_v1) F) (EG (Ad h_v2) F))) fun a w W F => ?_
 obtain ⟨x4, h6, H⟩ := Ac H
 refine A9 (Ml := []) (Zl := []) (β := Value) (rv := fun x => x) (MM := fun x => []) (ZZ := fun x => [row x 46 Jg x4]) W F aB Aa Aa (fun hL => OB _ w (v7) x1.1 (An ((An ((An ((An (p3 + p5)) + p4)) + x2)) + 1)) x3 _ h6 ((Af 0 Aa) w F).nx) fun x a w W F => ?_
 obtain ⟨v8, rfl⟩ : ∃ y, y = x := ⟨x, rfl⟩
 have F : Stw ⟨Y, [], w0⟩ (Xv b3 v7 p4 x2 b2 b1 p0 v1 v2) [row v8 46 Jg x4, row v7 43 A5 x1.1] w := F
 refine ls W F Aa (Az Uz Aa Aa Aa W6 W Aa 1 Aa).q fun a w W F => ?_
 refine Tq (M' := [(b3, [v7, v8, .int .i64 p4, .int .i64 x2, .int .i64 0, .int .i64 0]), (b2, (RY)), (b1, [.int .i64 p0.1, v1, v2])]) 0 W F Aa Aa Aa W6 (F.one (k := 0) Aa) Aa Aa fun w F => ?_
 refine JG tk 11 [0] W F (ai fun a w W F => ?_)
 refine Ey 0 W F Aa Aa Aa T3 Aa Aa Aa fun w F => ?_
 refine BR tk 3 W F fun a w W F => ?_
 obtain ⟨v9, h7, F⟩ := F.exR HF
 refine IL tk 5 [0, 0] W F (ai (ai fun a w W F => ?_))
 refine ls W F Aa (BS (r := Jg) (l := x4) T4 Aa W Aa (AN HF h7 (Af 0 Aa))).q fun a w W F => ?_
 refine ls W F Aa (Eu W Aa Aa Aa).q fun a w W F => ?_
 obtain ⟨x5, h8, H⟩ := Ac H
 obtain ⟨v10, h9, h10⟩ := E5 h7 h8
 have h11 : Oh v10 = [.int .i64 x5.1, .int .i64 x5.2.1, (v10.2.2.1)] := congrArg (fun q : Int × Int × List Int => ([.int .i64 q.1, .int .i64 q.2.1, (v10.2.2.1)] : List Value)) h10
 refine ls W F Aa (Al (r := Rj) Ws W Aa Aa (Af 0 Aa) h9).q fun a w W F => ?_
 refine ls W F Aa (Az Vq Aa Aa Aa T3 W Aa (Kx v8 + (An ((x4.length : Int) - 1)).toNat * 3 + 1) Aa).q fun a w W F => ?_
 refine ls W F Aa (Ag (y := Value.int .i64 x5.2.1) (j := 1) (i := An ((x4.length : Int) - 1)) (enc := Oh) W Aa Aa (Af 0 Aa) h9 Tb T3 (by rw [h11]; rfl)).q fun a w W F => ?_
 have F := F.note (F.rowAt (k := 0) Aa h9 (DP.snd (DP.snd DP.here)) (congrArg (fun q : Int × Int × List Int => q.2.2) h10))
 refine vl tk 3 W F fun a w W F => ?_
 refine Ey 0 W F Aa Aa Aa T3 Aa Aa Aa fun w F => ?_
 refine JG tk 10 [0] W F (ai fun a w W F => ?_)
 refine AU W Aa H (fun W H => ?_) fun W H => ?_
 ·
  refine vc tk 2 W F fun a w W F => ?_
  refine ls W F Aa (Cg (v := Value.agg #[.slice none 0 0, .slice none 0 0, .int .i64 0, .int .i64 0, .int .i64 0, .int .i64 0]) WV W Aa Aa Aa).q fun a w W F => ?_
  refine Ey 1 W F Aa Aa Aa RN Aa Aa Aa fun w F => ?_
  refine BR tk 3 W F fun a w W F => ?_
  refine Ao (AE ?_)
  have H := Ax H
  subst H
  refine FF (.inl Aa) W F Aa (Iz 1 W Aa Aa RN Aa) (Am W Aa) ?_
  have F := F.nilRow 43 A5
  have F := F.nilRow 46 Jg
  have F := F.frontZ (i := 1) Aa Aa
  have F := F.sub (M' := []) (Z' := [row (Value.slice none 0 0) 43 A5 ([]), row (Value.slice none 0 0) 46 Jg ([])]) (List.nil_sublist _) (List.Sublist.cons_cons _ (List.Sublist.cons_cons _ (List.nil_sublist _)))
  exact ⟨((Value.slice none 0 0), (Value.slice none 0 0)), Aa, F⟩
 refine Ms tk 5 [0] W F (ai fun a w W F => ?_)
 refine Ey 1 W F Aa Aa Aa RN Aa Aa (AV (F.one (k := 2) Aa) (AV (F.one (k := 1) Aa) (AV Aa (AV Aa (AV Aa (AV Aa Fp)))))) fun w F => ?_
 refine BR tk 3 W F fun a w W F => ?_
 refine Ao ?_
 have H := Ax H
 subst H
 refine FF (.inl Aa) W F Aa (Iz 1 W Aa Aa RN Aa) (Am W Aa) ?_
 have F := F.frontZ (i := 1) Aa Aa
 have F := F.hideR HF h7
 have F := F.frontZ (i := 2) Aa Aa
 have F := F.sub (M' := []) (Z' := [row v7 43 A5 x1.1, row v8 46 Jg x4]) (List.nil_sublist _) (List.Sublist.cons_cons _ (List.Sublist.cons_cons _ (List.nil_sublist _)))
 exact ⟨((v7), (v8)), Aa, F⟩
theorem H7 : Has Tryz.prog 7 := Cu Tryz.func7
abbrev Sf (a0 : Nat) (a1 : Value) (a2 : Value) (a3 : ((List (Int × Int × Int × Int)) × (List (Int × Int × List Int)) × Int × Int × Int × Int) × Int) (a4 : Nat) (a5 : Int × (List (Int × Int × Int × Int × Int × Int)) × (List (Int × Int))) (a6 : Value) (a7 : Value) : List (Nat × List Value) := [(a0, [a1, a2, .int .i64 a3.1.2.2.1, .int .i64 a3.1.2.2.2.1, .int .i64 a3.1.2.2.2.2.1, .int .i64 a3.1.2.2.2.2.2]), (a4, [.int .i64 a5.1, a6, a7])]
noncomputable def Gs (p0 : Int × (List (Int × Int × Int × Int × Int × Int)) × (List (Int × Int))) (p1 : List (List Int)) (p2 : List (List Int)) (p3 : Int) (p4 : Int) (p5 : Int) : Option Bool := ((IM p0 p1).bind fun x2 => (if (!x2) = true then some true else (IM p0 p2).bind fun x3 => some (!x3))).bind fun x1 => (if x1 = true then (Hl).bind fun x4 => some x4 else (Fw p0 p1 p2 p3 p4 p5).bind fun x5 => (if x5.2 ≠ 0 then (Hl).bind fun x6 => some x6 else ((ED p0 p1 p2 x5.1).bind fun x8 => (if (x8.length : Int) = 0 then (Hl).bind fun x9 => some x9 else some false)).bind fun x7 => some x7))
theorem Mu (Y : Nat → Prop) (w0 : World) (v1 : Value) (v2 : Value) (v3 : Value) (v4 : Value) (p0 : Int × (List (Int × Int × Int × Int × Int × Int)) × (List (Int × Int))) (p1 : List (List Int)) (p2 : List (List Int)) (p3 : Int) (p4 : Int) (p5 : Int) (r : Bool) (H : Gs p0 p1 p2 p3 p4 p5 = some r) (h_v1 : Sl w0 (NX []) IG v1 p0.2.1) (h_v2 : Sl w0 (NX []) IB v2 p0.2.2) (s_v3 : Sl w0 Y (Rp.slice (Rp.int .i64)) v3 p1) (h_v4 : Sl w0 (NX []) (Rp.slice (Rp.int .i64)) v4 p2) :
    Calls Tryz.prog 3 #[.agg #[.int .i64 p0.1, v1, v2], v3, v4, .int .i64 p3, .int .i64 p4, .int .i64 p5] w0 fun e w' => e = .returned (.bool r) ∧ Below w0.heap.size w0 w' := by
 refine enter Tryz.func3 Aa Tryz.ntmps3 Aa fun a W => ?_
 have F := Stw.start Y w0
 obtain ⟨v5, h1, s_v3⟩ := s_v3.ex CM
 obtain ⟨v6, h2, h_v4⟩ := h_v4.ex CM
 have h_v3 := F.nx s_v3
 unfold Gs at H
 refine vc tk 2 W F fun a w W F => ?_
 refine D2 (cs := [.int .i64 p0.1, v1, v2]) W F Aa Aa Aa fun b1 a w W F => ?_
 refine BR tk 4 W F fun a w W F => ?_
 obtain ⟨o1, G1, K1⟩ := Ac H
 refine Aq (fun a w => ∃ x1 : Bool, some (x1) = some o1 ∧ Fr 49 [] [(1, v3), (2, v4), (3, .int .i64 p3), (4, .int .i64 p4), (5, .int .i64 p5), (6, .pointer (some ⟨b1, 0, none⟩)), (12, .bool false), (24, .bool x1)] a ∧ Stw ⟨Y, [], w0⟩ [(b1, [.int .i64 p0.1, v1, v2])] [] w) ?_ ?_
 ·
  have H := G1
  clear G1 K1
  refine IL tk 3 [0] W F (ai fun a w W F => ?_)
  obtain ⟨x2, h3, H⟩ := Ac H
  refine ls W F Aa (Be (v := Value.bool x2) W H5 Aa (fun w F => Na any w (v1) (v2) (v3) p0 p1 _ h3 (EG (Ad h_v1) F) (EG (Ad h_v2) F) (EG (AN CM h1 (Ad h_v3)) F))) fun a w W F => ?_
  refine vl tk 2 W F fun a w W F => ?_
  rcases Bool.eq_false_or_eq_true (!x2) with hb | hb
  ·
   have H := D0 hb H
   rw [hb] at W
   clear hb
   refine vl tk 6 W F fun a w W F => ?_
   refine Ab ?_
   exact ⟨_, H, W.ra Aa, F⟩
  have H := DZ (by rw [hb]; decide) H
  rw [hb] at W
  clear hb
  refine Ky tk 2 [0] W F (ai fun a w W F => ?_)
  refine MB (Ae W Aa Aa Aa Aa) ?_
  obtain ⟨x3, h4, H⟩ := Ac H
  refine ls W F Aa (Be (v := Value.bool x3) W H5 Aa (fun w F => Na any w (v1) (v2) (v4) p0 p2 _ h4 (EG (Ad h_v1) F) (EG (Ad h_v2) F) (EG (AN CM h2 (Ad h_v4)) F))) fun a w W F => ?_
  refine vl tk 3 W F fun a w W F => ?_
  refine Ab ?_
  exact ⟨_, H, W.ra Aa, F⟩
 rintro a w ⟨x1, hj, W, F⟩
 have hj := Ax hj
 subst hj
 have H := K1
 clear G1 K1
 refine C2 W Aa H (fun W H => ?_) fun W H => ?_
 ·
  refine vc tk 2 W F fun a w W F => ?_
  obtain ⟨x4, h5, H⟩ := Ac H
  refine ls W F Aa (Be (v := Value.bool x4) W H6 Aa (fun w F => KW any w _ h5)) fun a w W F => ?_
  refine BR tk 3 W F fun a w W F => ?_
  refine Ao (AE ?_)
  have H := Ax H
  subst H
  refine A1 (.inl Aa) W F Aa (Am W Aa) ?_
  exact ⟨rfl, F.done⟩
 refine Ms tk 10 [0] W F (ai fun a w W F => ?_)
 obtain ⟨x5, h6, H⟩ := Ac H
 refine A9 (Ml := []) (Zl := []) (β := Value × Value) (rv := fun x => .tuple #[.agg #[x.1, x.2, .int .i64 x5.1.2.2.1, .int .i64 x5.1.2.2.2.1, .int .i64 x5.1.2.2.2.2.1, .int .i64 x5.1.2.2.2.2.2], .int .i64 x5.2]) (MM := fun x => []) (ZZ := fun x => [row x.1 43 A5 x5.1.1, row x.2 46 Jg x5.1.2.1]) W F H7 Aa Aa (fun hL => Qg _ w (v1) (v2) (v3) (v4) p0 p1 p2 p3 p4 p5 _ h6 ((Ad h_v1) w F).nx ((Ad h_v2) w F).nx ((AN CM h1 (Ad h_v3)) w F).nx ((AN CM h2 (Ad h_v4)) w F).nx) fun x a w W F => ?_
 obtain ⟨v7, v8⟩ := x
 have F : Stw ⟨Y, [], w0⟩ [(b1, [.int .i64 p0.1, v1, v2])] [row v7 43 A5 x5.1.1, row v8 46 Jg x5.1.2.1] w := F
 refine ls W F Aa (Ai W Aa).q fun a w W F => ?_
 refine ls W F Aa (Bi (v := Value.agg #[v7, v8, .int .i64 x5.1.2.2.1, .int .i64 x5.1.2.2.2.1, .int .i64 x5.1.2.2.2.2.1, .int .i64 x5.1.2.2.2.2.2]) W Aa Aa).q fun a w W F => ?_
 refine ls W F Aa (Bi (v := Value.int .i64 x5.2) W Aa Aa).q fun a w W F => ?_
 refine B8 (cs := (RY)) W F Aa Y6 Aa fun b2 a w W F => ?_
 refine Ey 0 W F Aa Aa Aa RN Aa Aa (AV (F.one (k := 0) Aa) (AV (F.one (k := 1) Aa) (AV Aa (AV Aa (AV Aa (AV Aa Fp)))))) fun w F => ?_
 refine BR tk 10 W F fun a w W F => ?_
 refine AU W Aa H (fun W H => ?_) fun W H => ?_
 ·
  refine vc tk 2 W F fun a w W F => ?_
  obtain ⟨x6, h7, H⟩ := Ac H
  refine ls W F Aa (Be (v := Value.bool x6) W H6 Aa (fun w F => KW any w _ h7)) fun a w W F => ?_
  refine BR tk 3 W F fun a w W F => ?_
  refine Ao (AE ?_)
  have H := Ax H
  subst H
  refine A1 (.inl Aa) W F Aa (Am W Aa) ?_
  exact ⟨rfl, F.done⟩
 refine AB (Ab ?_)
 obtain ⟨o2, G2, K2⟩ := Ac H
 refine Aq (fun a w => ∃ x7 : Bool, some (x7) = some o2 ∧ Fr 49 [] [(12, .bool x7)] a ∧ Stw ⟨Y, [], w0⟩ (Sf b2 v7 v8 x5 b1 p0 v1 v2) [row v7 43 A5 x5.1.1, row v8 46 Jg x5.1.2.1] w) ?_ ?_
 ·
  have H := G2
  clear G2 K2
  refine IL tk 5 [1, 0] W F (ai (ai fun a w W F => ?_))
  obtain ⟨x8, h8, H⟩ := Ac H
  refine A9 (Ml := []) (Zl := []) (β := Value) (rv := fun x => x) (MM := fun x => []) (ZZ := fun x => [row x 41 CJ x8]) W F H8 Aa Aa (fun hL => JE _ w (v1) (v2) (v3) (v4) (v7) (v8) p0 p1 p2 x5.1 _ h8 ((Ad h_v1) w F).nx ((Ad h_v2) w F).nx (Sl.hide CM h1 (F.old s_v3)) ((AN CM h2 (Ad h_v4)) w F).nx ((Af 0 Aa) w F).nx ((Af 1 Aa) w F).nx) fun x a w W F => ?_
  obtain ⟨v9, rfl⟩ : ∃ y, y = x := ⟨x, rfl⟩
  have F : Stw ⟨Y, [], w0⟩ (Sf b2 v7 v8 x5 b1 p0 v1 v2) [row v9 41 CJ x8, row v7 43 A5 x5.1.1, row v8 46 Jg x5.1.2.1] w := F
  refine ls W F Aa (BS (r := CJ) (l := x8) Pf Aa W Aa (Af 0 Aa)).q fun a w W F => ?_
  refine vl tk 2 W F fun a w W F => ?_
  rcases Bool.eq_false_or_eq_true (decide ((x8.length : Int) = 0)) with hb | hb
  ·
   have H := D0 (Fm hb) H
   rw [hb] at W
   clear hb
   refine MB (Ae W Aa Aa Aa Aa) ?_
   obtain ⟨x9, h9, H⟩ := Ac H
   refine ls W F Aa (Be (v := Value.bool x9) W H6 Aa (fun w F => KW any w _ h9)) fun a w W F => ?_
   refine vl tk 3 W F fun a w W F => ?_
   refine Ab ?_
   have F := F.frontZ (i := 2) Aa Aa
   have F := F.frontZ (i := 2) Aa Aa
   have F := F.frontM (i := 1) Aa Aa
   have F := F.frontM (i := 1) Aa Aa
   have F := F.sub (M' := (Sf b2 v7 v8 x5 b1 p0 v1 v2)) (Z' := [row v7 43 A5 x5.1.1, row v8 46 Jg x5.1.2.1]) (List.Sublist.refl _) (List.Sublist.cons_cons _ (List.Sublist.cons_cons _ (List.nil_sublist _)))
   exact ⟨_, H, W.ra Aa, F⟩
  have H := DZ (Fo hb) H
  rw [hb] at W
  clear hb
  refine vl tk 4 W F fun a w W F => ?_
  refine Ab ?_
  have F := F.frontZ (i := 2) Aa Aa
  have F := F.frontZ (i := 2) Aa Aa
  have F := F.frontM (i := 1) Aa Aa
  have F := F.frontM (i := 1) Aa Aa
  have F := F.sub (M' := (Sf b2 v7 v8 x5 b1 p0 v1 v2)) (Z' := [row v7 43 A5 x5.1.1, row v8 46 Jg x5.1.2.1]) (List.Sublist.refl _) (List.Sublist.cons_cons _ (List.Sublist.cons_cons _ (List.nil_sublist _)))
  exact ⟨_, H, W.ra Aa, F⟩
 rintro a w ⟨x7, hj, W, F⟩
 have hj := Ax hj
 subst hj
 have H := K2
 clear G2 K2
 refine Ao ?_
 have H := Ax H
 subst H
 refine A1 (.inl Aa) W F Aa (Am W Aa) ?_
 exact ⟨rfl, F.done⟩
end Go.Proofs.YthhoflfhegfmcaaGreat
