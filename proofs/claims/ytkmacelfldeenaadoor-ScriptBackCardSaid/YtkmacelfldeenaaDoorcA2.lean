/- The functions of layer 39, D9. Conditions: none. -/
import Derived.Test.YtkmacelfldeenaaDoorcA1
namespace Go.Proofs.YtkmacelfldeenaaDoor
open Go Go.RowKit
set_option linter.unusedVariables false
set_option linter.unusedSimpArgs false
set_option maxRecDepth 20000
theorem IV : Has Tryd.prog 18 := ⟨fun args w => Ak Tryd.func18 rfl (by decide) args w⟩
noncomputable def A8 (p0 : List (Int × Int × Int)) : Int → Option (Int ⊕ (Unit ⊕ Bool))
  | x2 => (if x2 < (p0.length : Int) then (ix p0 x2).bind fun x3 => (if (!(Co x3)) = true then (Bz).bind fun x4 => some (.inr (.inr x4)) else some (.inl (CF (x2 + 1)))) else some (.inr (.inl ())))
noncomputable def Ba (p2 : List UInt8) : Int → Option (Int ⊕ (Unit ⊕ Bool))
  | x5 => (if x5 < (p2.length : Int) then (ix p2 x5).bind fun x6 => (if (x6.toNat : Int) = 10 then (Bz).bind fun x7 => some (.inr (.inr x7)) else some (.inl (CF (x5 + 1)))) else some (.inr (.inl ())))
noncomputable def BL (p0 : List (Int × Int × Int)) (p1 : Int) (p2 : List UInt8) : Option Bool := (if (decide (60 < (p0.length : Int)) || (decide (p1 < 0) || (decide ((p0.length : Int) < p1) || decide (100 < (p2.length : Int))))) = true then (Bz).bind fun x1 => some x1 else Ez (AD (A8 p0) 0) fun _ => Ez (AD (Ba p2) 0) fun _ => (CP p0 0 p1).bind fun x8 => (CP p0 p1 (p0.length : Int)).bind fun x9 => (Cf x8).bind fun x10 => (BI x10).bind fun x11 => (Cf x9).bind fun x12 => (BI x12).bind fun x13 => (CR x11 x13).bind fun x14 => (AN x14).bind fun x15 => (CR x11 ([35] : List UInt8)).bind fun x16 => (CR x16 p2).bind fun x17 => (CR x17 ([10, 10] : List UInt8)).bind fun x18 => (CR x18 x13).bind fun x19 => (AN x19).bind fun x20 => (if x15.2.2 = 0 then (CB x15.1 p0).bind fun x22 => (if x22 = true then (if x20.2.2 = 0 then (CB x20.1 p0).bind fun x23 => (if x23 = true then (Bz).bind fun x24 => some x24 else some false) else some false) else some false) else some false).bind fun x21 => some x21)
theorem DE (Y : Nat → Prop) (w0 : World) (v1 : Value) (p0 : List (Int × Int × Int)) (p1 : Int) (p2 : List UInt8) (r : Bool) (H : BL p0 p1 p2 = some r) (h_v1 : Sl w0 (NX []) F9 v1 p0) (hG : Gk [] w0) :
    Calls Tryd.prog 4 #[v1, .int .i64 p1, .string (bs p2)] w0 fun e w' => e = .returned (.bool r) ∧ Below w0.heap.size w0 w' := by
 refine enter Tryd.func4 Aa Tryd.ntmps4 Aa fun a F => ?_
 have W := Stw.start Y w0
 unfold BL at H
 refine Ah (Ac ?_)
 refine ls F W Aa (Ad F Aa).q fun a w F W => ?_
 refine Ae (Ab (Ah ?_))
 refine AX (fun a w => Fr 109 [] [(0, v1), (1, .int .i64 p1), (2, .string (bs p2)), (6, .bool false), (34, .bool (decide (60 < (p0.length : Int)) || (decide (p1 < 0) || (decide ((p0.length : Int) < p1) || decide (100 < (p2.length : Int))))))] a ∧ Stw ⟨Y, [], w0⟩ [] [] w) ?_ ?_
 ·
  refine Ac ?_
  refine ls F W Aa (Af F Aa).q fun a w F W => ?_
  refine ls F W Aa (CV (r := F9) (l := p0) GT Aa F Aa (A6 h_v1)).q fun a w F W => ?_
  refine ls F W Aa (EI F Aa Aa).q fun a w F W => ?_
  refine ls F W Aa (Af F Aa).q fun a w F W => ?_
  rcases Bool.eq_false_or_eq_true (decide (60 < (p0.length : Int))) with hb0 | hb0
  ·
   rw [hb0] at F
   iterate 2 refine Bd F Aa Aa Aa Aa Aa Aa Aa fun a F => ?_
   refine ls F W Aa (Al F Aa Aa Aa).q fun a w F W => ?_
   refine ls F W Aa (Af F Aa).q fun a w F W => ?_
   iterate 4 refine Bd F Aa Aa Aa Aa Aa Aa Aa fun a F => ?_
   refine ls F W Aa (Al F Aa Aa Aa).q fun a w F W => ?_
   refine ls F W Aa (Af F Aa).q fun a w F W => ?_
   iterate 3 refine Bd F Aa Aa Aa Aa Aa Aa Aa fun a F => ?_
   refine ls F W Aa (Al F Aa Aa Aa).q fun a w F W => ?_
   refine Ae (Ab ?_)
   exact ⟨F.re ⟨rfl, Aa, Aa, Aa, (by show some (Value.bool true) = some (Value.bool (decide (60 < (p0.length : Int)) || (decide (p1 < 0) || (decide ((p0.length : Int) < p1) || decide (100 < (p2.length : Int)))))); try rw [hb0]; all_goals simp only [Bool.not_true, Bool.not_false, Bool.true_and, Bool.false_and, Bool.true_or, Bool.false_or, Bool.and_true, Bool.or_false, cond_true, cond_false]), trivial⟩, W⟩
  rw [hb0] at F
  refine As F W (Ag F Aa Aa Aa Aa) Aa (An Aa) (Af F Aa).q fun a w F W => ?_
  refine As F W (Ag F Aa Aa Aa Aa) Aa (An Aa) (CO F Aa Aa).q fun a w F W => ?_
  refine ls F W Aa (Aj F Aa Aa Aa).q fun a w F W => ?_
  refine ls F W Aa (Af F Aa).q fun a w F W => ?_
  rcases Bool.eq_false_or_eq_true (decide (p1 < 0)) with hb1 | hb1
  ·
   rw [hb1] at F
   iterate 4 refine Bd F Aa Aa Aa Aa Aa Aa Aa fun a F => ?_
   refine ls F W Aa (Al F Aa Aa Aa).q fun a w F W => ?_
   refine ls F W Aa (Af F Aa).q fun a w F W => ?_
   iterate 3 refine Bd F Aa Aa Aa Aa Aa Aa Aa fun a F => ?_
   refine ls F W Aa (Al F Aa Aa Aa).q fun a w F W => ?_
   refine Ae (Ab ?_)
   exact ⟨F.re ⟨rfl, Aa, Aa, Aa, (by show some (Value.bool true) = some (Value.bool (decide (60 < (p0.length : Int)) || (decide (p1 < 0) || (decide ((p0.length : Int) < p1) || decide (100 < (p2.length : Int)))))); try rw [hb0]; try rw [hb1]; all_goals simp only [Bool.not_true, Bool.not_false, Bool.true_and, Bool.false_and, Bool.true_or, Bool.false_or, Bool.and_true, Bool.or_false, cond_true, cond_false]), trivial⟩, W⟩
  rw [hb1] at F
  iterate 2 refine As F W (Ag F Aa Aa Aa Aa) Aa (An Aa) (Af F Aa).q fun a w F W => ?_
  refine As F W (Ag F Aa Aa Aa Aa) Aa (An Aa) (CV (r := F9) (l := p0) GT Aa F Aa (A6 h_v1)).q fun a w F W => ?_
  refine As F W (Ag F Aa Aa Aa Aa) Aa (An Aa) (EI F Aa Aa).q fun a w F W => ?_
  refine ls F W Aa (Aj F Aa Aa Aa).q fun a w F W => ?_
  refine ls F W Aa (Af F Aa).q fun a w F W => ?_
  rcases Bool.eq_false_or_eq_true (decide ((p0.length : Int) < p1)) with hb2 | hb2
  ·
   rw [hb2] at F
   iterate 3 refine Bd F Aa Aa Aa Aa Aa Aa Aa fun a F => ?_
   refine ls F W Aa (Al F Aa Aa Aa).q fun a w F W => ?_
   refine Ae (Ab ?_)
   exact ⟨F.re ⟨rfl, Aa, Aa, Aa, (by show some (Value.bool true) = some (Value.bool (decide (60 < (p0.length : Int)) || (decide (p1 < 0) || (decide ((p0.length : Int) < p1) || decide (100 < (p2.length : Int)))))); try rw [hb0]; try rw [hb2]; try rw [hb1]; all_goals simp only [Bool.not_true, Bool.not_false, Bool.true_and, Bool.false_and, Bool.true_or, Bool.false_or, Bool.and_true, Bool.or_false, cond_true, cond_false]), trivial⟩, W⟩
  rw [hb2] at F
  refine As F W (Ag F Aa Aa Aa Aa) Aa (An Aa) (Af F Aa).q fun a w F W => ?_
  refine As F W (Ag F Aa Aa Aa Aa) Aa (An Aa) (Eu (l := p2) HE Aa F Aa).q fun a w F W => ?_
  refine As F W (Ag F Aa Aa Aa Aa) Aa (An Aa) (EI F Aa Aa).q fun a w F W => ?_
  refine ls F W Aa (Aj F Aa Aa Aa).q fun a w F W => ?_
  refine Ae (Ab ?_)
  exact ⟨F.re ⟨rfl, Aa, Aa, Aa, (by show some (Value.bool (decide (100 < (p2.length : Int)))) = some (Value.bool (decide (60 < (p0.length : Int)) || (decide (p1 < 0) || (decide ((p0.length : Int) < p1) || decide (100 < (p2.length : Int)))))); try rw [hb0]; try rw [hb2]; try rw [hb1]; all_goals simp only [Bool.not_true, Bool.not_false, Bool.true_and, Bool.false_and, Bool.true_or, Bool.false_or, Bool.and_true, Bool.or_false, cond_true, cond_false]), trivial⟩, W⟩
 rintro a w ⟨F, W⟩
 refine Av F Aa (fun hb => ?_) fun hb => ?_
 ·
  have H := AF hb H
  rw [hb] at F
  clear hb
  refine Ah (Ac ?_)
  obtain ⟨x1, h1, H⟩ := Ap H
  refine ls F W Aa (AM (v := Value.bool x1) F H5 Aa (fun w W => Cn any w _ h1 (hG.go0 W))) fun a w F W => ?_
  refine ls F W Aa (Ad F Aa).q fun a w F W => ?_
  refine Ae (Ab (Aw (AA ?_)))
  have H := Bv H
  subst H
  refine AO (.inl Aa) F W Aa (Au F Aa) ?_
  exact ⟨rfl, W.done⟩
 have H := AG (by rw [hb]; decide) H
 rw [hb] at F
 clear hb
 refine Ay (Ab ?_)
 obtain ⟨o1, G1, K1, L1⟩ := Hq H
 refine AX (fun a w => some (Sum.inl ()) = some o1 ∧ Fr 109 [] [(0, v1), (1, .int .i64 p1), (2, .string (bs p2)), (6, .bool false)] a ∧ Stw ⟨Y, [], w0⟩ [] [] w) ?_ ?_
 ·
  have H := G1
  clear G1 K1
  refine Ah (Ac ?_)
  refine ls F W Aa (Ad F Aa).q fun a w F W => ?_
  refine Ae (Ab (AK ?_))
  refine B8 H (fun s a w => Fr 109 [] [(0, v1), (1, .int .i64 p1), (2, .string (bs p2)), (6, .bool false), (7, .int .i64 s)] a ∧ Stw ⟨Y, [], w0⟩ [] [] w) ⟨F.re ⟨rfl, Aa, Aa, Aa, Aa, trivial⟩, W⟩ fun s o a w H L2 hR => ?_
  obtain ⟨x2, rfl⟩ : ∃ x, x = s := ⟨s, rfl⟩
  obtain ⟨F, W⟩ := hR
  have F : Fr 109 [] [(0, v1), (1, .int .i64 p1), (2, .string (bs p2)), (6, .bool false), (7, .int .i64 x2)] a := F
  have W : Stw ⟨Y, [], w0⟩ [] [] w := W
  rw [A8] at H
  refine Ah (Ah (Ac ?_))
  iterate 2 refine ls F W Aa (Af F Aa).q fun a w F W => ?_
  refine ls F W Aa (CV (r := F9) (l := p0) GT Aa F Aa (A6 h_v1)).q fun a w F W => ?_
  refine ls F W Aa (CO F Aa Aa).q fun a w F W => ?_
  refine Ae (Ab ?_)
  refine Av F Aa (fun hb => ?_) fun hb => ?_
  ·
   have H := AF (A3 hb) H
   rw [hb] at F
   clear hb
   refine Ay (Ab (Ah (AK (Ah (Ac ?_)))))
   iterate 2 refine ls F W Aa (Af F Aa).q fun a w F W => ?_
   obtain ⟨x3, h2, H⟩ := Ap H
   refine ls F W Aa (BZ (r := F9) Ip F Aa Aa (A6 h_v1) h2).q fun a w F W => ?_
   refine ls F W Aa (Bo (y := Value.agg #[.int .i64 x3.1, .int .i64 x3.2.1, .int .i64 x3.2.2]) (j := 0) (i := x2) F Aa Aa (A6 h_v1) h2 IJ.to IK Aa).q fun a w F W => ?_
   refine ls F W Aa (AM (v := Value.bool (Co x3)) F Ja Aa (fun w W => Gu any w x3 _ Aa)) fun a w F W => ?_
   refine ls F W Aa (Fc F Aa).q fun a w F W => ?_
   refine Ae (Ab ?_)
   refine Av F Aa (fun hb => ?_) fun hb => ?_
   ·
    have H := AF hb H
    rw [hb] at F
    clear hb
    refine Ah (Ac ?_)
    obtain ⟨x4, h3, H⟩ := Ap H
    refine ls F W Aa (AM (v := Value.bool x4) F H5 Aa (fun w W => Cn any w _ h3 (hG.go0 W))) fun a w F W => ?_
    refine ls F W Aa (Ad F Aa).q fun a w F W => ?_
    refine Ae (Ab (Aw (AB ?_)))
    iterate 2 refine AA ?_
    refine AB (AA ?_)
    have H := L2 _ H
    have H := L1 _ H
    have H := Bv H
    subst H
    refine AO (.inl Aa) F W Aa (Au F Aa) ?_
    exact ⟨rfl, W.done⟩
   have H := AG (by rw [hb]; decide) H
   rw [hb] at F
   clear hb
   refine Ay (Bm (Ab (Ac ?_)))
   refine ls F W Aa (Af F Aa).q fun a w F W => ?_
   refine ls F W Aa (CL F Aa Aa Aa).q fun a w F W => ?_
   refine ls F W Aa (Ad F Aa).q fun a w F W => ?_
   refine Ae (Ab ?_)
   exact ⟨_, H, F.re ⟨rfl, Aa, Aa, Aa, Aa, trivial⟩, W⟩
  have H := AG (A2 hb) H
  rw [hb] at F
  clear hb
  refine BU ?_
  iterate 2 refine Cq ?_
  refine BW (Ab ?_)
  have H := L2 _ H
  exact ⟨H, F.re ⟨rfl, Aa, Aa, Aa, trivial⟩, W⟩
 rintro a w ⟨hj, F, W⟩
 have H := K1 _ hj
 clear hj G1 K1 L1
 obtain ⟨o3, G3, K3, L3⟩ := Hq H
 refine AX (fun a w => some (Sum.inl ()) = some o3 ∧ Fr 109 [] [(0, v1), (1, .int .i64 p1), (2, .string (bs p2)), (6, .bool false)] a ∧ Stw ⟨Y, [], w0⟩ [] [] w) ?_ ?_
 ·
  have H := G3
  clear G3 K3
  refine Ah (Ac ?_)
  refine ls F W Aa (Ad F Aa).q fun a w F W => ?_
  refine Ae (Ab (AK ?_))
  refine B8 H (fun s a w => Fr 109 [] [(0, v1), (1, .int .i64 p1), (2, .string (bs p2)), (6, .bool false), (8, .int .i64 s)] a ∧ Stw ⟨Y, [], w0⟩ [] [] w) ⟨F.re ⟨rfl, Aa, Aa, Aa, Aa, trivial⟩, W⟩ fun s o a w H L4 hR => ?_
  obtain ⟨x5, rfl⟩ : ∃ x, x = s := ⟨s, rfl⟩
  obtain ⟨F, W⟩ := hR
  have F : Fr 109 [] [(0, v1), (1, .int .i64 p1), (2, .string (bs p2)), (6, .bool false), (8, .int .i64 x5)] a := F
  have W : Stw ⟨Y, [], w0⟩ [] [] w := W
  rw [Ba] at H
  refine Ah (Ah (Ac ?_))
  iterate 2 refine ls F W Aa (Af F Aa).q fun a w F W => ?_
  refine ls F W Aa (Eu (l := p2) HE Aa F Aa).q fun a w F W => ?_
  refine ls F W Aa (CO F Aa Aa).q fun a w F W => ?_
  refine Ae (Ab ?_)
  refine Av F Aa (fun hb => ?_) fun hb => ?_
  ·
   have H := AF (A3 hb) H
   rw [hb] at F
   clear hb
   refine Ay (Ab (Ah (AK (Ah (Ac ?_)))))
   iterate 2 refine ls F W Aa (Af F Aa).q fun a w F W => ?_
   obtain ⟨x6, h4, H⟩ := Ap H
   refine ls F W Aa (Dz (l := p2) HE F Aa Aa h4).q fun a w F W => ?_
   refine ls F W Aa (AP F Aa Aa).q fun a w F W => ?_
   refine Ae (Ab ?_)
   refine Av F Aa (fun hb => ?_) fun hb => ?_
   ·
    have H := AF (A3 hb) H
    rw [hb] at F
    clear hb
    refine Ah (Ac ?_)
    obtain ⟨x7, h5, H⟩ := Ap H
    refine ls F W Aa (AM (v := Value.bool x7) F H5 Aa (fun w W => Cn any w _ h5 (hG.go0 W))) fun a w F W => ?_
    refine ls F W Aa (Ad F Aa).q fun a w F W => ?_
    refine Ae (Ab (Aw (AB ?_)))
    iterate 2 refine AA ?_
    refine AB (AA ?_)
    have H := L4 _ H
    have H := L3 _ H
    have H := Bv H
    subst H
    refine AO (.inl Aa) F W Aa (Au F Aa) ?_
    exact ⟨rfl, W.done⟩
   have H := AG (A2 hb) H
   rw [hb] at F
   clear hb
   refine Ay (Bm (Ab (Ac ?_)))
   refine ls F W Aa (Af F Aa).q fun a w F W => ?_
   refine ls F W Aa (CL F Aa Aa Aa).q fun a w F W => ?_
   refine ls F W Aa (Ad F Aa).q fun a w F W => ?_
   refine Ae (Ab ?_)
   exact ⟨_, H, F.re ⟨rfl, Aa, Aa, Aa, Aa, trivial⟩, W⟩
  have H := AG (A2 hb) H
  rw [hb] at F
  clear hb
  refine BU ?_
  iterate 2 refine Cq ?_
  refine BW (Ab ?_)
  have H := L4 _ H
  exact ⟨H, F.re ⟨rfl, Aa, Aa, Aa, trivial⟩, W⟩
 rintro a w ⟨hj, F, W⟩
 have H := K3 _ hj
 clear hj G3 K3 L3
 refine Ah ?_
 refine Fk [(true, 0), (true, 1), (true, 2), (true, 5), (true, 6), (true, 7), (false, 3), (false, 4), (false, 8), (false, 9), (false, 10), (false, 11)] (CN ⟨Y, [], w0⟩ [] []) (fun ch a d v w h => by cases d <;> exact h) MO (by kernel_rfl) W (fun w W => ⟨_, _, W, AQ, AQ⟩) fun w W => ?_
 iterate 2 refine Fa (R := []) F Aa Aa (yC fun M Z hN hZ => Af F Aa) Aa Aa fun a F => ?_
 obtain ⟨x8, h6, H⟩ := Ap H
 refine Fa (R := []) F Aa Aa (yC fun M Z hN hZ => Gb (r := F9) Ip F Aa Aa Aa (A6 h_v1) h6) Aa Aa fun a F => ?_
 iterate 2 refine Fa (R := []) F Aa Aa (yC fun M Z hN hZ => Af F Aa) Aa Aa fun a F => ?_
 obtain ⟨x9, h7, H⟩ := Ap H
 refine Fa (R := []) F Aa Aa (yC fun M Z hN hZ => Gb (r := F9) Ip F Aa Aa Aa (A6 h_v1) h7) Aa Aa fun a F => ?_
 refine E1 Aa ?_
 obtain ⟨x10, h8, H⟩ := Ap H
 refine BC (Ml := []) (Zl := []) (M := []) (Z := []) (β := Value) (rv := fun x => x) (MM := fun x => []) (ZZ := fun x => [row x 26 BD x10]) F W Iv Aa Aa (fun hL => Dk _ w ((BJ v1 (0 : Int) p1 3)) x8 _ h8 ((Gc (A6 h_v1) h6) w W).nx) fun x a w F W => ?_
 obtain ⟨v2, rfl⟩ : ∃ y, y = x := ⟨x, rfl⟩
 have W : Stw ⟨Y, [], w0⟩ [] [row v2 26 BD x10] w := W
 refine Cb (N2 := []) (NZ2 := []) (N3 := []) (NZ3 := []) W Aa Aa AQ AQ ?_
 refine E1 Aa ?_
 obtain ⟨x11, h9, H⟩ := Ap H
 refine ls F W Aa (AM (v := Value.string (bs x11)) F IU Aa (fun w W => Dc any w (v2) x10 _ h9 (((AV 0 Aa) : FT _ _ _ _ _ _) w W).nx (hG.go0 W))) fun a w F W => ?_
 refine Cb (N2 := []) (NZ2 := []) (N3 := []) (NZ3 := []) W Aa Aa AQ AQ ?_
 refine E1 Aa ?_
 obtain ⟨x12, h10, H⟩ := Ap H
 refine BC (Ml := []) (Zl := []) (M := []) (Z := [row v2 26 BD x10]) (β := Value) (rv := fun x => x) (MM := fun x => []) (ZZ := fun x => [row x 26 BD x12]) F W Iv Aa Aa (fun hL => Dk _ w ((BJ v1 p1 (p0.length : Int) 3)) x9 _ h10 ((Gc (A6 h_v1) h7) w W).nx) fun x a w F W => ?_
 obtain ⟨v3, rfl⟩ : ∃ y, y = x := ⟨x, rfl⟩
 have W : Stw ⟨Y, [], w0⟩ [] [row v3 26 BD x12, row v2 26 BD x10] w := W
 refine Cb (N2 := []) (NZ2 := []) (N3 := []) (NZ3 := []) W Aa Aa AQ AQ ?_
 refine E1 Aa ?_
 obtain ⟨x13, h11, H⟩ := Ap H
 refine ls F W Aa (AM (v := Value.string (bs x13)) F IU Aa (fun w W => Dc any w (v3) x12 _ h11 (((AV 0 Aa) : FT _ _ _ _ _ _) w W).nx (hG.go0 W))) fun a w F W => ?_
 refine Cb (N2 := []) (NZ2 := []) (N3 := []) (NZ3 := []) W Aa Aa AQ AQ ?_
 refine E1 Aa ?_
 refine ls F W Aa (Ad F Aa).q fun a w F W => ?_
 refine Cb (N2 := []) (NZ2 := []) (N3 := []) (NZ3 := []) W Aa Aa AQ AQ ?_
 refine E1 Aa ?_
 refine ls F W Aa (Ad F Aa).q fun a w F W => ?_
 refine Cb (N2 := []) (NZ2 := []) (N3 := []) (NZ3 := []) W Aa Aa AQ AQ ?_
 refine GL (Ab (Ah (Ac ?_)))
 iterate 2 refine ls F W Aa (Af F Aa).q fun a w F W => ?_
 obtain ⟨x14, h12, H⟩ := Ap H
 refine ls F W Aa (C0 (l := x11) (m := x13) F Aa Aa h12).q fun a w F W => ?_
 obtain ⟨x15, h13, H⟩ := Ap H
 refine BC (Ml := []) (Zl := []) (M := []) (Z := [row v3 26 BD x12, row v2 26 BD x10]) (β := Value) (rv := fun x => .tuple #[x, .int .i64 x15.2.1, .int .i64 x15.2.2]) (MM := fun x => []) (ZZ := fun x => [row x 26 BD x15.1]) F W IG Aa Aa (fun hL => Ch _ w x14 _ h13 (hG.go0 W)) fun x a w F W => ?_
 obtain ⟨v4, rfl⟩ : ∃ y, y = x := ⟨x, rfl⟩
 have W : Stw ⟨Y, [], w0⟩ [] [row v4 26 BD x15.1, row v3 26 BD x12, row v2 26 BD x10] w := W
 refine ls F W Aa (Af F Aa).q fun a w F W => ?_
 refine ls F W Aa (AR (v := v4) F Aa Aa).q fun a w F W => ?_
 refine ls F W Aa (AR (v := Value.int .i64 x15.2.1) F Aa Aa).q fun a w F W => ?_
 refine ls F W Aa (AR (v := Value.int .i64 x15.2.2) F Aa Aa).q fun a w F W => ?_
 iterate 3 refine ls F W Aa (Ad F Aa).q fun a w F W => ?_
 refine Ae (Ab (Ah (Ac ?_)))
 refine ls F W Aa (Af F Aa).q fun a w F W => ?_
 obtain ⟨x16, h14, H⟩ := Ap H
 refine ls F W Aa (C0 (l := x11) (m := ([35] : List UInt8)) F Aa Aa h14).q fun a w F W => ?_
 refine ls F W Aa (Af F Aa).q fun a w F W => ?_
 obtain ⟨x17, h15, H⟩ := Ap H
 refine ls F W Aa (C0 (l := x16) (m := p2) F Aa Aa h15).q fun a w F W => ?_
 obtain ⟨x18, h16, H⟩ := Ap H
 refine ls F W Aa (C0 (l := x17) (m := ([10, 10] : List UInt8)) F Aa Aa h16).q fun a w F W => ?_
 refine ls F W Aa (Af F Aa).q fun a w F W => ?_
 obtain ⟨x19, h17, H⟩ := Ap H
 refine ls F W Aa (C0 (l := x18) (m := x13) F Aa Aa h17).q fun a w F W => ?_
 obtain ⟨x20, h18, H⟩ := Ap H
 refine BC (Ml := []) (Zl := []) (M := []) (Z := [row v4 26 BD x15.1, row v3 26 BD x12, row v2 26 BD x10]) (β := Value) (rv := fun x => .tuple #[x, .int .i64 x20.2.1, .int .i64 x20.2.2]) (MM := fun x => []) (ZZ := fun x => [row x 26 BD x20.1]) F W IG Aa Aa (fun hL => Ch _ w x19 _ h18 (hG.go0 W)) fun x a w F W => ?_
 obtain ⟨v5, rfl⟩ : ∃ y, y = x := ⟨x, rfl⟩
 have W : Stw ⟨Y, [], w0⟩ [] [row v5 26 BD x20.1, row v4 26 BD x15.1, row v3 26 BD x12, row v2 26 BD x10] w := W
 refine ls F W Aa (Af F Aa).q fun a w F W => ?_
 refine ls F W Aa (AR (v := v5) F Aa Aa).q fun a w F W => ?_
 refine ls F W Aa (AR (v := Value.int .i64 x20.2.1) F Aa Aa).q fun a w F W => ?_
 refine ls F W Aa (AR (v := Value.int .i64 x20.2.2) F Aa Aa).q fun a w F W => ?_
 iterate 3 refine ls F W Aa (Ad F Aa).q fun a w F W => ?_
 refine Ae (Ab ?_)
 obtain ⟨o5, G5, K5⟩ := Ap H
 refine AX (fun a w => ∃ x21 : Bool, some (x21) = some o5 ∧ Fr 109 [] [(6, .bool x21)] a ∧ Stw ⟨Y, [], w0⟩ [] [] w) ?_ ?_
 ·
  have H := G5
  clear G5 K5
  refine Ac ?_
  refine ls F W Aa (Af F Aa).q fun a w F W => ?_
  refine ls F W Aa (AP F Aa Aa).q fun a w F W => ?_
  refine ls F W Aa (Af F Aa).q fun a w F W => ?_
  rcases Bool.eq_false_or_eq_true (decide (x15.2.2 = 0)) with hb | hb
  ·
   have H := AF (A3 hb) H
   rw [hb] at F
   clear hb
   iterate 2 refine As F W (Ag F Aa Aa Aa Aa) Aa (An Aa) (Af F Aa).q fun a w F W => ?_
   refine FJ (Ag F Aa Aa Aa Aa) ?_
   obtain ⟨x22, h19, H⟩ := Ap H
   refine ls F W Aa (AM (v := Value.bool x22) F IV Aa (fun w W => D7 any w (v4) (v1) x15.1 p0 _ h19 (((AV 1 Aa) : FT _ _ _ _ _ _) w W).nx (((A6 h_v1) : FT _ _ _ _ _ _) w W).nx)) fun a w F W => ?_
   refine ls F W Aa (Al F Aa Aa Aa).q fun a w F W => ?_
   refine ls F W Aa (Af F Aa).q fun a w F W => ?_
   rcases Bool.eq_false_or_eq_true x22 with hb | hb
   ·
    have H := AF hb H
    rw [hb] at F
    clear hb
    refine As F W (Ag F Aa Aa Aa Aa) Aa (An Aa) (Af F Aa).q fun a w F W => ?_
    refine As F W (Ag F Aa Aa Aa Aa) Aa (An Aa) (AP F Aa Aa).q fun a w F W => ?_
    refine ls F W Aa (Al F Aa Aa Aa).q fun a w F W => ?_
    refine ls F W Aa (Af F Aa).q fun a w F W => ?_
    rcases Bool.eq_false_or_eq_true (decide (x20.2.2 = 0)) with hb | hb
    ·
     have H := AF (A3 hb) H
     rw [hb] at F
     clear hb
     iterate 2 refine As F W (Ag F Aa Aa Aa Aa) Aa (An Aa) (Af F Aa).q fun a w F W => ?_
     refine FJ (Ag F Aa Aa Aa Aa) ?_
     obtain ⟨x23, h20, H⟩ := Ap H
     refine ls F W Aa (AM (v := Value.bool x23) F IV Aa (fun w W => D7 any w (v5) (v1) x20.1 p0 _ h20 (((AV 0 Aa) : FT _ _ _ _ _ _) w W).nx (((A6 h_v1) : FT _ _ _ _ _ _) w W).nx)) fun a w F W => ?_
     refine ls F W Aa (Al F Aa Aa Aa).q fun a w F W => ?_
     refine ls F W Aa (Af F Aa).q fun a w F W => ?_
     rcases Bool.eq_false_or_eq_true x23 with hb | hb
     ·
      have H := AF hb H
      rw [hb] at F
      clear hb
      refine FJ (Ag F Aa Aa Aa Aa) ?_
      obtain ⟨x24, h21, H⟩ := Ap H
      refine ls F W Aa (AM (v := Value.bool x24) F H5 Aa (fun w W => Cn any w _ h21 (hG.go0 W))) fun a w F W => ?_
      refine ls F W Aa (Al F Aa Aa Aa).q fun a w F W => ?_
      refine ls F W Aa (Ad F Aa).q fun a w F W => ?_
      refine Ae (Ab ?_)
      have W := W.sub (M' := []) (Z' := []) (List.Sublist.refl _) (List.nil_sublist _)
      exact ⟨_, H, F.re ⟨rfl, trivial⟩, W⟩
     have H := AG (by rw [hb]; decide) H
     rw [hb] at F
     clear hb
     refine Bd F Aa Aa Aa Aa Aa Aa Aa fun a F => ?_
     refine ls F W Aa (Aj F Aa Aa Aa).q fun a w F W => ?_
     refine ls F W Aa (Ad F Aa).q fun a w F W => ?_
     refine Ae (Ab ?_)
     have W := W.sub (M' := []) (Z' := []) (List.Sublist.refl _) (List.nil_sublist _)
     exact ⟨_, H, F.re ⟨rfl, trivial⟩, W⟩
    have H := AG (A2 hb) H
    rw [hb] at F
    clear hb
    iterate 3 refine Bd F Aa Aa Aa Aa Aa Aa Aa fun a F => ?_
    refine ls F W Aa (Aj F Aa Aa Aa).q fun a w F W => ?_
    refine ls F W Aa (Af F Aa).q fun a w F W => ?_
    refine Bd F Aa Aa Aa Aa Aa Aa Aa fun a F => ?_
    refine ls F W Aa (Aj F Aa Aa Aa).q fun a w F W => ?_
    refine ls F W Aa (Ad F Aa).q fun a w F W => ?_
    refine Ae (Ab ?_)
    have W := W.sub (M' := []) (Z' := []) (List.Sublist.refl _) (List.nil_sublist _)
    exact ⟨_, H, F.re ⟨rfl, trivial⟩, W⟩
   have H := AG (by rw [hb]; decide) H
   rw [hb] at F
   clear hb
   iterate 2 refine Bd F Aa Aa Aa Aa Aa Aa Aa fun a F => ?_
   refine ls F W Aa (Aj F Aa Aa Aa).q fun a w F W => ?_
   refine ls F W Aa (Af F Aa).q fun a w F W => ?_
   iterate 3 refine Bd F Aa Aa Aa Aa Aa Aa Aa fun a F => ?_
   refine ls F W Aa (Aj F Aa Aa Aa).q fun a w F W => ?_
   refine ls F W Aa (Af F Aa).q fun a w F W => ?_
   refine Bd F Aa Aa Aa Aa Aa Aa Aa fun a F => ?_
   refine ls F W Aa (Aj F Aa Aa Aa).q fun a w F W => ?_
   refine ls F W Aa (Ad F Aa).q fun a w F W => ?_
   refine Ae (Ab ?_)
   have W := W.sub (M' := []) (Z' := []) (List.Sublist.refl _) (List.nil_sublist _)
   exact ⟨_, H, F.re ⟨rfl, trivial⟩, W⟩
  have H := AG (A2 hb) H
  rw [hb] at F
  clear hb
  iterate 3 refine Bd F Aa Aa Aa Aa Aa Aa Aa fun a F => ?_
  refine ls F W Aa (Aj F Aa Aa Aa).q fun a w F W => ?_
  refine ls F W Aa (Af F Aa).q fun a w F W => ?_
  iterate 2 refine Bd F Aa Aa Aa Aa Aa Aa Aa fun a F => ?_
  refine ls F W Aa (Aj F Aa Aa Aa).q fun a w F W => ?_
  refine ls F W Aa (Af F Aa).q fun a w F W => ?_
  iterate 3 refine Bd F Aa Aa Aa Aa Aa Aa Aa fun a F => ?_
  refine ls F W Aa (Aj F Aa Aa Aa).q fun a w F W => ?_
  refine ls F W Aa (Af F Aa).q fun a w F W => ?_
  refine Bd F Aa Aa Aa Aa Aa Aa Aa fun a F => ?_
  refine ls F W Aa (Aj F Aa Aa Aa).q fun a w F W => ?_
  refine ls F W Aa (Ad F Aa).q fun a w F W => ?_
  refine Ae (Ab ?_)
  have W := W.sub (M' := []) (Z' := []) (List.Sublist.refl _) (List.nil_sublist _)
  exact ⟨_, H, F.re ⟨rfl, trivial⟩, W⟩
 rintro a w ⟨x21, hj, F, W⟩
 have hj := Bv hj
 subst hj
 have H := K5
 clear G5 K5
 refine Aw ?_
 have H := Bv H
 subst H
 refine AO (.inl Aa) F W Aa (Au F Aa) ?_
 exact ⟨rfl, W.done⟩
end Go.Proofs.YtkmacelfldeenaaDoor
