/- The functions of layer 40, GQ. Conditions: none. -/
import Derived.Test.YthmkgdnnocemmaaGreatDoorbA2
namespace Go.Proofs.YthmkgdnnocemmaaGreatDoor
open Go Go.RowKit
set_option linter.unusedVariables false
set_option linter.unusedSimpArgs false
set_option maxRecDepth 20000
theorem H6 : Has Tryz.prog 6 := ⟨fun args w => Af Tryz.func6 rfl (by decide) args w⟩
theorem SK (dd : Nat) (x0 : Int) (x1 : Int) (x2 : Int) (x3 : Int) (x4 : Int) (x5 : Int) (y0 : Int) (y1 : Int) (y2 : Int) (y3 : Int) (y4 : Int) (y5 : Int) (w : World) : (Op.equalIn (dd + 2) 50 (.agg #[.int .i64 x0, .int .i64 x1, .int .i64 x2, .int .i64 x3, .int .i64 x4, .int .i64 x5]) (.agg #[.int .i64 y0, .int .i64 y1, .int .i64 y2, .int .i64 y3, .int .i64 y4, .int .i64 y5])).run Tryz.prog w = .ok (decide (x0 = y0 ∧ x1 = y1 ∧ x2 = y2 ∧ x3 = y3 ∧ x4 = y4 ∧ x5 = y5)) w :=
  KS (d := dd + 1) (rs := [decide (x0 = y0), decide (x1 = y1), decide (x2 = y2), decide (x3 = y3), decide (x4 = y4), decide (x5 = y5)]) R3 (by kernel_rfl) ⟨rfl, Gm (d := dd + 0) rfl rfl Lm T3 rfl rfl, rfl, Gm (d := dd + 0) rfl rfl Lm T3 rfl rfl, rfl, Gm (d := dd + 0) rfl rfl Lm T3 rfl rfl, rfl, Gm (d := dd + 0) rfl rfl Lm T3 rfl rfl, rfl, Gm (d := dd + 0) rfl rfl Lm T3 rfl rfl, rfl, Gm (d := dd + 0) rfl rfl Lm T3 rfl rfl, trivial⟩ (by simp) w
theorem S9 : Tryz.prog.eqGuardType Tryz.prog.depth 50 = false := by kernel_rfl
theorem Th (x0 : Int) (x1 : Int) (x2 : Int) (x3 : Int) (x4 : Int) (x5 : Int) (y0 : Int) (y1 : Int) (y2 : Int) (y3 : Int) (y4 : Int) (y5 : Int) (w : World) : (Op.equalIn 10000 50 (.agg #[.int .i64 x0, .int .i64 x1, .int .i64 x2, .int .i64 x3, .int .i64 x4, .int .i64 x5]) (.agg #[.int .i64 y0, .int .i64 y1, .int .i64 y2, .int .i64 y3, .int .i64 y4, .int .i64 y5])).run Tryz.prog w = .ok (decide (x0 = y0 ∧ x1 = y1 ∧ x2 = y2 ∧ x3 = y3 ∧ x4 = y4 ∧ x5 = y5)) w := SK 9998 x0 x1 x2 x3 x4 x5 y0 y1 y2 y3 y4 y5 w
noncomputable def AW (p0 : List (Int × Int × Int × Int × Int × Int)) (p1 : List (Int × Int × Int × Int × Int × Int)) : Int → Option (Int ⊕ (Unit ⊕ Bool))
  | x1 => (if x1 < (p0.length : Int) then (ix p0 x1).bind fun x2 => (ix p1 x1).bind fun x3 => (if (!(decide (x2.1 = x3.1 ∧ x2.2.1 = x3.2.1 ∧ x2.2.2.1 = x3.2.2.1 ∧ x2.2.2.2.1 = x3.2.2.2.1 ∧ x2.2.2.2.2.1 = x3.2.2.2.2.1 ∧ x2.2.2.2.2.2 = x3.2.2.2.2.2))) = true then some (.inr (.inr false)) else some (.inl (BD (x1 + 1)))) else some (.inr (.inl ())))
noncomputable def Bu (p0 : List (Int × Int × Int × Int × Int × Int)) (p1 : List (Int × Int × Int × Int × Int × Int)) : Option Bool := (if (p0.length : Int) ≠ (p1.length : Int) then some false else ES (Av (AW p0 p1) 0) fun _ => some true)
theorem EQ (Y : Nat → Prop) (w0 : World) (v1 : Value) (v2 : Value) (p0 : List (Int × Int × Int × Int × Int × Int)) (p1 : List (Int × Int × Int × Int × Int × Int)) (r : Bool) (H : Bu p0 p1 = some r) (h_v1 : Sl w0 (NX []) AV v1 p0) (h_v2 : Sl w0 (NX []) AV v2 p1) :
    Calls Tryz.prog 31 #[v1, v2] w0 fun e w' => e = .returned (.bool r) ∧ Below w0.heap.size w0 w' := by
 refine enter Tryz.func31 Aa Tryz.ntmps31 Aa fun a F => ?_
 have W := Stw.start Y w0
 unfold Bu at H
 refine vc tk 9 F W fun a w F W => ?_
 refine ls F W Aa (BN (r := AV) (l := p0) Kh Aa F Aa (Ah h_v1)).q fun a w F W => ?_
 refine ls F W Aa (Am F Aa).q fun a w F W => ?_
 refine ls F W Aa (BN (r := AV) (l := p1) Kh Aa F Aa (Ah h_v2)).q fun a w F W => ?_
 refine vl tk 2 F W fun a w F W => ?_
 refine Ac ?_
 refine Bq F Aa H (fun F H => ?_) fun F H => ?_
 ·
  refine vc tk 5 F W fun a w F W => ?_
  refine Ax (Az ?_)
  have H := AA H
  subst H
  refine BB (.inl Aa) F W Aa (Ao F Aa) ?_
  exact ⟨rfl, W.done⟩
 refine Bp (Ac ?_)
 obtain ⟨o1, G1, K1, L1⟩ := HU H
 refine Aw (fun a w => some (Sum.inl ()) = some o1 ∧ Fr 26 [] [(4, .bool false)] a ∧ Stw ⟨Y, [], w0⟩ [] [] w) ?_ ?_
 ·
  have H := G1
  clear G1 K1
  refine vc tk 3 F W fun a w F W => ?_
  refine ls F W Aa (BN (r := AV) (l := p0) Kh Aa F Aa (Ah h_v1)).q fun a w F W => ?_
  refine C5 tk 4 F W fun a w F W => ?_
  refine Bl H (fun s a w => Fr 26 [] [(0, v1), (1, v2), (4, .bool false), (12, .int .i64 (p0.length : Int)), (13, .int .i64 s)] a ∧ Stw ⟨Y, [], w0⟩ [] [] w) ⟨F.ra Aa, W⟩ fun s o a w H L2 hR => ?_
  obtain ⟨x1, rfl⟩ : ∃ x, x = s := ⟨s, rfl⟩
  obtain ⟨F, W⟩ := hR
  have F : Fr 26 [] [(0, v1), (1, v2), (4, .bool false), (12, .int .i64 (p0.length : Int)), (13, .int .i64 x1)] a := F
  have W : Stw ⟨Y, [], w0⟩ [] [] w := W
  rw [AW] at H
  refine vc tk 6 F W fun a w F W => ?_
  refine Bq F Aa H (fun F H => ?_) fun F H => ?_
  ·
   refine Ek tk 11 F W fun a w F W => ?_
   refine DA W MO (by kernel_rfl) ?_
   iterate 2 refine qs F Aa (Am F Aa).q fun a F => ?_
   obtain ⟨x2, h1, H⟩ := Ae H
   refine qs F Aa (AR (r := AV) PL F Aa Aa (Ah h_v1) h1).q fun a F => ?_
   refine qs F Aa (An (y := Value.agg #[.int .i64 x2.1, .int .i64 x2.2.1, .int .i64 x2.2.2.1, .int .i64 x2.2.2.2.1, .int .i64 x2.2.2.2.2.1, .int .i64 x2.2.2.2.2.2]) (j := 0) (i := x1) F Aa Aa (Ah h_v1) h1 QN.to QA Aa).q fun a F => ?_
   iterate 2 refine qs F Aa (Am F Aa).q fun a F => ?_
   obtain ⟨x3, h2, H⟩ := Ae H
   refine qs F Aa (AR (r := AV) PL F Aa Aa (Ah h_v2) h2).q fun a F => ?_
   refine qs F Aa (An (y := Value.agg #[.int .i64 x3.1, .int .i64 x3.2.1, .int .i64 x3.2.2.1, .int .i64 x3.2.2.2.1, .int .i64 x3.2.2.2.2.1, .int .i64 x3.2.2.2.2.2]) (j := 0) (i := x1) F Aa Aa (Ah h_v2) h2 QN.to QA Aa).q fun a F => ?_
   refine qs F Aa (NB (t := decide (x2.1 = x3.1 ∧ x2.2.1 = x3.2.1 ∧ x2.2.2.1 = x3.2.2.1 ∧ x2.2.2.2.1 = x3.2.2.2.1 ∧ x2.2.2.2.2.1 = x3.2.2.2.2.1 ∧ x2.2.2.2.2.2 = x3.2.2.2.2.2)) S9 (Th _ _ _ _ _ _ _ _ _ _ _ _) F Aa Aa).q fun a F => ?_
   refine CE fun w W => ?_
   refine Ac ?_
   refine B2 F Aa H (fun F H => ?_) fun F H => ?_
   ·
    refine vc tk 5 F W fun a w F W => ?_
    refine Ax (AU ?_)
    iterate 2 refine Az ?_
    refine AU (Az ?_)
    have H := L2 _ H
    have H := L1 _ H
    have H := AA H
    subst H
    refine BB (.inl Aa) F W Aa (Ao F Aa) ?_
    exact ⟨rfl, W.done⟩
   refine Bp (AB ?_)
   refine vn tk 4 F W fun a w F W => ?_
   refine Ac ?_
   exact ⟨_, H, F.ra Aa, W⟩
  refine A1 ?_
  iterate 2 refine BC ?_
  refine Bb (Ac ?_)
  have H := L2 _ H
  exact ⟨H, F.ra Aa, W⟩
 rintro a w ⟨hj, F, W⟩
 have H := K1 _ hj
 clear hj G1 K1 L1
 refine vc tk 5 F W fun a w F W => ?_
 refine Ax ?_
 have H := AA H
 subst H
 refine BB (.inl Aa) F W Aa (Ao F Aa) ?_
 exact ⟨rfl, W.done⟩
theorem Tz : Has Tryz.prog 31 := ⟨fun args w => Af Tryz.func31 rfl (by decide) args w⟩
theorem SV (dd : Nat) (x0 : Int) (x1 : Int) (y0 : Int) (y1 : Int) (w : World) : (Op.equalIn (dd + 2) 52 (.agg #[.int .i64 x0, .int .i64 x1]) (.agg #[.int .i64 y0, .int .i64 y1])).run Tryz.prog w = .ok (decide (x0 = y0 ∧ x1 = y1)) w :=
  KS (d := dd + 1) (rs := [decide (x0 = y0), decide (x1 = y1)]) P4 (by kernel_rfl) ⟨rfl, Gm (d := dd + 0) rfl rfl Lm T3 rfl rfl, rfl, Gm (d := dd + 0) rfl rfl Lm T3 rfl rfl, trivial⟩ (by simp) w
theorem Ta : Tryz.prog.eqGuardType Tryz.prog.depth 52 = false := by kernel_rfl
theorem Tj (x0 : Int) (x1 : Int) (y0 : Int) (y1 : Int) (w : World) : (Op.equalIn 10000 52 (.agg #[.int .i64 x0, .int .i64 x1]) (.agg #[.int .i64 y0, .int .i64 y1])).run Tryz.prog w = .ok (decide (x0 = y0 ∧ x1 = y1)) w := SV 9998 x0 x1 y0 y1 w
noncomputable def AX (p0 : List (Int × Int)) (p1 : List (Int × Int)) : Int → Option (Int ⊕ (Unit ⊕ Bool))
  | x1 => (if x1 < (p0.length : Int) then (ix p0 x1).bind fun x2 => (ix p1 x1).bind fun x3 => (if (!(decide (x2.1 = x3.1 ∧ x2.2 = x3.2))) = true then some (.inr (.inr false)) else some (.inl (BD (x1 + 1)))) else some (.inr (.inl ())))
noncomputable def Bv (p0 : List (Int × Int)) (p1 : List (Int × Int)) : Option Bool := (if (p0.length : Int) ≠ (p1.length : Int) then some false else ES (Av (AX p0 p1) 0) fun _ => some true)
theorem EO (Y : Nat → Prop) (w0 : World) (v1 : Value) (v2 : Value) (p0 : List (Int × Int)) (p1 : List (Int × Int)) (r : Bool) (H : Bv p0 p1 = some r) (h_v1 : Sl w0 (NX []) A3 v1 p0) (h_v2 : Sl w0 (NX []) A3 v2 p1) :
    Calls Tryz.prog 32 #[v1, v2] w0 fun e w' => e = .returned (.bool r) ∧ Below w0.heap.size w0 w' := by
 refine enter Tryz.func32 Aa Tryz.ntmps32 Aa fun a F => ?_
 have W := Stw.start Y w0
 unfold Bv at H
 refine vc tk 9 F W fun a w F W => ?_
 refine ls F W Aa (BN (r := A3) (l := p0) Kl Aa F Aa (Ah h_v1)).q fun a w F W => ?_
 refine ls F W Aa (Am F Aa).q fun a w F W => ?_
 refine ls F W Aa (BN (r := A3) (l := p1) Kl Aa F Aa (Ah h_v2)).q fun a w F W => ?_
 refine vl tk 2 F W fun a w F W => ?_
 refine Ac ?_
 refine Bq F Aa H (fun F H => ?_) fun F H => ?_
 ·
  refine vc tk 5 F W fun a w F W => ?_
  refine Ax (Az ?_)
  have H := AA H
  subst H
  refine BB (.inl Aa) F W Aa (Ao F Aa) ?_
  exact ⟨rfl, W.done⟩
 refine Bp (Ac ?_)
 obtain ⟨o1, G1, K1, L1⟩ := HU H
 refine Aw (fun a w => some (Sum.inl ()) = some o1 ∧ Fr 26 [] [(4, .bool false)] a ∧ Stw ⟨Y, [], w0⟩ [] [] w) ?_ ?_
 ·
  have H := G1
  clear G1 K1
  refine vc tk 3 F W fun a w F W => ?_
  refine ls F W Aa (BN (r := A3) (l := p0) Kl Aa F Aa (Ah h_v1)).q fun a w F W => ?_
  refine C5 tk 4 F W fun a w F W => ?_
  refine Bl H (fun s a w => Fr 26 [] [(0, v1), (1, v2), (4, .bool false), (12, .int .i64 (p0.length : Int)), (13, .int .i64 s)] a ∧ Stw ⟨Y, [], w0⟩ [] [] w) ⟨F.ra Aa, W⟩ fun s o a w H L2 hR => ?_
  obtain ⟨x1, rfl⟩ : ∃ x, x = s := ⟨s, rfl⟩
  obtain ⟨F, W⟩ := hR
  have F : Fr 26 [] [(0, v1), (1, v2), (4, .bool false), (12, .int .i64 (p0.length : Int)), (13, .int .i64 x1)] a := F
  have W : Stw ⟨Y, [], w0⟩ [] [] w := W
  rw [AX] at H
  refine vc tk 6 F W fun a w F W => ?_
  refine Bq F Aa H (fun F H => ?_) fun F H => ?_
  ·
   refine Ek tk 11 F W fun a w F W => ?_
   refine DA W MO (by kernel_rfl) ?_
   iterate 2 refine qs F Aa (Am F Aa).q fun a F => ?_
   obtain ⟨x2, h1, H⟩ := Ae H
   refine qs F Aa (AR (r := A3) O9 F Aa Aa (Ah h_v1) h1).q fun a F => ?_
   refine qs F Aa (An (y := Value.agg #[.int .i64 x2.1, .int .i64 x2.2]) (j := 0) (i := x1) F Aa Aa (Ah h_v1) h1 PU.to Rq Aa).q fun a F => ?_
   iterate 2 refine qs F Aa (Am F Aa).q fun a F => ?_
   obtain ⟨x3, h2, H⟩ := Ae H
   refine qs F Aa (AR (r := A3) O9 F Aa Aa (Ah h_v2) h2).q fun a F => ?_
   refine qs F Aa (An (y := Value.agg #[.int .i64 x3.1, .int .i64 x3.2]) (j := 0) (i := x1) F Aa Aa (Ah h_v2) h2 PU.to Rq Aa).q fun a F => ?_
   refine qs F Aa (NB (t := decide (x2.1 = x3.1 ∧ x2.2 = x3.2)) Ta (Tj _ _ _ _) F Aa Aa).q fun a F => ?_
   refine CE fun w W => ?_
   refine Ac ?_
   refine B2 F Aa H (fun F H => ?_) fun F H => ?_
   ·
    refine vc tk 5 F W fun a w F W => ?_
    refine Ax (AU ?_)
    iterate 2 refine Az ?_
    refine AU (Az ?_)
    have H := L2 _ H
    have H := L1 _ H
    have H := AA H
    subst H
    refine BB (.inl Aa) F W Aa (Ao F Aa) ?_
    exact ⟨rfl, W.done⟩
   refine Bp (AB ?_)
   refine vn tk 4 F W fun a w F W => ?_
   refine Ac ?_
   exact ⟨_, H, F.ra Aa, W⟩
  refine A1 ?_
  iterate 2 refine BC ?_
  refine Bb (Ac ?_)
  have H := L2 _ H
  exact ⟨H, F.ra Aa, W⟩
 rintro a w ⟨hj, F, W⟩
 have H := K1 _ hj
 clear hj G1 K1 L1
 refine vc tk 5 F W fun a w F W => ?_
 refine Ax ?_
 have H := AA H
 subst H
 refine BB (.inl Aa) F W Aa (Ao F Aa) ?_
 exact ⟨rfl, W.done⟩
theorem Tw : Has Tryz.prog 32 := ⟨fun args w => Af Tryz.func32 rfl (by decide) args w⟩
noncomputable def Bj (p0 : List Int) (p1 : List Int) : Int → Option (Int ⊕ (Unit ⊕ Bool))
  | x1 => (if x1 < (p0.length : Int) then (ix p0 x1).bind fun x2 => (ix p1 x1).bind fun x3 => (if x2 ≠ x3 then some (.inr (.inr false)) else some (.inl (BD (x1 + 1)))) else some (.inr (.inl ())))
noncomputable def BO (p0 : List Int) (p1 : List Int) : Option Bool := (if (p0.length : Int) ≠ (p1.length : Int) then some false else ES (Av (Bj p0 p1) 0) fun _ => some true)
theorem FE (Y : Nat → Prop) (w0 : World) (v1 : Value) (v2 : Value) (p0 : List Int) (p1 : List Int) (r : Bool) (H : BO p0 p1 = some r) (h_v1 : Sl w0 (NX []) (Rp.int .u64) v1 p0) (h_v2 : Sl w0 (NX []) (Rp.int .u64) v2 p1) :
    Calls Tryz.prog 34 #[v1, v2] w0 fun e w' => e = .returned (.bool r) ∧ Below w0.heap.size w0 w' := by
 refine enter Tryz.func34 Aa Tryz.ntmps34 Aa fun a F => ?_
 have W := Stw.start Y w0
 unfold BO at H
 refine vc tk 9 F W fun a w F W => ?_
 refine ls F W Aa (BN (r := (Rp.int .u64)) (l := p0) Kf Aa F Aa (Ah h_v1)).q fun a w F W => ?_
 refine ls F W Aa (Am F Aa).q fun a w F W => ?_
 refine ls F W Aa (BN (r := (Rp.int .u64)) (l := p1) Kf Aa F Aa (Ah h_v2)).q fun a w F W => ?_
 refine vl tk 2 F W fun a w F W => ?_
 refine Ac ?_
 refine Bq F Aa H (fun F H => ?_) fun F H => ?_
 ·
  refine vc tk 5 F W fun a w F W => ?_
  refine Ax (Az ?_)
  have H := AA H
  subst H
  refine BB (.inl Aa) F W Aa (Ao F Aa) ?_
  exact ⟨rfl, W.done⟩
 refine Bp (Ac ?_)
 obtain ⟨o1, G1, K1, L1⟩ := HU H
 refine Aw (fun a w => some (Sum.inl ()) = some o1 ∧ Fr 26 [] [(4, .bool false)] a ∧ Stw ⟨Y, [], w0⟩ [] [] w) ?_ ?_
 ·
  have H := G1
  clear G1 K1
  refine vc tk 3 F W fun a w F W => ?_
  refine ls F W Aa (BN (r := (Rp.int .u64)) (l := p0) Kf Aa F Aa (Ah h_v1)).q fun a w F W => ?_
  refine C5 tk 4 F W fun a w F W => ?_
  refine Bl H (fun s a w => Fr 26 [] [(0, v1), (1, v2), (4, .bool false), (12, .int .i64 (p0.length : Int)), (13, .int .i64 s)] a ∧ Stw ⟨Y, [], w0⟩ [] [] w) ⟨F.ra Aa, W⟩ fun s o a w H L2 hR => ?_
  obtain ⟨x1, rfl⟩ : ∃ x, x = s := ⟨s, rfl⟩
  obtain ⟨F, W⟩ := hR
  have F : Fr 26 [] [(0, v1), (1, v2), (4, .bool false), (12, .int .i64 (p0.length : Int)), (13, .int .i64 x1)] a := F
  have W : Stw ⟨Y, [], w0⟩ [] [] w := W
  rw [Bj] at H
  refine vc tk 6 F W fun a w F W => ?_
  refine Bq F Aa H (fun F H => ?_) fun F H => ?_
  ·
   refine Ek tk 11 F W fun a w F W => ?_
   refine DA W MO (by kernel_rfl) ?_
   iterate 2 refine qs F Aa (Am F Aa).q fun a F => ?_
   obtain ⟨x2, h1, H⟩ := Ae H
   refine qs F Aa (AR (r := (Rp.int .u64)) Pn F Aa Aa (Ah h_v1) h1).q fun a F => ?_
   refine qs F Aa (An (y := Value.int .u64 x2) (j := 0) (i := x1) F Aa Aa (Ah h_v1) h1 Fl.int.to Rw Aa).q fun a F => ?_
   iterate 2 refine qs F Aa (Am F Aa).q fun a F => ?_
   obtain ⟨x3, h2, H⟩ := Ae H
   refine qs F Aa (AR (r := (Rp.int .u64)) Pn F Aa Aa (Ah h_v2) h2).q fun a F => ?_
   refine qs F Aa (An (y := Value.int .u64 x3) (j := 0) (i := x1) F Aa Aa (Ah h_v2) h2 Fl.int.to Rw Aa).q fun a F => ?_
   refine qs F Aa (IA F Aa Aa).q fun a F => ?_
   refine CE fun w W => ?_
   refine Ac ?_
   refine Bq F Aa H (fun F H => ?_) fun F H => ?_
   ·
    refine vc tk 5 F W fun a w F W => ?_
    refine Ax (AU ?_)
    iterate 2 refine Az ?_
    refine AU (Az ?_)
    have H := L2 _ H
    have H := L1 _ H
    have H := AA H
    subst H
    refine BB (.inl Aa) F W Aa (Ao F Aa) ?_
    exact ⟨rfl, W.done⟩
   refine Bp (AB ?_)
   refine vn tk 4 F W fun a w F W => ?_
   refine Ac ?_
   exact ⟨_, H, F.ra Aa, W⟩
  refine A1 ?_
  iterate 2 refine BC ?_
  refine Bb (Ac ?_)
  have H := L2 _ H
  exact ⟨H, F.ra Aa, W⟩
 rintro a w ⟨hj, F, W⟩
 have H := K1 _ hj
 clear hj G1 K1 L1
 refine vc tk 5 F W fun a w F W => ?_
 refine Ax ?_
 have H := AA H
 subst H
 refine BB (.inl Aa) F W Aa (Ao F Aa) ?_
 exact ⟨rfl, W.done⟩
theorem TG : Has Tryz.prog 34 := ⟨fun args w => Af Tryz.func34 rfl (by decide) args w⟩
noncomputable def Ay (p0 : List (List Int)) (p1 : List (List Int)) : Int → Option (Int ⊕ (Unit ⊕ Bool))
  | x1 => (if x1 < (p0.length : Int) then (ix p0 x1).bind fun x2 => (ix p1 x1).bind fun x3 => (BO x2 x3).bind fun x4 => (if (!x4) = true then some (.inr (.inr false)) else some (.inl (BD (x1 + 1)))) else some (.inr (.inl ())))
noncomputable def AK (p0 : List (List Int)) (p1 : List (List Int)) : Option Bool := (if (p0.length : Int) ≠ (p1.length : Int) then some false else ES (Av (Ay p0 p1) 0) fun _ => some true)
theorem Ds (Y : Nat → Prop) (w0 : World) (v1 : Value) (v2 : Value) (p0 : List (List Int)) (p1 : List (List Int)) (r : Bool) (H : AK p0 p1 = some r) (h_v1 : Sl w0 (NX []) (Rp.slice (Rp.int .u64)) v1 p0) (h_v2 : Sl w0 (NX []) (Rp.slice (Rp.int .u64)) v2 p1) :
    Calls Tryz.prog 33 #[v1, v2, .func (.func 34) #[] #[]] w0 fun e w' => e = .returned (.bool r) ∧ Below w0.heap.size w0 w' := by
 refine enter Tryz.func33 Aa Tryz.ntmps33 Aa fun a F => ?_
 have W := Stw.start Y w0
 obtain ⟨v3, h1, h_v1⟩ := h_v1.ex D4
 obtain ⟨v4, h2, h_v2⟩ := h_v2.ex D4
 unfold AK at H
 refine vc tk 9 F W fun a w F W => ?_
 refine ls F W Aa (BN (r := (Rp.slice (Rp.int .u64))) (l := p0) JB Aa F Aa (B9 D4 h1 (Ah h_v1))).q fun a w F W => ?_
 refine ls F W Aa (Am F Aa).q fun a w F W => ?_
 refine ls F W Aa (BN (r := (Rp.slice (Rp.int .u64))) (l := p1) JB Aa F Aa (B9 D4 h2 (Ah h_v2))).q fun a w F W => ?_
 refine vl tk 2 F W fun a w F W => ?_
 refine Ac ?_
 refine Bq F Aa H (fun F H => ?_) fun F H => ?_
 ·
  refine vc tk 5 F W fun a w F W => ?_
  refine Ax (Az ?_)
  have H := AA H
  subst H
  refine BB (.inl Aa) F W Aa (Ao F Aa) ?_
  exact ⟨rfl, W.done⟩
 refine Bp (Ac ?_)
 obtain ⟨o1, G1, K1, L1⟩ := HU H
 refine Aw (fun a w => some (Sum.inl ()) = some o1 ∧ Fr 32 [] [(6, .bool false)] a ∧ Stw ⟨Y, [], w0⟩ [] [] w) ?_ ?_
 ·
  have H := G1
  clear G1 K1
  refine vc tk 3 F W fun a w F W => ?_
  refine ls F W Aa (BN (r := (Rp.slice (Rp.int .u64))) (l := p0) JB Aa F Aa (B9 D4 h1 (Ah h_v1))).q fun a w F W => ?_
  refine C5 tk 4 F W fun a w F W => ?_
  refine Bl H (fun s a w => Fr 32 [] [(1, v2), (2, .func (.func 34) #[] #[]), (6, .bool false), (15, v1), (16, .int .i64 (p0.length : Int)), (17, .int .i64 s)] a ∧ Stw ⟨Y, [], w0⟩ [] [] w) ⟨F.ra Aa, W⟩ fun s o a w H L2 hR => ?_
  obtain ⟨x1, rfl⟩ : ∃ x, x = s := ⟨s, rfl⟩
  obtain ⟨F, W⟩ := hR
  have F : Fr 32 [] [(1, v2), (2, .func (.func 34) #[] #[]), (6, .bool false), (15, v1), (16, .int .i64 (p0.length : Int)), (17, .int .i64 x1)] a := F
  have W : Stw ⟨Y, [], w0⟩ [] [] w := W
  rw [Ay] at H
  refine vc tk 6 F W fun a w F W => ?_
  refine Bq F Aa H (fun F H => ?_) fun F H => ?_
  ·
   refine Ek tk 7 F W fun a w F W => ?_
   obtain ⟨x2, h3, H⟩ := Ae H
   obtain ⟨v5, h4, h5⟩ := I5 h1 h3
   have h6 : Hw v5 = [(v5.1)] := congrArg (fun q : List Int => ([(v5.1)] : List Value)) h5
   refine ls F W Aa (AR (r := (Rp.vsl (Rp.int .u64))) NW F Aa Aa (Ah h_v1) h4).q fun a w F W => ?_
   refine ls F W Aa (An (y := (v5.1)) (j := 0) (i := x1) (enc := Hw) F Aa Aa (Ah h_v1) h4 LS QL (by rw [h6]; rfl)).q fun a w F W => ?_
   refine C5 tk 8 F W fun a w F W => ?_
   obtain ⟨x3, h7, H⟩ := Ae H
   obtain ⟨v6, h8, h9⟩ := I5 h2 h7
   have h10 : Hw v6 = [(v6.1)] := congrArg (fun q : List Int => ([(v6.1)] : List Value)) h9
   refine ls F W Aa (AR (r := (Rp.vsl (Rp.int .u64))) NW F Aa Aa (Ah h_v2) h8).q fun a w F W => ?_
   refine ls F W Aa (An (y := (v6.1)) (j := 0) (i := x1) (enc := Hw) F Aa Aa (Ah h_v2) h8 LS QL (by rw [h10]; rfl)).q fun a w F W => ?_
   refine C5 tk 8 F W fun a w F W => ?_
   obtain ⟨x4, h11, H⟩ := Ae H
   refine ls F W Aa (PW (ws := [(v5.1), (v6.1)]) (v := Value.bool x4) F TG Aa (fun w W => FE any w ((v5.1)) ((v6.1)) x2 x3 _ h11 (((F4 (Ah h_v1) h4 HL.here (congrArg (fun q : List Int => q) h5)) : CW _ _ _ _ _ _) w W).nx (((F4 (Ah h_v2) h8 HL.here (congrArg (fun q : List Int => q) h9)) : CW _ _ _ _ _ _) w W).nx)) fun a w F W => ?_
   refine vl tk 2 F W fun a w F W => ?_
   refine Ac ?_
   refine B2 F Aa H (fun F H => ?_) fun F H => ?_
   ·
    refine vc tk 5 F W fun a w F W => ?_
    refine Ax (AU ?_)
    iterate 2 refine Az ?_
    refine AU (Az ?_)
    have H := L2 _ H
    have H := L1 _ H
    have H := AA H
    subst H
    refine BB (.inl Aa) F W Aa (Ao F Aa) ?_
    exact ⟨rfl, W.done⟩
   refine Bp (AB ?_)
   refine vn tk 4 F W fun a w F W => ?_
   refine Ac ?_
   exact ⟨_, H, F.ra Aa, W⟩
  refine A1 ?_
  iterate 2 refine BC ?_
  refine Bb (Ac ?_)
  have H := L2 _ H
  exact ⟨H, F.ra Aa, W⟩
 rintro a w ⟨hj, F, W⟩
 have H := K1 _ hj
 clear hj G1 K1 L1
 refine vc tk 5 F W fun a w F W => ?_
 refine Ax ?_
 have H := AA H
 subst H
 refine BB (.inl Aa) F W Aa (Ao F Aa) ?_
 exact ⟨rfl, W.done⟩
theorem Uc : Has Tryz.prog 33 := ⟨fun args w => Af Tryz.func33 rfl (by decide) args w⟩
noncomputable def BM (p0 : List Int) (p1 : List Int) : Int → Option (Int ⊕ (Unit ⊕ Bool))
  | x1 => (if x1 < (p0.length : Int) then (ix p0 x1).bind fun x2 => (ix p1 x1).bind fun x3 => (if x2 ≠ x3 then some (.inr (.inr false)) else some (.inl (BD (x1 + 1)))) else some (.inr (.inl ())))
noncomputable def Cs (p0 : List Int) (p1 : List Int) : Option Bool := (if (p0.length : Int) ≠ (p1.length : Int) then some false else ES (Av (BM p0 p1) 0) fun _ => some true)
theorem GN (Y : Nat → Prop) (w0 : World) (v1 : Value) (v2 : Value) (p0 : List Int) (p1 : List Int) (r : Bool) (H : Cs p0 p1 = some r) (h_v1 : Sl w0 (NX []) (Rp.int .i64) v1 p0) (h_v2 : Sl w0 (NX []) (Rp.int .i64) v2 p1) :
    Calls Tryz.prog 35 #[v1, v2] w0 fun e w' => e = .returned (.bool r) ∧ Below w0.heap.size w0 w' := by
 refine enter Tryz.func35 Aa Tryz.ntmps35 Aa fun a F => ?_
 have W := Stw.start Y w0
 unfold Cs at H
 refine vc tk 9 F W fun a w F W => ?_
 refine ls F W Aa (BN (r := (Rp.int .i64)) (l := p0) Jg Aa F Aa (Ah h_v1)).q fun a w F W => ?_
 refine ls F W Aa (Am F Aa).q fun a w F W => ?_
 refine ls F W Aa (BN (r := (Rp.int .i64)) (l := p1) Jg Aa F Aa (Ah h_v2)).q fun a w F W => ?_
 refine vl tk 2 F W fun a w F W => ?_
 refine Ac ?_
 refine Bq F Aa H (fun F H => ?_) fun F H => ?_
 ·
  refine vc tk 5 F W fun a w F W => ?_
  refine Ax (Az ?_)
  have H := AA H
  subst H
  refine BB (.inl Aa) F W Aa (Ao F Aa) ?_
  exact ⟨rfl, W.done⟩
 refine Bp (Ac ?_)
 obtain ⟨o1, G1, K1, L1⟩ := HU H
 refine Aw (fun a w => some (Sum.inl ()) = some o1 ∧ Fr 26 [] [(4, .bool false)] a ∧ Stw ⟨Y, [], w0⟩ [] [] w) ?_ ?_
 ·
  have H := G1
  clear G1 K1
  refine vc tk 3 F W fun a w F W => ?_
  refine ls F W Aa (BN (r := (Rp.int .i64)) (l := p0) Jg Aa F Aa (Ah h_v1)).q fun a w F W => ?_
  refine C5 tk 4 F W fun a w F W => ?_
  refine Bl H (fun s a w => Fr 26 [] [(0, v1), (1, v2), (4, .bool false), (12, .int .i64 (p0.length : Int)), (13, .int .i64 s)] a ∧ Stw ⟨Y, [], w0⟩ [] [] w) ⟨F.ra Aa, W⟩ fun s o a w H L2 hR => ?_
  obtain ⟨x1, rfl⟩ : ∃ x, x = s := ⟨s, rfl⟩
  obtain ⟨F, W⟩ := hR
  have F : Fr 26 [] [(0, v1), (1, v2), (4, .bool false), (12, .int .i64 (p0.length : Int)), (13, .int .i64 x1)] a := F
  have W : Stw ⟨Y, [], w0⟩ [] [] w := W
  rw [BM] at H
  refine vc tk 6 F W fun a w F W => ?_
  refine Bq F Aa H (fun F H => ?_) fun F H => ?_
  ·
   refine Ek tk 11 F W fun a w F W => ?_
   refine DA W MO (by kernel_rfl) ?_
   iterate 2 refine qs F Aa (Am F Aa).q fun a F => ?_
   obtain ⟨x2, h1, H⟩ := Ae H
   refine qs F Aa (AR (r := (Rp.int .i64)) Fb F Aa Aa (Ah h_v1) h1).q fun a F => ?_
   refine qs F Aa (An (y := Value.int .i64 x2) (j := 0) (i := x1) F Aa Aa (Ah h_v1) h1 Fl.int.to T3 Aa).q fun a F => ?_
   iterate 2 refine qs F Aa (Am F Aa).q fun a F => ?_
   obtain ⟨x3, h2, H⟩ := Ae H
   refine qs F Aa (AR (r := (Rp.int .i64)) Fb F Aa Aa (Ah h_v2) h2).q fun a F => ?_
   refine qs F Aa (An (y := Value.int .i64 x3) (j := 0) (i := x1) F Aa Aa (Ah h_v2) h2 Fl.int.to T3 Aa).q fun a F => ?_
   refine qs F Aa (IA F Aa Aa).q fun a F => ?_
   refine CE fun w W => ?_
   refine Ac ?_
   refine Bq F Aa H (fun F H => ?_) fun F H => ?_
   ·
    refine vc tk 5 F W fun a w F W => ?_
    refine Ax (AU ?_)
    iterate 2 refine Az ?_
    refine AU (Az ?_)
    have H := L2 _ H
    have H := L1 _ H
    have H := AA H
    subst H
    refine BB (.inl Aa) F W Aa (Ao F Aa) ?_
    exact ⟨rfl, W.done⟩
   refine Bp (AB ?_)
   refine vn tk 4 F W fun a w F W => ?_
   refine Ac ?_
   exact ⟨_, H, F.ra Aa, W⟩
  refine A1 ?_
  iterate 2 refine BC ?_
  refine Bb (Ac ?_)
  have H := L2 _ H
  exact ⟨H, F.ra Aa, W⟩
 rintro a w ⟨hj, F, W⟩
 have H := K1 _ hj
 clear hj G1 K1 L1
 refine vc tk 5 F W fun a w F W => ?_
 refine Ax ?_
 have H := AA H
 subst H
 refine BB (.inl Aa) F W Aa (Ao F Aa) ?_
 exact ⟨rfl, W.done⟩
theorem Tr : Has Tryz.prog 35 := ⟨fun args w => Af Tryz.func35 rfl (by decide) args w⟩
noncomputable def Ea (p0 : (Int × (List (Int × Int × Int × Int × Int × Int)) × (List (Int × Int))) × List (List Int) × List Int × Int × Int × Int × Int × Int × Int) (p1 : (Int × (List (Int × Int × Int × Int × Int × Int)) × (List (Int × Int))) × List (List Int) × List Int × Int × Int × Int × Int × Int × Int) : Option Bool := (if p0.1.1 = p1.1.1 then (Bu p0.1.2.1 p1.1.2.1).bind fun x2 => (if x2 = true then (Bv p0.1.2.2 p1.1.2.2).bind fun x3 => (if x3 = true then (AK p0.2.1 p1.2.1).bind fun x4 => (if x4 = true then (Cs p0.2.2.1 p1.2.2.1).bind fun x5 => (if x5 = true then (if p0.2.2.2.1 = p1.2.2.2.1 then (if p0.2.2.2.2.1 = p1.2.2.2.2.1 then (if p0.2.2.2.2.2.1 = p1.2.2.2.2.2.1 then (if p0.2.2.2.2.2.2.1 = p1.2.2.2.2.2.2.1 then (if p0.2.2.2.2.2.2.2.1 = p1.2.2.2.2.2.2.2.1 then some (decide (p0.2.2.2.2.2.2.2.2 = p1.2.2.2.2.2.2.2.2)) else some false) else some false) else some false) else some false) else some false) else some false) else some false) else some false) else some false) else some false).bind fun x1 => some x1
theorem IC (Y : Nat → Prop) (w0 : World) (v1 : Value) (v2 : Value) (v3 : Value) (v4 : Value) (v5 : Value) (v6 : Value) (v7 : Value) (v8 : Value) (p0 : (Int × (List (Int × Int × Int × Int × Int × Int)) × (List (Int × Int))) × List (List Int) × List Int × Int × Int × Int × Int × Int × Int) (p1 : (Int × (List (Int × Int × Int × Int × Int × Int)) × (List (Int × Int))) × List (List Int) × List Int × Int × Int × Int × Int × Int × Int) (r : Bool) (H : Ea p0 p1 = some r) (h_v1 : Sl w0 (NX []) AV v1 p0.1.2.1) (h_v2 : Sl w0 (NX []) A3 v2 p0.1.2.2) (h_v3 : Sl w0 (NX []) (Rp.slice (Rp.int .u64)) v3 p0.2.1) (h_v4 : Sl w0 (NX []) (Rp.int .i64) v4 p0.2.2.1) (h_v5 : Sl w0 (NX []) AV v5 p1.1.2.1) (h_v6 : Sl w0 (NX []) A3 v6 p1.1.2.2) (h_v7 : Sl w0 (NX []) (Rp.slice (Rp.int .u64)) v7 p1.2.1) (h_v8 : Sl w0 (NX []) (Rp.int .i64) v8 p1.2.2.1) :
    Calls Tryz.prog 10 #[.agg #[.int .i64 p0.1.1, v1, v2, v3, v4, .int .i64 p0.2.2.2.1, .int .i64 p0.2.2.2.2.1, .int .i64 p0.2.2.2.2.2.1, .int .i64 p0.2.2.2.2.2.2.1, .int .i64 p0.2.2.2.2.2.2.2.1, .int .i64 p0.2.2.2.2.2.2.2.2], .agg #[.int .i64 p1.1.1, v5, v6, v7, v8, .int .i64 p1.2.2.2.1, .int .i64 p1.2.2.2.2.1, .int .i64 p1.2.2.2.2.2.1, .int .i64 p1.2.2.2.2.2.2.1, .int .i64 p1.2.2.2.2.2.2.2.1, .int .i64 p1.2.2.2.2.2.2.2.2]] w0 fun e w' => e = .returned (.bool r) ∧ Below w0.heap.size w0 w' := by
 refine enter Tryz.func10 Aa Tryz.ntmps10 Aa fun a F => ?_
 have W := Stw.start Y w0
 obtain ⟨v9, h1, h_v3⟩ := h_v3.ex D4
 obtain ⟨v10, h2, h_v7⟩ := h_v7.ex D4
 unfold Ea at H
 refine vc tk 2 F W fun a w F W => ?_
 refine GU (cs := (BP p0 v1 v2 v3 v4)) F W Aa Aa Aa fun b1 a w F W => ?_
 refine GU (cs := (BP p1 v5 v6 v7 v8)) F W Aa Aa Aa fun b2 a w F W => ?_
 refine vl tk 2 F W fun a w F W => ?_
 refine Ac ?_
 obtain ⟨o1, G1, K1⟩ := Ae H
 refine Aw (fun a w => ∃ x1 : Bool, some (x1) = some o1 ∧ Fr 86 [] [(4, .bool x1)] a ∧ Stw ⟨Y, [], w0⟩ [(b2, (BP p1 v5 v6 v7 v8)), (b1, (BP p0 v1 v2 v3 v4))] [] w) ?_ ?_
 ·
  have H := G1
  clear G1 K1
  refine Ib tk 9 [1, 0] F W (ai (ai fun a w F W => ?_))
  rcases Bool.eq_false_or_eq_true (decide (p0.1.1 = p1.1.1)) with hb | hb
  ·
   have H := Cu (Dc hb) H
   rw [hb] at F
   clear hb
   refine LA tk 6 [1, 0] F W (ai (ai fun a w F W => ?_))
   refine E5 (Ag F Aa Aa Aa Aa) ?_
   obtain ⟨x2, h3, H⟩ := Ae H
   refine ls F W Aa (AE (v := Value.bool x2) F Tz Aa (fun w W => EQ any w (v1) (v5) p0.1.2.1 p1.1.2.1 _ h3 (((Ah h_v1) : CW _ _ _ _ _ _) w W).nx (((Ah h_v5) : CW _ _ _ _ _ _) w W).nx)) fun a w F W => ?_
   refine vl tk 2 F W fun a w F W => ?_
   rcases Bool.eq_false_or_eq_true x2 with hb | hb
   ·
    have H := Cu hb H
    rw [hb] at F
    clear hb
    refine LA tk 6 [1, 0] F W (ai (ai fun a w F W => ?_))
    refine E5 (Ag F Aa Aa Aa Aa) ?_
    obtain ⟨x3, h4, H⟩ := Ae H
    refine ls F W Aa (AE (v := Value.bool x3) F Tw Aa (fun w W => EO any w (v2) (v6) p0.1.2.2 p1.1.2.2 _ h4 (((Ah h_v2) : CW _ _ _ _ _ _) w W).nx (((Ah h_v6) : CW _ _ _ _ _ _) w W).nx)) fun a w F W => ?_
    refine vl tk 2 F W fun a w F W => ?_
    rcases Bool.eq_false_or_eq_true x3 with hb | hb
    ·
     have H := Cu hb H
     rw [hb] at F
     clear hb
     refine LA tk 4 [1, 0] F W (ai (ai fun a w F W => ?_))
     refine E5 (Ag F Aa Aa Aa Aa) ?_
     obtain ⟨x4, h5, H⟩ := Ae H
     refine ls F W Aa (AE (v := Value.bool x4) F Uc Aa (fun w W => Ds any w (v3) (v7) p0.2.1 p1.2.1 _ h5 (((B9 D4 h1 (Ah h_v3)) : CW _ _ _ _ _ _) w W).nx (((B9 D4 h2 (Ah h_v7)) : CW _ _ _ _ _ _) w W).nx)) fun a w F W => ?_
     refine vl tk 2 F W fun a w F W => ?_
     rcases Bool.eq_false_or_eq_true x4 with hb | hb
     ·
      have H := Cu hb H
      rw [hb] at F
      clear hb
      refine LA tk 4 [1, 0] F W (ai (ai fun a w F W => ?_))
      refine E5 (Ag F Aa Aa Aa Aa) ?_
      obtain ⟨x5, h6, H⟩ := Ae H
      refine ls F W Aa (AE (v := Value.bool x5) F Tr Aa (fun w W => GN any w (v4) (v8) p0.2.2.1 p1.2.2.1 _ h6 (((Ah h_v4) : CW _ _ _ _ _ _) w W).nx (((Ah h_v8) : CW _ _ _ _ _ _) w W).nx)) fun a w F W => ?_
      refine vl tk 2 F W fun a w F W => ?_
      rcases Bool.eq_false_or_eq_true x5 with hb | hb
      ·
       have H := Cu hb H
       rw [hb] at F
       clear hb
       refine LA tk 7 [1, 0] F W (ai (ai fun a w F W => ?_))
       rcases Bool.eq_false_or_eq_true (decide (p0.2.2.2.1 = p1.2.2.2.1)) with hb | hb
       ·
        have H := Cu (Dc hb) H
        rw [hb] at F
        clear hb
        refine LA tk 7 [1, 0] F W (ai (ai fun a w F W => ?_))
        rcases Bool.eq_false_or_eq_true (decide (p0.2.2.2.2.1 = p1.2.2.2.2.1)) with hb | hb
        ·
         have H := Cu (Dc hb) H
         rw [hb] at F
         clear hb
         refine LA tk 7 [1, 0] F W (ai (ai fun a w F W => ?_))
         rcases Bool.eq_false_or_eq_true (decide (p0.2.2.2.2.2.1 = p1.2.2.2.2.2.1)) with hb | hb
         ·
          have H := Cu (Dc hb) H
          rw [hb] at F
          clear hb
          refine LA tk 7 [1, 0] F W (ai (ai fun a w F W => ?_))
          rcases Bool.eq_false_or_eq_true (decide (p0.2.2.2.2.2.2.1 = p1.2.2.2.2.2.2.1)) with hb | hb
          ·
           have H := Cu (Dc hb) H
           rw [hb] at F
           clear hb
           refine LA tk 7 [1, 0] F W (ai (ai fun a w F W => ?_))
           rcases Bool.eq_false_or_eq_true (decide (p0.2.2.2.2.2.2.2.1 = p1.2.2.2.2.2.2.2.1)) with hb | hb
           ·
            have H := Cu (Dc hb) H
            rw [hb] at F
            clear hb
            refine LA tk 8 [1, 0] F W (ai (ai fun a w F W => ?_))
            refine Ac ?_
            have W := W.frontM (i := 1) Aa Aa
            have W := W.frontM (i := 1) Aa Aa
            exact ⟨_, H, F.ra Aa, W⟩
           have H := Ct (Db hb) H
           rw [hb] at F
           clear hb
           refine vl tk 8 F W fun a w F W => ?_
           refine Ac ?_
           have W := W.frontM (i := 1) Aa Aa
           have W := W.frontM (i := 1) Aa Aa
           exact ⟨_, H, F.ra Aa, W⟩
          have H := Ct (Db hb) H
          rw [hb] at F
          clear hb
          refine vl tk 15 F W fun a w F W => ?_
          refine Ac ?_
          have W := W.frontM (i := 1) Aa Aa
          have W := W.frontM (i := 1) Aa Aa
          exact ⟨_, H, F.ra Aa, W⟩
         have H := Ct (Db hb) H
         rw [hb] at F
         clear hb
         refine vl tk 22 F W fun a w F W => ?_
         refine Ac ?_
         have W := W.frontM (i := 1) Aa Aa
         have W := W.frontM (i := 1) Aa Aa
         exact ⟨_, H, F.ra Aa, W⟩
        have H := Ct (Db hb) H
        rw [hb] at F
        clear hb
        refine vl tk 29 F W fun a w F W => ?_
        refine Ac ?_
        have W := W.frontM (i := 1) Aa Aa
        have W := W.frontM (i := 1) Aa Aa
        exact ⟨_, H, F.ra Aa, W⟩
       have H := Ct (Db hb) H
       rw [hb] at F
       clear hb
       refine vl tk 36 F W fun a w F W => ?_
       refine Ac ?_
       have W := W.frontM (i := 1) Aa Aa
       have W := W.frontM (i := 1) Aa Aa
       exact ⟨_, H, F.ra Aa, W⟩
      have H := Ct (by rw [hb]; decide) H
      rw [hb] at F
      clear hb
      refine vl tk 43 F W fun a w F W => ?_
      refine Ac ?_
      have W := W.frontM (i := 1) Aa Aa
      have W := W.frontM (i := 1) Aa Aa
      exact ⟨_, H, F.ra Aa, W⟩
     have H := Ct (by rw [hb]; decide) H
     rw [hb] at F
     clear hb
     refine vl tk 50 F W fun a w F W => ?_
     refine Ac ?_
     have W := W.frontM (i := 1) Aa Aa
     have W := W.frontM (i := 1) Aa Aa
     exact ⟨_, H, F.ra Aa, W⟩
    have H := Ct (by rw [hb]; decide) H
    rw [hb] at F
    clear hb
    refine vl tk 57 F W fun a w F W => ?_
    refine Ac ?_
    have W := W.frontM (i := 1) Aa Aa
    have W := W.frontM (i := 1) Aa Aa
    exact ⟨_, H, F.ra Aa, W⟩
   have H := Ct (by rw [hb]; decide) H
   rw [hb] at F
   clear hb
   refine vl tk 66 F W fun a w F W => ?_
   refine Ac ?_
   have W := W.frontM (i := 1) Aa Aa
   have W := W.frontM (i := 1) Aa Aa
   exact ⟨_, H, F.ra Aa, W⟩
  have H := Ct (Db hb) H
  rw [hb] at F
  clear hb
  refine vl tk 75 F W fun a w F W => ?_
  refine Ac ?_
  have W := W.frontM (i := 1) Aa Aa
  have W := W.frontM (i := 1) Aa Aa
  exact ⟨_, H, F.ra Aa, W⟩
 rintro a w ⟨x1, hj, F, W⟩
 have hj := AA hj
 subst hj
 have H := K1
 clear G1 K1
 refine Ax ?_
 have H := AA H
 subst H
 refine BB (.inl Aa) F W Aa (Ao F Aa) ?_
 exact ⟨rfl, W.done⟩
theorem S4 : Has Tryz.prog 10 := ⟨fun args w => Af Tryz.func10 rfl (by decide) args w⟩
abbrev OA (a0 : Nat) (a1 : Value) (a2 : Value) : List (Nat × List Value) := [(a0, [.int .i64 2, .slice none 0 0, .slice none 0 0, a1, a2, .int .i64 0, .int .i64 0, .int .i64 0, .int .i64 0, .int .i64 0, .int .i64 1])]
abbrev HO (a0 : ((Int × (List (Int × Int × Int × Int × Int × Int)) × (List (Int × Int))) × List (List Int) × List Int × Int × Int × Int × Int × Int × Int) × Int × Int) (a1 : Value) (a2 : Value) (a3 : Value) (a4 : Value) : List Value := [.int .i64 a0.1.1.1, a1, a2, a3, a4, .int .i64 a0.1.2.2.2.1, .int .i64 a0.1.2.2.2.2.1, .int .i64 a0.1.2.2.2.2.2.1, .int .i64 a0.1.2.2.2.2.2.2.1, .int .i64 a0.1.2.2.2.2.2.2.2.1, .int .i64 a0.1.2.2.2.2.2.2.2.2]
abbrev KT (a0 : Nat) (a1 : ((Int × (List (Int × Int × Int × Int × Int × Int)) × (List (Int × Int))) × List (List Int) × List Int × Int × Int × Int × Int × Int × Int) × Int × Int) (a2 : Value) (a3 : Value) (a4 : Value) (a5 : Value) (a6 : Nat) (a7 : Value) (a8 : Value) : List (Nat × List Value) := [(a0, [.int .i64 a1.1.1.1, a2, a3, a4, a5, .int .i64 a1.1.2.2.2.1, .int .i64 a1.1.2.2.2.2.1, .int .i64 a1.1.2.2.2.2.2.1, .int .i64 a1.1.2.2.2.2.2.2.1, .int .i64 a1.1.2.2.2.2.2.2.2.1, .int .i64 a1.1.2.2.2.2.2.2.2.2]), (a6, [.int .i64 2, .slice none 0 0, .slice none 0 0, a7, a8, .int .i64 0, .int .i64 0, .int .i64 0, .int .i64 0, .int .i64 0, .int .i64 1])]
noncomputable def E6  : Option Bool := (D1 ((2, ([] : List (Int × Int × Int × Int × Int × Int)), ([] : List (Int × Int))), ([([4607182418800017408] : List Int)] : List (List Int)), ([0, (-4)] : List Int), 0, 0, 0, 0, 0, 1)).bind fun x1 => (DF x1).bind fun x2 => (if x1 = ([115, 119, 105, 116, 99, 104, 101, 115, 32, 50, 10, 119, 101, 105, 103, 104, 116, 115, 32, 51, 102, 102, 48, 48, 48, 48, 48, 48, 48, 48, 48, 48, 48, 48, 48, 10, 115, 116, 97, 114, 116, 115, 32, 48, 32, 45, 52, 10, 114, 97, 116, 101, 32, 48, 10, 114, 111, 111, 109, 32, 48, 10, 119, 105, 100, 101, 32, 48, 10, 108, 101, 97, 100, 32, 48, 10, 109, 97, 114, 103, 105, 110, 32, 48, 10, 114, 101, 116, 114, 121, 32, 49, 10] : List UInt8) then (if x2.2.1 = 0 then (if x2.2.2 = 0 then (Ea ((2, ([] : List (Int × Int × Int × Int × Int × Int)), ([] : List (Int × Int))), ([([4607182418800017408] : List Int)] : List (List Int)), ([0, (-4)] : List Int), 0, 0, 0, 0, 0, 1) x2.1).bind fun x4 => some x4 else some false) else some false) else some false).bind fun x3 => some x3
theorem I4 (Y : Nat → Prop) (w0 : World)   (r : Bool) (H : E6  = some r) (hG : Gk [] w0) :
    Calls Tryz.prog 5 #[] w0 fun e w' => e = .returned (.bool r) ∧ Below w0.heap.size w0 w' := by
 refine enter Tryz.func5 Aa Tryz.ntmps5 Aa fun a F => ?_
 have W := Stw.start Y w0
 unfold E6 at H
 refine vc tk 7 F W fun a w F W => ?_
 refine ls F W Aa (Fa (v := Value.agg #[.int .i64 2, .slice none 0 0, .slice none 0 0]) TV F Aa Aa Aa).q fun a w F W => ?_
 refine CY (z := Value.int .u64 0) (cs := [.int .u64 4607182418800017408]) (Rp.int .u64) ([4607182418800017408] : List Int) F W Aa Pn S0 Aa Aa Aa Aa Aa Aa (Fl.int.repL _ _ ([4607182418800017408] : List Int)) fun v1 a w F W => ?_
 have W := W.freeze
 refine CY (z := Value.slice none 0 0) (cs := [v1]) (Rp.slice (Rp.int .u64)) ([([4607182418800017408] : List Int)] : List (List Int)) F W Aa NW SJ Aa Aa Aa (EZ Aa (FV (W.oneF (k := 0) Aa)) Aa Im) Aa Aa ⟨[v1], _, Aa, ⟨_, Aa, (W.item (i := 0) Aa)⟩, Aa⟩ fun v2 a w F W => ?_
 refine CY (z := Value.int .i64 0) (cs := [.int .i64 0, .int .i64 (-4)]) (Rp.int .i64) ([0, (-4)] : List Int) F W Aa Fb Z3 Aa Aa Aa Aa Aa Aa (Fl.int.repL _ _ ([0, (-4)] : List Int)) fun v3 a w F W => ?_
 refine ls F W Aa (Fa (v := Value.agg #[.int .i64 2, .slice none 0 0, .slice none 0 0, v2, v3, .int .i64 0, .int .i64 0, .int .i64 0, .int .i64 0, .int .i64 0, .int .i64 1]) SW F Aa (EZ Aa Aa Aa (EZ Aa (FV (W.one (k := 1) Aa)) Aa (EZ Aa (FV (W.one (k := 0) Aa)) Aa (EZ Aa Aa Aa Im)))) Aa).q fun a w F W => ?_
 refine DI (cs := (Dr)) F W Aa P2 Aa fun b1 a w F W => ?_
 refine Bg (vs := [.int .i64 2, .slice none 0 0, .slice none 0 0, v2, v3, .int .i64 0, .int .i64 0, .int .i64 0, .int .i64 0, .int .i64 0, .int .i64 1]) (M' := (OA b1 v2 v3)) 0 F W Aa Aa Aa ET Aa Aa Aa (Ai Aa (Ai Aa (Ai Aa (Ai (W.one (k := 1) Aa) (Ai (W.one (k := 0) Aa) (Ai Aa (Ai Aa (Ai Aa (Ai Aa (Ai Aa (Ai Aa ER))))))))))) Aa fun w W => ?_
 refine GO tk 5 [0] F W (ai fun a w F W => ?_)
 obtain ⟨x1, h1, H⟩ := Ae H
 refine ls F W Aa (AE (v := Value.string (bs x1)) F H8 Aa (fun w W => Iu any w (Value.slice none 0 0) (Value.slice none 0 0) (v2) (v3) ((2, ([] : List (Int × Int × Int × Int × Int × Int)), ([] : List (Int × Int))), ([([4607182418800017408] : List Int)] : List (List Int)), ([0, (-4)] : List Int), 0, 0, 0, 0, 0, 1) _ h1 Sl.nil Sl.nil (((Ap 1 Aa) : CW _ _ _ _ _ _) w W).nx (((Ap 0 Aa) : CW _ _ _ _ _ _) w W).nx (hG.go0 W))) fun a w F W => ?_
 refine C5 tk 6 F W fun a w F W => ?_
 obtain ⟨x2, h2, H⟩ := Ae H
 refine AC (Ml := []) (Zl := []) (M := (OA b1 v2 v3)) (Z := [row v3 3 (Rp.int .i64) ([0, (-4)] : List Int), row v2 40 (Rp.slice (Rp.int .u64)) ([([4607182418800017408] : List Int)] : List (List Int)), KY v1 (Rp.int .u64) ([4607182418800017408] : List Int)]) (β := Value × Value × Value × Value) (rv := fun x => .tuple #[.agg #[.int .i64 x2.1.1.1, x.1, x.2.1, x.2.2.1, x.2.2.2, .int .i64 x2.1.2.2.2.1, .int .i64 x2.1.2.2.2.2.1, .int .i64 x2.1.2.2.2.2.2.1, .int .i64 x2.1.2.2.2.2.2.2.1, .int .i64 x2.1.2.2.2.2.2.2.2.1, .int .i64 x2.1.2.2.2.2.2.2.2.2], .int .i64 x2.2.1, .int .i64 x2.2.2]) (MM := fun x => []) (ZZ := fun x => [row x.1 50 AV x2.1.1.2.1, row x.2.1 52 A3 x2.1.1.2.2, row x.2.2.1 40 (Rp.slice (Rp.int .u64)) x2.1.2.1, row x.2.2.2 3 (Rp.int .i64) x2.1.2.2.1]) F W H6 Aa Aa (fun hL => HP _ w x1 _ h2 (hG.go0 W)) fun x a w F W => ?_
 obtain ⟨v4, v5, v6, v7⟩ := x
 have W : Stw ⟨Y, [], w0⟩ (OA b1 v2 v3) [row v4 50 AV x2.1.1.2.1, row v5 52 A3 x2.1.1.2.2, row v6 40 (Rp.slice (Rp.int .u64)) x2.1.2.1, row v7 3 (Rp.int .i64) x2.1.2.2.1, row v3 3 (Rp.int .i64) ([0, (-4)] : List Int), row v2 40 (Rp.slice (Rp.int .u64)) ([([4607182418800017408] : List Int)] : List (List Int)), KY v1 (Rp.int .u64) ([4607182418800017408] : List Int)] w := W
 refine ls F W Aa (Am F Aa).q fun a w F W => ?_
 refine ls F W Aa (Au (v := Value.agg #[.int .i64 x2.1.1.1, v4, v5, v6, v7, .int .i64 x2.1.2.2.2.1, .int .i64 x2.1.2.2.2.2.1, .int .i64 x2.1.2.2.2.2.2.1, .int .i64 x2.1.2.2.2.2.2.2.1, .int .i64 x2.1.2.2.2.2.2.2.2.1, .int .i64 x2.1.2.2.2.2.2.2.2.2]) F Aa Aa).q fun a w F W => ?_
 refine ls F W Aa (Au (v := Value.int .i64 x2.2.1) F Aa Aa).q fun a w F W => ?_
 refine ls F W Aa (Au (v := Value.int .i64 x2.2.2) F Aa Aa).q fun a w F W => ?_
 refine DI (cs := (Dr)) F W Aa P2 Aa fun b2 a w F W => ?_
 refine Bg (vs := (HO x2 v4 v5 v6 v7)) (M' := (KT b2 x2 v4 v5 v6 v7 b1 v2 v3)) 0 F W Aa Aa Aa ET Aa Aa Aa (Ai Aa (Ai (W.one (k := 0) Aa) (Ai (W.one (k := 1) Aa) (Ai (W.one (k := 2) Aa) (Ai (W.one (k := 3) Aa) (Ai Aa (Ai Aa (Ai Aa (Ai Aa (Ai Aa (Ai Aa ER))))))))))) Aa fun w W => ?_
 refine vl tk 3 F W fun a w F W => ?_
 refine Ac ?_
 obtain ⟨o1, G1, K1⟩ := Ae H
 refine Aw (fun a w => ∃ x3 : Bool, some (x3) = some o1 ∧ Fr 34 [] [(0, .bool x3)] a ∧ Stw ⟨Y, [], w0⟩ (KT b2 x2 v4 v5 v6 v7 b1 v2 v3) [row v4 50 AV x2.1.1.2.1, row v5 52 A3 x2.1.1.2.2, row v6 40 (Rp.slice (Rp.int .u64)) x2.1.2.1, row v7 3 (Rp.int .i64) x2.1.2.2.1, row v2 40 (Rp.slice (Rp.int .u64)) ([([4607182418800017408] : List Int)] : List (List Int)), row v3 3 (Rp.int .i64) ([0, (-4)] : List Int)] w) ?_ ?_
 ·
  have H := G1
  clear G1 K1
  refine vc tk 2 F W fun a w F W => ?_
  refine ls F W Aa (JF (l := x1) (m := ([115, 119, 105, 116, 99, 104, 101, 115, 32, 50, 10, 119, 101, 105, 103, 104, 116, 115, 32, 51, 102, 102, 48, 48, 48, 48, 48, 48, 48, 48, 48, 48, 48, 48, 48, 10, 115, 116, 97, 114, 116, 115, 32, 48, 32, 45, 52, 10, 114, 97, 116, 101, 32, 48, 10, 114, 111, 111, 109, 32, 48, 10, 119, 105, 100, 101, 32, 48, 10, 108, 101, 97, 100, 32, 48, 10, 109, 97, 114, 103, 105, 110, 32, 48, 10, 114, 101, 116, 114, 121, 32, 49, 10] : List UInt8)) F Aa Aa).q fun a w F W => ?_
  refine ls F W Aa (Am F Aa).q fun a w F W => ?_
  rcases Bool.eq_false_or_eq_true (decide (x1 = ([115, 119, 105, 116, 99, 104, 101, 115, 32, 50, 10, 119, 101, 105, 103, 104, 116, 115, 32, 51, 102, 102, 48, 48, 48, 48, 48, 48, 48, 48, 48, 48, 48, 48, 48, 10, 115, 116, 97, 114, 116, 115, 32, 48, 32, 45, 52, 10, 114, 97, 116, 101, 32, 48, 10, 114, 111, 111, 109, 32, 48, 10, 119, 105, 100, 101, 32, 48, 10, 108, 101, 97, 100, 32, 48, 10, 109, 97, 114, 103, 105, 110, 32, 48, 10, 114, 101, 116, 114, 121, 32, 49, 10] : List UInt8))) with hb | hb
  ·
   have H := Cu (Dc hb) H
   rw [hb] at F
   clear hb
   refine vl tk 4 F W fun a w F W => ?_
   rcases Bool.eq_false_or_eq_true (decide (x2.2.1 = 0)) with hb | hb
   ·
    have H := Cu (Dc hb) H
    rw [hb] at F
    clear hb
    refine vl tk 4 F W fun a w F W => ?_
    rcases Bool.eq_false_or_eq_true (decide (x2.2.2 = 0)) with hb | hb
    ·
     have H := Cu (Dc hb) H
     rw [hb] at F
     clear hb
     refine LA tk 2 [1, 0] F W (ai (ai fun a w F W => ?_))
     refine E5 (Ag F Aa Aa Aa Aa) ?_
     obtain ⟨x4, h3, H⟩ := Ae H
     refine ls F W Aa (AE (v := Value.bool x4) F S4 Aa (fun w W => IC any w (Value.slice none 0 0) (Value.slice none 0 0) (v2) (v3) (v4) (v5) (v6) (v7) ((2, ([] : List (Int × Int × Int × Int × Int × Int)), ([] : List (Int × Int))), ([([4607182418800017408] : List Int)] : List (List Int)), ([0, (-4)] : List Int), 0, 0, 0, 0, 0, 1) x2.1 _ h3 Sl.nil Sl.nil (((Ap 5 Aa) : CW _ _ _ _ _ _) w W).nx (((Ap 4 Aa) : CW _ _ _ _ _ _) w W).nx (((Ap 0 Aa) : CW _ _ _ _ _ _) w W).nx (((Ap 1 Aa) : CW _ _ _ _ _ _) w W).nx (((Ap 2 Aa) : CW _ _ _ _ _ _) w W).nx (((Ap 3 Aa) : CW _ _ _ _ _ _) w W).nx)) fun a w F W => ?_
     refine vl tk 3 F W fun a w F W => ?_
     refine Ac ?_
     have W := W.frontZ (i := 4) Aa Aa
     have W := W.frontZ (i := 5) Aa Aa
     have W := W.frontZ (i := 5) Aa Aa
     have W := W.frontZ (i := 5) Aa Aa
     have W := W.frontZ (i := 5) Aa Aa
     have W := W.frontZ (i := 5) Aa Aa
     have W := W.frontM (i := 1) Aa Aa
     have W := W.frontM (i := 1) Aa Aa
     have W := W.sub (M' := (KT b2 x2 v4 v5 v6 v7 b1 v2 v3)) (Z' := [row v4 50 AV x2.1.1.2.1, row v5 52 A3 x2.1.1.2.2, row v6 40 (Rp.slice (Rp.int .u64)) x2.1.2.1, row v7 3 (Rp.int .i64) x2.1.2.2.1, row v2 40 (Rp.slice (Rp.int .u64)) ([([4607182418800017408] : List Int)] : List (List Int)), row v3 3 (Rp.int .i64) ([0, (-4)] : List Int)]) (List.Sublist.refl _) (List.Sublist.cons_cons _ (List.Sublist.cons_cons _ (List.Sublist.cons_cons _ (List.Sublist.cons_cons _ (List.Sublist.cons_cons _ (List.Sublist.cons_cons _ (List.nil_sublist _)))))))
     exact ⟨_, H, F.ra Aa, W⟩
    have H := Ct (Db hb) H
    rw [hb] at F
    clear hb
    refine vl tk 6 F W fun a w F W => ?_
    refine Ac ?_
    have W := W.frontZ (i := 4) Aa Aa
    have W := W.frontZ (i := 5) Aa Aa
    have W := W.frontZ (i := 5) Aa Aa
    have W := W.frontZ (i := 5) Aa Aa
    have W := W.frontZ (i := 5) Aa Aa
    have W := W.frontZ (i := 5) Aa Aa
    have W := W.frontM (i := 1) Aa Aa
    have W := W.frontM (i := 1) Aa Aa
    have W := W.sub (M' := (KT b2 x2 v4 v5 v6 v7 b1 v2 v3)) (Z' := [row v4 50 AV x2.1.1.2.1, row v5 52 A3 x2.1.1.2.2, row v6 40 (Rp.slice (Rp.int .u64)) x2.1.2.1, row v7 3 (Rp.int .i64) x2.1.2.2.1, row v2 40 (Rp.slice (Rp.int .u64)) ([([4607182418800017408] : List Int)] : List (List Int)), row v3 3 (Rp.int .i64) ([0, (-4)] : List Int)]) (List.Sublist.refl _) (List.Sublist.cons_cons _ (List.Sublist.cons_cons _ (List.Sublist.cons_cons _ (List.Sublist.cons_cons _ (List.Sublist.cons_cons _ (List.Sublist.cons_cons _ (List.nil_sublist _)))))))
    exact ⟨_, H, F.ra Aa, W⟩
   have H := Ct (Db hb) H
   rw [hb] at F
   clear hb
   refine vl tk 10 F W fun a w F W => ?_
   refine Ac ?_
   have W := W.frontZ (i := 4) Aa Aa
   have W := W.frontZ (i := 5) Aa Aa
   have W := W.frontZ (i := 5) Aa Aa
   have W := W.frontZ (i := 5) Aa Aa
   have W := W.frontZ (i := 5) Aa Aa
   have W := W.frontZ (i := 5) Aa Aa
   have W := W.frontM (i := 1) Aa Aa
   have W := W.frontM (i := 1) Aa Aa
   have W := W.sub (M' := (KT b2 x2 v4 v5 v6 v7 b1 v2 v3)) (Z' := [row v4 50 AV x2.1.1.2.1, row v5 52 A3 x2.1.1.2.2, row v6 40 (Rp.slice (Rp.int .u64)) x2.1.2.1, row v7 3 (Rp.int .i64) x2.1.2.2.1, row v2 40 (Rp.slice (Rp.int .u64)) ([([4607182418800017408] : List Int)] : List (List Int)), row v3 3 (Rp.int .i64) ([0, (-4)] : List Int)]) (List.Sublist.refl _) (List.Sublist.cons_cons _ (List.Sublist.cons_cons _ (List.Sublist.cons_cons _ (List.Sublist.cons_cons _ (List.Sublist.cons_cons _ (List.Sublist.cons_cons _ (List.nil_sublist _)))))))
   exact ⟨_, H, F.ra Aa, W⟩
  have H := Ct (Db hb) H
  rw [hb] at F
  clear hb
  refine vl tk 14 F W fun a w F W => ?_
  refine Ac ?_
  have W := W.frontZ (i := 4) Aa Aa
  have W := W.frontZ (i := 5) Aa Aa
  have W := W.frontZ (i := 5) Aa Aa
  have W := W.frontZ (i := 5) Aa Aa
  have W := W.frontZ (i := 5) Aa Aa
  have W := W.frontZ (i := 5) Aa Aa
  have W := W.frontM (i := 1) Aa Aa
  have W := W.frontM (i := 1) Aa Aa
  have W := W.sub (M' := (KT b2 x2 v4 v5 v6 v7 b1 v2 v3)) (Z' := [row v4 50 AV x2.1.1.2.1, row v5 52 A3 x2.1.1.2.2, row v6 40 (Rp.slice (Rp.int .u64)) x2.1.2.1, row v7 3 (Rp.int .i64) x2.1.2.2.1, row v2 40 (Rp.slice (Rp.int .u64)) ([([4607182418800017408] : List Int)] : List (List Int)), row v3 3 (Rp.int .i64) ([0, (-4)] : List Int)]) (List.Sublist.refl _) (List.Sublist.cons_cons _ (List.Sublist.cons_cons _ (List.Sublist.cons_cons _ (List.Sublist.cons_cons _ (List.Sublist.cons_cons _ (List.Sublist.cons_cons _ (List.nil_sublist _)))))))
  exact ⟨_, H, F.ra Aa, W⟩
 rintro a w ⟨x3, hj, F, W⟩
 have hj := AA hj
 subst hj
 have H := K1
 clear G1 K1
 refine Ax ?_
 have H := AA H
 subst H
 refine BB (.inl Aa) F W Aa (Ao F Aa) ?_
 exact ⟨rfl, W.done⟩
theorem H5 : Has Tryz.prog 5 := ⟨fun args w => Af Tryz.func5 rfl (by decide) args w⟩
theorem Z9 : (Tryz.prog.info? 9).bind (·.zero) = some (.string (bs ([] : List UInt8))) := by kernel_rfl
noncomputable def C2 (p0 : List UInt8) : (List (List UInt8) × Int × Int) → Option ((List (List UInt8) × Int × Int) ⊕ (List (List UInt8) × Int))
  | (x3, x4, x5) => (if x5 < (p0.length : Int) then ((ix p0 x5).bind fun x8 => (if (x8.toNat : Int) = 10 then (D3 p0 x4 x5).bind fun x9 => (Dg x3 ([x9] : List (List UInt8))).bind fun x10 => some (x10, BD (x5 + 1)) else some (x3, x4))).bind fun (x6, x7) => some (.inl (x6, x7, BD (x5 + 1))) else some (.inr (x3, x4)))
noncomputable def GH (p0 : List UInt8) : Option (List (List UInt8)) := (Av (C2 p0) ([], 0, 0)).bind fun (x1, x2) => (D3 p0 x2 (p0.length : Int)).bind fun x11 => (Dg x1 ([x11] : List (List UInt8))).bind fun x12 => some x12
theorem Mn (Y : Nat → Prop) (w0 : World)  (p0 : List UInt8) (r : List (List UInt8)) (H : GH p0 = some r)  :
    Calls Tryz.prog 19 #[.string (bs p0)] w0 fun e w' => ∃ x : Value, e = .returned (x) ∧ Stw ⟨Y, [], w0⟩ [] [row (x) 9 Rp.str r] w' := by
 refine enter Tryz.func19 Aa Tryz.ntmps19 Aa fun a F => ?_
 have W := Stw.start Y w0
 unfold GH at H
 refine vc tk 15 F W fun a w F W => ?_
 obtain ⟨o1, G1, K1⟩ := Ae H
 refine Aw (fun a w => ∃ x1 : List (List UInt8), ∃ x2 : Int, ∃ v1 : Value, some ((x1, x2)) = some o1 ∧ Fr 31 [] [(0, .string (bs p0)), (2, .slice none 0 0), (3, v1), (4, .int .i64 x2)] a ∧ Stw ⟨Y, [], w0⟩ [] [row v1 9 Rp.str x1] w) ?_ ?_
 ·
  have H := G1
  clear G1 K1
  refine vc tk 6 F W fun a w F W => ?_
  have W := W.nilRow 9 Rp.str
  refine Bl H (fun s a w => ∃ v2 : Value, Fr 31 [] [(0, .string (bs p0)), (2, .slice none 0 0), (3, v2), (4, .int .i64 s.2.1), (5, .int .i64 s.2.2)] a ∧ Stw ⟨Y, [], w0⟩ [] [row v2 9 Rp.str s.1] w) ⟨(Value.slice none 0 0), F.ra Aa, W⟩ fun s o a w H L2 hR => ?_
  obtain ⟨x3, x4, x5⟩ := s
  obtain ⟨v2, F, W⟩ := hR
  have F : Fr 31 [] [(0, .string (bs p0)), (2, .slice none 0 0), (3, v2), (4, .int .i64 x4), (5, .int .i64 x5)] a := F
  have W : Stw ⟨Y, [], w0⟩ [] [row v2 9 Rp.str x3] w := W
  rw [C2] at H
  refine vc tk 5 F W fun a w F W => ?_
  refine ls F W Aa (Eh (l := p0) Eu Aa F Aa).q fun a w F W => ?_
  refine vl tk 2 F W fun a w F W => ?_
  refine Ac ?_
  refine Bq F Aa H (fun F H => ?_) fun F H => ?_
  ·
   refine Bp (Ac ?_)
   obtain ⟨o3, G3, K3⟩ := Ae H
   refine Aw (fun a w => ∃ x6 : List (List UInt8), ∃ x7 : Int, ∃ v3 : Value, some ((x6, x7)) = some o3 ∧ Fr 31 [] [(0, .string (bs p0)), (2, .slice none 0 0), (3, v3), (4, .int .i64 x7), (5, .int .i64 x5)] a ∧ Stw ⟨Y, [], w0⟩ [] [row v3 9 Rp.str x6] w) ?_ ?_
   ·
    have H := G3
    clear G3 K3
    refine vc tk 5 F W fun a w F W => ?_
    obtain ⟨x8, h1, H⟩ := Ae H
    refine ls F W Aa (Bn (l := p0) Eu F Aa Aa h1).q fun a w F W => ?_
    refine vl tk 2 F W fun a w F W => ?_
    refine Ac ?_
    refine Bq F Aa H (fun F H => ?_) fun F H => ?_
    ·
     refine vc tk 6 F W fun a w F W => ?_
     obtain ⟨x9, h2, H⟩ := Ae H
     refine ls F W Aa (D7 (l := p0) Eu F Aa Aa Aa h2).q fun a w F W => ?_
     refine CY (z := Value.string (bs ([] : List UInt8))) (cs := [.string (bs x9)]) Rp.str ([x9] : List (List UInt8)) F W Aa JP Z9 Aa Aa Aa Aa Aa Aa (Fl.str.repL _ _ ([x9] : List (List UInt8))) fun v4 a w F W => ?_
     obtain ⟨x10, h3, H⟩ := Ae H
     refine Do (r := Rp.str) (i := 1) F W Aa JP Aa Aa Aa Aa (DZ W 0 Aa) h3 Aa fun v5 a w F W => ?_
     have W : Stw ⟨Y, [], w0⟩ [] [row v5 9 Rp.str x10, row v4 9 Rp.str ([x9] : List (List UInt8))] w := W
     refine C5 tk 8 F W fun a w F W => ?_
     refine AB (Ac ?_)
     have W := W.sub (M' := []) (Z' := [row v5 9 Rp.str x10]) (List.Sublist.refl _) (List.Sublist.cons_cons _ (List.nil_sublist _))
     exact ⟨_, _, (v5), H, F.ra Aa, W⟩
    refine Bp (AB (Ac ?_))
    exact ⟨_, _, (v2), H, F.ra Aa, W⟩
   rintro a w ⟨x6, x7, v3, hj, F, W⟩
   have hj := AA hj
   subst hj
   have H := K3
   clear G3 K3
   refine vc tk 5 F W fun a w F W => ?_
   refine Ac ?_
   exact ⟨_, H, (v3), F.ra Aa, W⟩
  refine A1 ?_
  iterate 2 refine BC ?_
  refine Bb (Ac ?_)
  have H := L2 _ H
  exact ⟨_, _, (v2), H, F.ra Aa, W⟩
 rintro a w ⟨x1, x2, v1, hj, F, W⟩
 have hj := AA hj
 subst hj
 have H := K1
 clear G1 K1
 refine vc tk 5 F W fun a w F W => ?_
 obtain ⟨x11, h4, H⟩ := Ae H
 refine ls F W Aa (D7 (l := p0) Eu F Aa Aa Aa h4).q fun a w F W => ?_
 refine CY (z := Value.string (bs ([] : List UInt8))) (cs := [.string (bs x11)]) Rp.str ([x11] : List (List UInt8)) F W Aa JP Z9 Aa Aa Aa Aa Aa Aa (Fl.str.repL _ _ ([x11] : List (List UInt8))) fun v6 a w F W => ?_
 obtain ⟨x12, h5, H⟩ := Ae H
 refine Do (r := Rp.str) (i := 1) F W Aa JP Aa Aa Aa Aa (DZ W 0 Aa) h5 Aa fun v7 a w F W => ?_
 have W : Stw ⟨Y, [], w0⟩ [] [row v7 9 Rp.str x12, row v6 9 Rp.str ([x11] : List (List UInt8))] w := W
 refine vl tk 2 F W fun a w F W => ?_
 refine Ac (Ax ?_)
 have H := AA H
 subst H
 refine BB (.inl Aa) F W Aa (Ao F Aa) ?_
 have W := W.sub (M' := []) (Z' := [row v7 9 Rp.str x12]) (List.Sublist.refl _) (List.Sublist.cons_cons _ (List.nil_sublist _))
 exact ⟨(v7), Aa, W⟩
theorem TI : Has Tryz.prog 19 := ⟨fun args w => Af Tryz.func19 rfl (by decide) args w⟩
noncomputable def Cz (p0 : List UInt8) : (List (List UInt8) × Int × Int) → Option ((List (List UInt8) × Int × Int) ⊕ (List (List UInt8)))
  | (x2, x3, x4) => (if x4 ≤ (p0.length : Int) then ((if x4 = (p0.length : Int) then some true else (ix p0 x4).bind fun x8 => some (decide ((x8.toNat : Int) = 32))).bind fun x7 => (if x7 = true then (D3 p0 x3 x4).bind fun x9 => (Dg x2 ([x9] : List (List UInt8))).bind fun x10 => some (x10, BD (x4 + 1)) else some (x2, x3))).bind fun (x5, x6) => some (.inl (x5, x6, BD (x4 + 1))) else some (.inr x2))
noncomputable def E3 (p0 : List UInt8) : Option (List (List UInt8)) := (Av (Cz p0) ([], 0, 0)).bind fun x1 => some x1
theorem Hk (Y : Nat → Prop) (w0 : World)  (p0 : List UInt8) (r : List (List UInt8)) (H : E3 p0 = some r)  :
    Calls Tryz.prog 46 #[.string (bs p0)] w0 fun e w' => ∃ x : Value, e = .returned (x) ∧ Stw ⟨Y, [], w0⟩ [] [row (x) 9 Rp.str r] w' := by
 refine enter Tryz.func46 Aa Tryz.ntmps46 Aa fun a F => ?_
 have W := Stw.start Y w0
 unfold E3 at H
 refine vc tk 15 F W fun a w F W => ?_
 obtain ⟨o1, G1, K1⟩ := Ae H
 refine Aw (fun a w => ∃ x1 : List (List UInt8), ∃ v1 : Value, some (x1) = some o1 ∧ Fr 32 [] [(2, .slice none 0 0), (3, v1)] a ∧ Stw ⟨Y, [], w0⟩ [] [row v1 9 Rp.str x1] w) ?_ ?_
 ·
  have H := G1
  clear G1 K1
  refine vc tk 6 F W fun a w F W => ?_
  have W := W.nilRow 9 Rp.str
  refine Bl H (fun s a w => ∃ v2 : Value, Fr 32 [] [(0, .string (bs p0)), (2, .slice none 0 0), (3, v2), (4, .int .i64 s.2.1), (5, .int .i64 s.2.2)] a ∧ Stw ⟨Y, [], w0⟩ [] [row v2 9 Rp.str s.1] w) ⟨(Value.slice none 0 0), F.ra Aa, W⟩ fun s o a w H L2 hR => ?_
  obtain ⟨x2, x3, x4⟩ := s
  obtain ⟨v2, F, W⟩ := hR
  have F : Fr 32 [] [(0, .string (bs p0)), (2, .slice none 0 0), (3, v2), (4, .int .i64 x3), (5, .int .i64 x4)] a := F
  have W : Stw ⟨Y, [], w0⟩ [] [row v2 9 Rp.str x2] w := W
  rw [Cz] at H
  refine vc tk 5 F W fun a w F W => ?_
  refine ls F W Aa (Eh (l := p0) Eu Aa F Aa).q fun a w F W => ?_
  refine vl tk 2 F W fun a w F W => ?_
  refine Ac ?_
  refine Bq F Aa H (fun F H => ?_) fun F H => ?_
  ·
   refine Bp (Ac ?_)
   obtain ⟨o3, G3, K3⟩ := Ae H
   refine Aw (fun a w => ∃ x5 : List (List UInt8), ∃ x6 : Int, ∃ v3 : Value, some ((x5, x6)) = some o3 ∧ Fr 32 [] [(0, .string (bs p0)), (2, .slice none 0 0), (3, v3), (4, .int .i64 x6), (5, .int .i64 x4)] a ∧ Stw ⟨Y, [], w0⟩ [] [row v3 9 Rp.str x5] w) ?_ ?_
   ·
    have H := G3
    clear G3 K3
    refine Dk ?_
    obtain ⟨o4, G4, K4⟩ := Ae H
    refine Aw (fun a w => ∃ x7 : Bool, some (x7) = some o4 ∧ Fr 32 [] [(0, .string (bs p0)), (2, .slice none 0 0), (3, v2), (4, .int .i64 x3), (5, .int .i64 x4), (21, .bool x7)] a ∧ Stw ⟨Y, [], w0⟩ [] [row v2 9 Rp.str x2] w) ?_ ?_
    ·
     have H := G4
     clear G4 K4
     refine vc tk 3 F W fun a w F W => ?_
     refine ls F W Aa (Eh (l := p0) Eu Aa F Aa).q fun a w F W => ?_
     refine vl tk 2 F W fun a w F W => ?_
     rcases Bool.eq_false_or_eq_true (decide (x4 = (p0.length : Int))) with hb | hb
     ·
      have H := Cu (Dc hb) H
      rw [hb] at F
      clear hb
      refine vl tk 6 F W fun a w F W => ?_
      refine Ac ?_
      exact ⟨_, H, F.ra Aa, W⟩
     have H := Ct (Db hb) H
     rw [hb] at F
     clear hb
     refine vl tk 2 F W fun a w F W => ?_
     obtain ⟨x8, h1, H⟩ := Ae H
     refine Cw F W (Ag F Aa Aa Aa Aa) Aa (Bi Aa) (Bn (l := p0) Eu F Aa Aa h1).q fun a w F W => ?_
     refine vl tk 3 F W fun a w F W => ?_
     refine Ac ?_
     exact ⟨_, H, F.ra Aa, W⟩
    rintro a w ⟨x7, hj, F, W⟩
    have hj := AA hj
    subst hj
    have H := K4
    clear G4 K4
    refine B2 F Aa H (fun F H => ?_) fun F H => ?_
    ·
     refine vc tk 6 F W fun a w F W => ?_
     obtain ⟨x9, h2, H⟩ := Ae H
     refine ls F W Aa (D7 (l := p0) Eu F Aa Aa Aa h2).q fun a w F W => ?_
     refine CY (z := Value.string (bs ([] : List UInt8))) (cs := [.string (bs x9)]) Rp.str ([x9] : List (List UInt8)) F W Aa JP Z9 Aa Aa Aa Aa Aa Aa (Fl.str.repL _ _ ([x9] : List (List UInt8))) fun v4 a w F W => ?_
     obtain ⟨x10, h3, H⟩ := Ae H
     refine Do (r := Rp.str) (i := 1) F W Aa JP Aa Aa Aa Aa (DZ W 0 Aa) h3 Aa fun v5 a w F W => ?_
     have W : Stw ⟨Y, [], w0⟩ [] [row v5 9 Rp.str x10, row v4 9 Rp.str ([x9] : List (List UInt8))] w := W
     refine C5 tk 8 F W fun a w F W => ?_
     refine AB (Ac ?_)
     have W := W.sub (M' := []) (Z' := [row v5 9 Rp.str x10]) (List.Sublist.refl _) (List.Sublist.cons_cons _ (List.nil_sublist _))
     exact ⟨_, _, (v5), H, F.ra Aa, W⟩
    refine Bp (AB (Ac ?_))
    exact ⟨_, _, (v2), H, F.ra Aa, W⟩
   rintro a w ⟨x5, x6, v3, hj, F, W⟩
   have hj := AA hj
   subst hj
   have H := K3
   clear G3 K3
   refine vc tk 5 F W fun a w F W => ?_
   refine Ac ?_
   exact ⟨_, H, (v3), F.ra Aa, W⟩
  refine A1 ?_
  iterate 2 refine BC ?_
  refine Bb (Ac ?_)
  have H := L2 _ H
  exact ⟨_, (v2), H, F.ra Aa, W⟩
 rintro a w ⟨x1, v1, hj, F, W⟩
 have hj := AA hj
 subst hj
 have H := K1
 clear G1 K1
 refine vc tk 6 F W fun a w F W => ?_
 refine Ax ?_
 have H := AA H
 subst H
 refine BB (.inl Aa) F W Aa (Ao F Aa) ?_
 exact ⟨(v1), Aa, W⟩
theorem SG : Has Tryz.prog 46 := ⟨fun args w => Af Tryz.func46 rfl (by decide) args w⟩
theorem Rs : Has Tryz.prog 52 := ⟨fun args w => Af Tryz.func52 rfl (by decide) args w⟩
noncomputable def Fg (fRec : Int → Option (List UInt8)) (p0 : Int) : Option (List UInt8) := (if p0 < 0 then (if (-10) < p0 then (fRec (BD (0 - p0))).bind fun x1 => (Dg ([45] : List UInt8) x1).bind fun x2 => some x2 else (fRec (BD (0 - (BD (Int.tdiv p0 10))))).bind fun x3 => (Dg ([45] : List UInt8) x3).bind fun x4 => (fRec (BD (0 - (Int.tmod p0 10)))).bind fun x5 => (Dg x4 x5).bind fun x6 => some x6) else (if p0 < 10 then (D3 ([48, 49, 50, 51, 52, 53, 54, 55, 56, 57] : List UInt8) p0 (BD (p0 + 1))).bind fun x7 => some x7 else (fRec (BD (Int.tdiv p0 10))).bind fun x8 => (D3 ([48, 49, 50, 51, 52, 53, 54, 55, 56, 57] : List UInt8) (Int.tmod p0 10) (BD ((Int.tmod p0 10) + 1))).bind fun x9 => (Dg x8 x9).bind fun x10 => some x10))
noncomputable def EN : Nat → Int → Option (List UInt8)
  | 0 => fun _ => none
  | n + 1 => Fg (EN n)
noncomputable def FZ (p0 : Int) : Option (List UInt8) := N1 fun n => EN n p0
theorem J9 (fRec : Int → Option (List UInt8)) (ih : ∀ (Y : Nat → Prop) (w0 : World)  (p0 : Int) (r : List UInt8) (H : fRec p0 = some r) , Calls Tryz.prog 52 #[.int .i64 p0] w0 fun e w' => e = .returned (.string (bs r)) ∧ Below w0.heap.size w0 w') (Y : Nat → Prop) (w0 : World)  (p0 : Int) (r : List UInt8) (H : Fg fRec p0 = some r)  :
    Calls Tryz.prog 52 #[.int .i64 p0] w0 fun e w' => e = .returned (.string (bs r)) ∧ Below w0.heap.size w0 w' := by
 refine enter Tryz.func52 Aa Tryz.ntmps52 Aa fun a F => ?_
 have W := Stw.start Y w0
 unfold Fg at H
 refine vc tk 2 F W fun a w F W => ?_
 refine ls F W Aa (Cc (v := Value.string (bs ([] : List UInt8))) F Aa).q fun a w F W => ?_
 refine C5 tk 9 F W fun a w F W => ?_
 refine Bq F Aa H (fun F H => ?_) fun F H => ?_
 ·
  refine vc tk 7 F W fun a w F W => ?_
  refine Bq F Aa H (fun F H => ?_) fun F H => ?_
  ·
   refine vc tk 4 F W fun a w F W => ?_
   obtain ⟨x1, h1, H⟩ := Ae H
   refine ls F W Aa (AE (v := Value.string (bs x1)) F Rs Aa (fun w W => ih any w (BD (0 - p0)) _ h1)) fun a w F W => ?_
   obtain ⟨x2, h2, H⟩ := Ae H
   refine ls F W Aa (DB (l := ([45] : List UInt8)) (m := x1) F Aa Aa h2).q fun a w F W => ?_
   refine vl tk 2 F W fun a w F W => ?_
   refine Ac (Ax ?_)
   iterate 2 refine Az ?_
   have H := AA H
   subst H
   refine BB (.inl Aa) F W Aa (Ao F Aa) ?_
   exact ⟨rfl, W.done⟩
  refine Ek tk 5 F W fun a w F W => ?_
  refine ls F W Aa (LC F Aa Aa (by decide) Aa).q fun a w F W => ?_
  refine ls F W Aa (Nh F Aa Aa Aa).q fun a w F W => ?_
  obtain ⟨x3, h3, H⟩ := Ae H
  refine ls F W Aa (AE (v := Value.string (bs x3)) F Rs Aa (fun w W => ih any w (BD (0 - (BD (Int.tdiv p0 10)))) _ h3)) fun a w F W => ?_
  obtain ⟨x4, h4, H⟩ := Ae H
  refine ls F W Aa (DB (l := ([45] : List UInt8)) (m := x3) F Aa Aa h4).q fun a w F W => ?_
  refine ls F W Aa (Am F Aa).q fun a w F W => ?_
  refine ls F W Aa (Nr F Aa Aa (by decide) Aa).q fun a w F W => ?_
  refine ls F W Aa (Nh F Aa Aa Aa).q fun a w F W => ?_
  obtain ⟨x5, h5, H⟩ := Ae H
  refine ls F W Aa (AE (v := Value.string (bs x5)) F Rs Aa (fun w W => ih any w (BD (0 - (Int.tmod p0 10))) _ h5)) fun a w F W => ?_
  obtain ⟨x6, h6, H⟩ := Ae H
  refine ls F W Aa (DB (l := x4) (m := x5) F Aa Aa h6).q fun a w F W => ?_
  refine vl tk 2 F W fun a w F W => ?_
  refine Ac (Ax (Az ?_))
  have H := AA H
  subst H
  refine BB (.inl Aa) F W Aa (Ao F Aa) ?_
  exact ⟨rfl, W.done⟩
 refine Ek tk 9 F W fun a w F W => ?_
 refine Bq F Aa H (fun F H => ?_) fun F H => ?_
 ·
  refine vc tk 5 F W fun a w F W => ?_
  obtain ⟨x7, h7, H⟩ := Ae H
  refine ls F W Aa (D7 (l := ([48, 49, 50, 51, 52, 53, 54, 55, 56, 57] : List UInt8)) Eu F Aa Aa Aa h7).q fun a w F W => ?_
  refine vl tk 2 F W fun a w F W => ?_
  refine Ac (Ax (Az ?_))
  have H := AA H
  subst H
  refine BB (.inl Aa) F W Aa (Ao F Aa) ?_
  exact ⟨rfl, W.done⟩
 refine Ek tk 3 F W fun a w F W => ?_
 refine DA W MO (by kernel_rfl) ?_
 refine qs F Aa (Am F Aa).q fun a F => ?_
 refine qs F Aa (LC F Aa Aa (by decide) Aa).q fun a F => ?_
 obtain ⟨x8, h8, H⟩ := Ae H
 refine qs F Aa (AE (v := Value.string (bs x8)) F Rs Aa (fun w W => ih any w (BD (Int.tdiv p0 10)) _ h8)) fun a F => ?_
 refine qs F Aa (Am F Aa).q fun a F => ?_
 refine qs F Aa (Nr F Aa Aa (by decide) Aa).q fun a F => ?_
 refine qs F Aa (Am F Aa).q fun a F => ?_
 refine qs F Aa (Nr F Aa Aa (by decide) Aa).q fun a F => ?_
 refine qs F Aa (QR F Aa Aa Aa).q fun a F => ?_
 obtain ⟨x9, h9, H⟩ := Ae H
 refine qs F Aa (D7 (l := ([48, 49, 50, 51, 52, 53, 54, 55, 56, 57] : List UInt8)) Eu F Aa Aa Aa h9).q fun a F => ?_
 obtain ⟨x10, h10, H⟩ := Ae H
 refine qs F Aa (DB (l := x8) (m := x9) F Aa Aa h10).q fun a F => ?_
 refine qs F Aa (Cc F Aa).q fun a F => ?_
 refine CE fun w W => ?_
 refine Ac (Ax ?_)
 have H := AA H
 subst H
 refine BB (.inl Aa) F W Aa (Ao F Aa) ?_
 exact ⟨rfl, W.done⟩
theorem Kd : ∀ (n : Nat) (Y : Nat → Prop) (w0 : World)  (p0 : Int) (r : List UInt8) (H : EN n p0 = some r) , Calls Tryz.prog 52 #[.int .i64 p0] w0 fun e w' => e = .returned (.string (bs r)) ∧ Below w0.heap.size w0 w' := by
  intro n
  induction n with
  | zero => intro Y w0  p0 r H; exact nomatch H
  | succ n ih => intro Y w0  p0 r H ; exact J9 (EN n) ih Y w0  p0 r H 
theorem Ic (Y : Nat → Prop) (w0 : World)  (p0 : Int) (r : List UInt8) (H : FZ p0 = some r)  :
    Calls Tryz.prog 52 #[.int .i64 p0] w0 fun e w' => e = .returned (.string (bs r)) ∧ Below w0.heap.size w0 w' := by
  obtain ⟨n, H⟩ := NO H
  exact Kd n Y w0  p0 r H 
noncomputable def Cj (p0 : List UInt8) : (Int × Int) → Option ((Int × Int) ⊕ (Int ⊕ (Int × Bool)))
  | (x6, x7) => (if x7 < (p0.length : Int) then ((ix p0 x7).bind fun x9 => (if (x9.toNat : Int) < 48 then some true else (ix p0 x7).bind fun x10 => some (decide (57 < (x10.toNat : Int))))).bind fun x8 => (if x8 = true then some (.inr (.inr (0, false))) else (ix p0 x7).bind fun x11 => some (.inl (BD ((BD ((BD (10 * x6)) + (BD (x11.toNat : Int)))) - 48), BD (x7 + 1)))) else some (.inr (.inl x6)))
noncomputable def Eo (p0 : List UInt8) : Option (Int × Bool) := ((if 0 < (p0.length : Int) then (ix p0 0).bind fun x4 => some (decide ((x4.toNat : Int) = 45)) else some false).bind fun x3 => (if x3 = true then some ((1 : Int), ((-1) : Int)) else some ((0 : Int), (1 : Int)))).bind fun (x1, x2) => (if 17 < (p0.length : Int) then some (0, false) else ES (Av (Cj p0) (0, x1)) fun x5 => ((FZ (BD (x2 * x5))).bind fun x13 => (if x13 = p0 then (if (-1125899906842624) ≤ (BD (x2 * x5)) then some (decide ((BD (x2 * x5)) ≤ 1125899906842624)) else some false) else some false)).bind fun x12 => some (BD (x2 * x5), x12))
theorem K0 (Y : Nat → Prop) (w0 : World)  (p0 : List UInt8) (r : Int × Bool) (H : Eo p0 = some r)  :
    Calls Tryz.prog 47 #[.string (bs p0)] w0 fun e w' => e = .returned (.tuple #[.int .i64 r.1, .bool r.2]) ∧ Below w0.heap.size w0 w' := by
 refine enter Tryz.func47 Aa Tryz.ntmps47 Aa fun a F => ?_
 have W := Stw.start Y w0
 unfold Eo at H
 refine vc tk 12 F W fun a w F W => ?_
 obtain ⟨o1, G1, K1⟩ := Ae H
 refine Aw (fun a w => ∃ x1 : Int, ∃ x2 : Int, some ((x1, x2)) = some o1 ∧ Fr 60 [] [(0, .string (bs p0)), (2, .int .i64 0), (3, .bool false), (4, .int .i64 x1), (5, .int .i64 x2)] a ∧ Stw ⟨Y, [], w0⟩ [] [] w) ?_ ?_
 ·
  have H := G1
  clear G1 K1
  obtain ⟨o2, G2, K2⟩ := Ae H
  refine Aw (fun a w => ∃ x3 : Bool, some (x3) = some o2 ∧ Fr 60 [] [(0, .string (bs p0)), (2, .int .i64 0), (3, .bool false), (4, .int .i64 0), (5, .int .i64 1), (15, .bool x3)] a ∧ Stw ⟨Y, [], w0⟩ [] [] w) ?_ ?_
  ·
   have H := G2
   clear G2 K2
   refine vc tk 2 F W fun a w F W => ?_
   refine ls F W Aa (Eh (l := p0) Eu Aa F Aa).q fun a w F W => ?_
   refine vl tk 2 F W fun a w F W => ?_
   rcases Bool.eq_false_or_eq_true (decide (0 < (p0.length : Int))) with hb | hb
   ·
    have H := Cu (Dc hb) H
    rw [hb] at F
    clear hb
    refine Cw F W (Ag F Aa Aa Aa Aa) Aa (Bi Aa) (Am F Aa).q fun a w F W => ?_
    obtain ⟨x4, h1, H⟩ := Ae H
    refine Cw F W (Ag F Aa Aa Aa Aa) Aa (Bi Aa) (Bn (l := p0) Eu F Aa Aa h1).q fun a w F W => ?_
    refine vl tk 3 F W fun a w F W => ?_
    refine Ac ?_
    exact ⟨_, H, F.ra Aa, W⟩
   have H := Ct (Db hb) H
   rw [hb] at F
   clear hb
   refine vl tk 5 F W fun a w F W => ?_
   refine Ac ?_
   exact ⟨_, H, F.ra Aa, W⟩
  rintro a w ⟨x3, hj, F, W⟩
  have hj := AA hj
  subst hj
  have H := K2
  clear G2 K2
  refine B2 F Aa H (fun F H => ?_) fun F H => ?_
  ·
   refine vc tk 4 F W fun a w F W => ?_
   refine Ac ?_
   exact ⟨_, _, H, F.ra Aa, W⟩
  refine Bp (Ac ?_)
  exact ⟨_, _, H, F.ra Aa, W⟩
 rintro a w ⟨x1, x2, hj, F, W⟩
 have hj := AA hj
 subst hj
 have H := K1
 clear G1 K1
 refine vc tk 4 F W fun a w F W => ?_
 refine ls F W Aa (Eh (l := p0) Eu Aa F Aa).q fun a w F W => ?_
 refine vl tk 2 F W fun a w F W => ?_
 refine Ac ?_
 refine Bq F Aa H (fun F H => ?_) fun F H => ?_
 ·
  refine vc tk 6 F W fun a w F W => ?_
  refine Ax (Az ?_)
  have H := AA H
  subst H
  refine EA (.inl Aa) F W Aa (Ao F Aa) (Ao F Aa) ?_
  exact ⟨rfl, W.done⟩
 refine Ek tk 7 F W fun a w F W => ?_
 obtain ⟨o3, G3, K3, L3⟩ := HU H
 refine Aw (fun a w => ∃ x5 : Int, some (Sum.inl x5) = some o3 ∧ Fr 60 [] [(0, .string (bs p0)), (2, .int .i64 0), (3, .bool false), (5, .int .i64 x2), (6, .int .i64 x5)] a ∧ Stw ⟨Y, [], w0⟩ [] [] w) ?_ ?_
 ·
  have H := G3
  clear G3 K3
  refine vc tk 7 F W fun a w F W => ?_
  refine Bl H (fun s a w => Fr 60 [] [(0, .string (bs p0)), (2, .int .i64 0), (3, .bool false), (5, .int .i64 x2), (6, .int .i64 s.1), (7, .int .i64 s.2)] a ∧ Stw ⟨Y, [], w0⟩ [] [] w) ⟨F.ra Aa, W⟩ fun s o a w H L4 hR => ?_
  obtain ⟨x6, x7⟩ := s
  obtain ⟨F, W⟩ := hR
  have F : Fr 60 [] [(0, .string (bs p0)), (2, .int .i64 0), (3, .bool false), (5, .int .i64 x2), (6, .int .i64 x6), (7, .int .i64 x7)] a := F
  have W : Stw ⟨Y, [], w0⟩ [] [] w := W
  rw [Cj] at H
  refine vc tk 5 F W fun a w F W => ?_
  refine ls F W Aa (Eh (l := p0) Eu Aa F Aa).q fun a w F W => ?_
  refine vl tk 2 F W fun a w F W => ?_
  refine Ac ?_
  refine Bq F Aa H (fun F H => ?_) fun F H => ?_
  ·
   refine Ek tk 5 F W fun a w F W => ?_
   obtain ⟨o5, G5, K5⟩ := Ae H
   refine Aw (fun a w => ∃ x8 : Bool, some (x8) = some o5 ∧ Fr 60 [] [(0, .string (bs p0)), (2, .int .i64 0), (3, .bool false), (5, .int .i64 x2), (6, .int .i64 x6), (7, .int .i64 x7), (35, .bool x8)] a ∧ Stw ⟨Y, [], w0⟩ [] [] w) ?_ ?_
   ·
    have H := G5
    clear G5 K5
    refine vc tk 3 F W fun a w F W => ?_
    obtain ⟨x9, h2, H⟩ := Ae H
    refine ls F W Aa (Bn (l := p0) Eu F Aa Aa h2).q fun a w F W => ?_
    refine vl tk 2 F W fun a w F W => ?_
    rcases Bool.eq_false_or_eq_true (decide ((x9.toNat : Int) < 48)) with hb | hb
    ·
     have H := Cu (Dc hb) H
     rw [hb] at F
     clear hb
     refine vl tk 6 F W fun a w F W => ?_
     refine Ac ?_
     exact ⟨_, H, F.ra Aa, W⟩
    have H := Ct (Db hb) H
    rw [hb] at F
    clear hb
    refine vl tk 2 F W fun a w F W => ?_
    obtain ⟨x10, h3, H⟩ := Ae H
    refine Cw F W (Ag F Aa Aa Aa Aa) Aa (Bi Aa) (Bn (l := p0) Eu F Aa Aa h3).q fun a w F W => ?_
    refine vl tk 3 F W fun a w F W => ?_
    refine Ac ?_
    exact ⟨_, H, F.ra Aa, W⟩
   rintro a w ⟨x8, hj, F, W⟩
   have hj := AA hj
   subst hj
   have H := K5
   clear G5 K5
   refine B2 F Aa H (fun F H => ?_) fun F H => ?_
   ·
    refine vc tk 6 F W fun a w F W => ?_
    refine Ax (Az (AU ?_))
    iterate 2 refine Az ?_
    refine AU (Az ?_)
    have H := L4 _ H
    have H := L3 _ H
    have H := AA H
    subst H
    refine EA (.inl Aa) F W Aa (Ao F Aa) (Ao F Aa) ?_
    exact ⟨rfl, W.done⟩
   refine Ek tk 7 F W fun a w F W => ?_
   obtain ⟨x11, h4, H⟩ := Ae H
   refine ls F W Aa (Bn (l := p0) Eu F Aa Aa h4).q fun a w F W => ?_
   refine ls F W Aa (DY QY Lm F Aa).q fun a w F W => ?_
   refine vl tk 4 F W fun a w F W => ?_
   refine AB ?_
   refine vn tk 5 F W fun a w F W => ?_
   refine Ac ?_
   exact ⟨_, H, F.ra Aa, W⟩
  refine A1 ?_
  iterate 2 refine BC ?_
  refine Bb (Ac ?_)
  have H := L4 _ H
  exact ⟨_, H, F.ra Aa, W⟩
 rintro a w ⟨x5, hj, F, W⟩
 have H := K3 _ hj
 clear hj G3 K3 L3
 refine vc tk 8 F W fun a w F W => ?_
 obtain ⟨o6, G6, K6⟩ := Ae H
 refine Aw (fun a w => ∃ x12 : Bool, some (x12) = some o6 ∧ Fr 60 [] [(2, .int .i64 (BD (x2 * x5))), (3, .bool x12)] a ∧ Stw ⟨Y, [], w0⟩ [] [] w) ?_ ?_
 ·
  have H := G6
  clear G6 K6
  refine vc tk 3 F W fun a w F W => ?_
  obtain ⟨x13, h5, H⟩ := Ae H
  refine ls F W Aa (AE (v := Value.string (bs x13)) F Rs Aa (fun w W => Ic any w (BD (x2 * x5)) _ h5)) fun a w F W => ?_
  refine ls F W Aa (Am F Aa).q fun a w F W => ?_
  refine ls F W Aa (JF (l := x13) (m := p0) F Aa Aa).q fun a w F W => ?_
  refine ls F W Aa (Am F Aa).q fun a w F W => ?_
  rcases Bool.eq_false_or_eq_true (decide (x13 = p0)) with hb | hb
  ·
   have H := Cu (Dc hb) H
   rw [hb] at F
   clear hb
   refine vl tk 4 F W fun a w F W => ?_
   rcases Bool.eq_false_or_eq_true (decide ((-1125899906842624) ≤ (BD (x2 * x5)))) with hb | hb
   ·
    have H := Cu (Dc hb) H
    rw [hb] at F
    clear hb
    refine vl tk 6 F W fun a w F W => ?_
    refine Ac ?_
    exact ⟨_, H, F.ra Aa, W⟩
   have H := Ct (Db hb) H
   rw [hb] at F
   clear hb
   refine vl tk 6 F W fun a w F W => ?_
   refine Ac ?_
   exact ⟨_, H, F.ra Aa, W⟩
  have H := Ct (Db hb) H
  rw [hb] at F
  clear hb
  refine vl tk 10 F W fun a w F W => ?_
  refine Ac ?_
  exact ⟨_, H, F.ra Aa, W⟩
 rintro a w ⟨x12, hj, F, W⟩
 have hj := AA hj
 subst hj
 have H := K6
 clear G6 K6
 refine Ax ?_
 have H := AA H
 subst H
 refine EA (.inl Aa) F W Aa (Ao F Aa) (Ao F Aa) ?_
 exact ⟨rfl, W.done⟩
theorem Tu : Has Tryz.prog 47 := ⟨fun args w => Af Tryz.func47 rfl (by decide) args w⟩
noncomputable def DH (x1 : List (List UInt8)) : (List Int × Int) → Option ((List Int × Int) ⊕ ((List Int) ⊕ (List Int × Bool)))
  | (x3, x4) => (if x4 < (x1.length : Int) then (ix x1 x4).bind fun x5 => (Eo x5).bind fun x6 => (if (!x6.2) = true then some (.inr (.inr (([] : List Int), false))) else (Dg x3 ([x6.1] : List Int)).bind fun x7 => some (.inl (x7, BD (x4 + 1)))) else some (.inr (.inl x3)))
noncomputable def Dn (p0 : List UInt8) (p1 : Int) : Option (List Int × Bool) := (E3 p0).bind fun x1 => ES (Av (DH x1) ([], 1)) fun x2 => some (x2, (decide (p1 < 0) || decide ((x2.length : Int) = p1)))
theorem Gf (Y : Nat → Prop) (w0 : World)  (p0 : List UInt8) (p1 : Int) (r : List Int × Bool) (H : Dn p0 p1 = some r)  :
    Calls Tryz.prog 20 #[.string (bs p0), .int .i64 p1] w0 fun e w' => ∃ x : Value, e = .returned (.tuple #[x, .bool r.2]) ∧ Stw ⟨Y, [], w0⟩ [] [row (x) 3 (Rp.int .i64) r.1] w' := by
 refine enter Tryz.func20 Aa Tryz.ntmps20 Aa fun a F => ?_
 have W := Stw.start Y w0
 unfold Dn at H
 refine vc tk 9 F W fun a w F W => ?_
 obtain ⟨x1, h1, H⟩ := Ae H
 refine AC (Ml := []) (Zl := []) (M := []) (Z := []) (β := Value) (rv := fun x => x) (MM := fun x => []) (ZZ := fun x => [row x 9 Rp.str x1]) F W SG Aa Aa (fun hL => Hk _ w p0 _ h1) fun x a w F W => ?_
 obtain ⟨v1, rfl⟩ : ∃ y, y = x := ⟨x, rfl⟩
 have W : Stw ⟨Y, [], w0⟩ [] [row v1 9 Rp.str x1] w := W
 refine C5 tk 8 F W fun a w F W => ?_
 obtain ⟨o1, G1, K1, L1⟩ := HU H
 refine Aw (fun a w => ∃ x2 : List Int, ∃ v2 : Value, some (Sum.inl x2) = some o1 ∧ Fr 42 [] [(1, .int .i64 p1), (4, .slice none 0 0), (5, .bool false), (7, v2)] a ∧ Stw ⟨Y, [], w0⟩ [] [row v2 3 (Rp.int .i64) x2] w) ?_ ?_
 ·
  have H := G1
  clear G1 K1
  refine vc tk 6 F W fun a w F W => ?_
  have W := W.nilRow 3 (Rp.int .i64)
  have W := W.frontZ (i := 1) Aa Aa
  refine Bl H (fun s a w => ∃ v3 : Value, Fr 42 [] [(1, .int .i64 p1), (4, .slice none 0 0), (5, .bool false), (6, v1), (7, v3), (8, .int .i64 s.2)] a ∧ Stw ⟨Y, [], w0⟩ [] [row v1 9 Rp.str x1, row v3 3 (Rp.int .i64) s.1] w) ⟨(Value.slice none 0 0), F.ra Aa, W⟩ fun s o a w H L2 hR => ?_
  obtain ⟨x3, x4⟩ := s
  obtain ⟨v3, F, W⟩ := hR
  have F : Fr 42 [] [(1, .int .i64 p1), (4, .slice none 0 0), (5, .bool false), (6, v1), (7, v3), (8, .int .i64 x4)] a := F
  have W : Stw ⟨Y, [], w0⟩ [] [row v1 9 Rp.str x1, row v3 3 (Rp.int .i64) x3] w := W
  rw [DH] at H
  refine vc tk 5 F W fun a w F W => ?_
  refine ls F W Aa (BN (r := Rp.str) (l := x1) MJ Aa F Aa (Ap 0 Aa)).q fun a w F W => ?_
  refine vl tk 2 F W fun a w F W => ?_
  refine Ac ?_
  refine Bq F Aa H (fun F H => ?_) fun F H => ?_
  ·
   refine Ek tk 8 F W fun a w F W => ?_
   obtain ⟨x5, h2, H⟩ := Ae H
   refine ls F W Aa (AR (r := Rp.str) JP F Aa Aa (Ap 0 Aa) h2).q fun a w F W => ?_
   refine ls F W Aa (An (y := Value.string (bs x5)) (j := 0) (i := x4) F Aa Aa (Ap 0 Aa) h2 Fl.str.to T9 Aa).q fun a w F W => ?_
   obtain ⟨x6, h3, H⟩ := Ae H
   refine ls F W Aa (AE (v := Value.tuple #[.int .i64 x6.1, .bool x6.2]) F Tu Aa (fun w W => K0 any w x5 _ h3)) fun a w F W => ?_
   refine ls F W Aa (Am F Aa).q fun a w F W => ?_
   refine ls F W Aa (Au (v := Value.int .i64 x6.1) F Aa Aa).q fun a w F W => ?_
   refine ls F W Aa (Au (v := Value.bool x6.2) F Aa Aa).q fun a w F W => ?_
   refine C5 tk 11 F W fun a w F W => ?_
   refine B2 F Aa H (fun F H => ?_) fun F H => ?_
   ·
    refine vc tk 6 F W fun a w F W => ?_
    refine Ax (Az (AU ?_))
    iterate 2 refine Az ?_
    refine AU (Az ?_)
    have H := L2 _ H
    have H := L1 _ H
    have H := AA H
    subst H
    refine EA (.inl Aa) F W Aa (Ao F Aa) (Ao F Aa) ?_
    have W := W.nilRow 3 (Rp.int .i64)
    have W := W.sub (M' := []) (Z' := [row (Value.slice none 0 0) 3 (Rp.int .i64) ([])]) (List.Sublist.refl _) (List.Sublist.cons_cons _ (List.nil_sublist _))
    exact ⟨(Value.slice none 0 0), Aa, W⟩
   refine Ek tk 5 F W fun a w F W => ?_
   refine CY (z := Value.int .i64 0) (cs := [.int .i64 x6.1]) (Rp.int .i64) ([x6.1] : List Int) F W Aa Fb Z3 Aa Aa Aa Aa Aa Aa (Fl.int.repL _ _ ([x6.1] : List Int)) fun v4 a w F W => ?_
   obtain ⟨x7, h4, H⟩ := Ae H
   refine Do (r := (Rp.int .i64)) (i := 2) F W Aa Fb Aa Aa Aa Aa (DZ W 0 Aa) h4 Aa fun v5 a w F W => ?_
   have W : Stw ⟨Y, [], w0⟩ [] [row v5 3 (Rp.int .i64) x7, row v4 3 (Rp.int .i64) ([x6.1] : List Int), row v1 9 Rp.str x1] w := W
   refine vl tk 2 F W fun a w F W => ?_
   refine AB ?_
   refine vn tk 5 F W fun a w F W => ?_
   refine Ac ?_
   have W := W.frontZ (i := 2) Aa Aa
   have W := W.sub (M' := []) (Z' := [row v1 9 Rp.str x1, row v5 3 (Rp.int .i64) x7]) (List.Sublist.refl _) (List.Sublist.cons_cons _ (List.Sublist.cons_cons _ (List.nil_sublist _)))
   exact ⟨_, H, (v5), F.ra Aa, W⟩
  refine A1 ?_
  iterate 2 refine BC ?_
  refine Bb (Ac ?_)
  have W := W.frontZ (i := 1) Aa Aa
  have W := W.sub (M' := []) (Z' := [row v3 3 (Rp.int .i64) x3]) (List.Sublist.refl _) (List.Sublist.cons_cons _ (List.nil_sublist _))
  have H := L2 _ H
  exact ⟨_, (v3), H, F.ra Aa, W⟩
 rintro a w ⟨x2, v2, hj, F, W⟩
 have H := K1 _ hj
 clear hj G1 K1 L1
 refine Aw (fun a w => Fr 42 [] [(4, v2), (5, .bool (decide (p1 < 0) || decide ((x2.length : Int) = p1)))] a ∧ Stw ⟨Y, [], w0⟩ [] [row v2 3 (Rp.int .i64) x2] w) ?_ ?_
 ·
  refine vc tk 5 F W fun a w F W => ?_
  rcases Bool.eq_false_or_eq_true (decide (p1 < 0)) with hb0 | hb0
  ·
   rw [hb0] at F
   refine vl tk 8 F W fun a w F W => ?_
   refine Ac ?_
   exact ⟨F.re ⟨rfl, (JR (by try rw [hb0]; all_goals simp only [JI])), trivial⟩, W⟩
  rw [hb0] at F
  refine Cw F W (Ag F Aa Aa Aa Aa) Aa (Bi Aa) (Am F Aa).q fun a w F W => ?_
  refine Cw F W (Ag F Aa Aa Aa Aa) Aa (Bi Aa) (BN (r := (Rp.int .i64)) (l := x2) Jg Aa F Aa (Ap 0 Aa)).q fun a w F W => ?_
  refine vl tk 6 F W fun a w F W => ?_
  refine Ac ?_
  exact ⟨F.re ⟨rfl, (JR (by try rw [hb0]; all_goals simp only [JI])), trivial⟩, W⟩
 rintro a w ⟨F, W⟩
 refine Ax ?_
 have H := AA H
 subst H
 refine EA (.inl Aa) F W Aa (Ao F Aa) (Ao F Aa) ?_
 exact ⟨(v2), Aa, W⟩
theorem R2 : Has Tryz.prog 20 := ⟨fun args w => Af Tryz.func20 rfl (by decide) args w⟩
noncomputable def Ba (p0 : List (List UInt8)) (p1 : Int) (p2 : List UInt8) : Option Bool := (if p1 < (BD ((p0.length : Int) - 1)) then (ix p0 p1).bind fun x2 => (E3 x2).bind fun x3 => (ix x3 0).bind fun x4 => some (decide (x4 = p2)) else some false).bind fun x1 => some x1
theorem Ey (Y : Nat → Prop) (w0 : World) (v1 : Value) (p0 : List (List UInt8)) (p1 : Int) (p2 : List UInt8) (r : Bool) (H : Ba p0 p1 p2 = some r) (h_v1 : Sl w0 (NX []) Rp.str v1 p0) :
    Calls Tryz.prog 21 #[v1, .int .i64 p1, .string (bs p2)] w0 fun e w' => e = .returned (.bool r) ∧ Below w0.heap.size w0 w' := by
 refine enter Tryz.func21 Aa Tryz.ntmps21 Aa fun a F => ?_
 have W := Stw.start Y w0
 unfold Ba at H
 refine vc tk 5 F W fun a w F W => ?_
 obtain ⟨o1, G1, K1⟩ := Ae H
 refine Aw (fun a w => ∃ x1 : Bool, some (x1) = some o1 ∧ Fr 23 [] [(6, .bool x1)] a ∧ Stw ⟨Y, [], w0⟩ [] [] w) ?_ ?_
 ·
  have H := G1
  clear G1 K1
  refine vc tk 3 F W fun a w F W => ?_
  refine ls F W Aa (BN (r := Rp.str) (l := p0) MJ Aa F Aa (Ah h_v1)).q fun a w F W => ?_
  refine vl tk 3 F W fun a w F W => ?_
  rcases Bool.eq_false_or_eq_true (decide (p1 < (BD ((p0.length : Int) - 1)))) with hb | hb
  ·
   have H := Cu (Dc hb) H
   rw [hb] at F
   clear hb
   refine vl tk 2 F W fun a w F W => ?_
   obtain ⟨x2, h1, H⟩ := Ae H
   refine Cw F W (Ag F Aa Aa Aa Aa) Aa (Bi Aa) (AR (r := Rp.str) JP F Aa Aa (Ah h_v1) h1).q fun a w F W => ?_
   refine Cw F W (Ag F Aa Aa Aa Aa) Aa (Bi Aa) (An (y := Value.string (bs x2)) (j := 0) (i := p1) F Aa Aa (Ah h_v1) h1 Fl.str.to T9 Aa).q fun a w F W => ?_
   refine E5 (Ag F Aa Aa Aa Aa) ?_
   obtain ⟨x3, h2, H⟩ := Ae H
   refine AC (Ml := []) (Zl := []) (M := []) (Z := []) (β := Value) (rv := fun x => x) (MM := fun x => []) (ZZ := fun x => [row x 9 Rp.str x3]) F W SG Aa Aa (fun hL => Hk _ w x2 _ h2) fun x a w F W => ?_
   obtain ⟨v2, rfl⟩ : ∃ y, y = x := ⟨x, rfl⟩
   have W : Stw ⟨Y, [], w0⟩ [] [row v2 9 Rp.str x3] w := W
   obtain ⟨x4, h3, H⟩ := Ae H
   refine Cw F W (Ag F Aa Aa Aa Aa) Aa (Bi Aa) (AR (r := Rp.str) JP F Aa Aa (Ap 0 Aa) h3).q fun a w F W => ?_
   refine Cw F W (Ag F Aa Aa Aa Aa) Aa (Bi Aa) (An (y := Value.string (bs x4)) (j := 0) (i := 0) F Aa Aa (Ap 0 Aa) h3 Fl.str.to T9 Aa).q fun a w F W => ?_
   refine Cw F W (Ag F Aa Aa Aa Aa) Aa (Bi Aa) (Am F Aa).q fun a w F W => ?_
   refine Cw F W (Ag F Aa Aa Aa Aa) Aa (Bi Aa) (JF (l := x4) (m := p2) F Aa Aa).q fun a w F W => ?_
   refine vl tk 3 F W fun a w F W => ?_
   refine Ac ?_
   have W := W.sub (M' := []) (Z' := []) (List.Sublist.refl _) (List.nil_sublist _)
   exact ⟨_, H, F.ra Aa, W⟩
  have H := Ct (Db hb) H
  rw [hb] at F
  clear hb
  refine vl tk 12 F W fun a w F W => ?_
  refine Ac ?_
  exact ⟨_, H, F.ra Aa, W⟩
 rintro a w ⟨x1, hj, F, W⟩
 have hj := AA hj
 subst hj
 have H := K1
 clear G1 K1
 refine Ax ?_
 have H := AA H
 subst H
 refine BB (.inl Aa) F W Aa (Ao F Aa) ?_
 exact ⟨rfl, W.done⟩
theorem Rr : Has Tryz.prog 21 := ⟨fun args w => Af Tryz.func21 rfl (by decide) args w⟩
noncomputable def Eb  : (Int × List UInt8 × Int) → Option ((Int × List UInt8 × Int) ⊕ (List UInt8))
  | (x2, x3, x4) => (if x4 < 16 then (D3 ([48, 49, 50, 51, 52, 53, 54, 55, 56, 57, 97, 98, 99, 100, 101, 102] : List UInt8) (BD (Int.tmod x2 16)) (BD ((BD (Int.tmod x2 16)) + 1))).bind fun x5 => (Dg x5 x3).bind fun x6 => some (.inl (IntKind.u64.wrap (Int.tdiv x2 16), x6, BD (x4 + 1))) else some (.inr x3))
noncomputable def Gw (p0 : Int) : Option (List UInt8) := (Av (Eb) (p0, ([] : List UInt8), 0)).bind fun x1 => some x1
theorem JO (Y : Nat → Prop) (w0 : World)  (p0 : Int) (r : List UInt8) (H : Gw p0 = some r)  :
    Calls Tryz.prog 29 #[.int .u64 p0] w0 fun e w' => e = .returned (.string (bs r)) ∧ Below w0.heap.size w0 w' := by
 refine enter Tryz.func29 Aa Tryz.ntmps29 Aa fun a F => ?_
 have W := Stw.start Y w0
 unfold Gw at H
 refine vc tk 2 F W fun a w F W => ?_
 refine ls F W Aa (Cc (v := Value.string (bs ([] : List UInt8))) F Aa).q fun a w F W => ?_
 refine C5 tk 4 F W fun a w F W => ?_
 refine ls F W Aa (Cc (v := Value.string (bs ([] : List UInt8))) F Aa).q fun a w F W => ?_
 refine CJ (Ac ?_)
 obtain ⟨o1, G1, K1⟩ := Ae H
 refine Aw (fun a w => ∃ x1 : List UInt8, some (x1) = some o1 ∧ Fr 22 [] [(2, .string (bs ([] : List UInt8))), (3, .string (bs x1))] a ∧ Stw ⟨Y, [], w0⟩ [] [] w) ?_ ?_
 ·
  have H := G1
  clear G1 K1
  refine vc tk 6 F W fun a w F W => ?_
  refine Bl H (fun s a w => Fr 22 [] [(0, .int .u64 s.1), (2, .string (bs ([] : List UInt8))), (3, .string (bs s.2.1)), (4, .int .i64 s.2.2)] a ∧ Stw ⟨Y, [], w0⟩ [] [] w) ⟨F.ra Aa, W⟩ fun s o a w H L2 hR => ?_
  obtain ⟨x2, x3, x4⟩ := s
  obtain ⟨F, W⟩ := hR
  have F : Fr 22 [] [(0, .int .u64 x2), (2, .string (bs ([] : List UInt8))), (3, .string (bs x3)), (4, .int .i64 x4)] a := F
  have W : Stw ⟨Y, [], w0⟩ [] [] w := W
  rw [Eb] at H
  refine vc tk 7 F W fun a w F W => ?_
  refine Bq F Aa H (fun F H => ?_) fun F H => ?_
  ·
   refine Ek tk 7 F W fun a w F W => ?_
   refine ls F W Aa (Nr F Aa Aa (by decide) Aa).q fun a w F W => ?_
   refine ls F W Aa (DY LB Lm F Aa).q fun a w F W => ?_
   refine C5 tk 8 F W fun a w F W => ?_
   obtain ⟨x5, h1, H⟩ := Ae H
   refine ls F W Aa (D7 (l := ([48, 49, 50, 51, 52, 53, 54, 55, 56, 57, 97, 98, 99, 100, 101, 102] : List UInt8)) Eu F Aa Aa Aa h1).q fun a w F W => ?_
   refine ls F W Aa (Am F Aa).q fun a w F W => ?_
   obtain ⟨x6, h2, H⟩ := Ae H
   refine ls F W Aa (DB (l := x5) (m := x3) F Aa Aa h2).q fun a w F W => ?_
   refine C5 tk 5 F W fun a w F W => ?_
   refine ls F W Aa (LC F Aa Aa (by decide) Aa).q fun a w F W => ?_
   refine vl tk 2 F W fun a w F W => ?_
   refine AB ?_
   refine vn tk 5 F W fun a w F W => ?_
   refine Ac ?_
   exact ⟨_, H, F.ra Aa, W⟩
  refine A1 ?_
  iterate 2 refine BC ?_
  refine Bb (Ac ?_)
  have H := L2 _ H
  exact ⟨_, H, F.ra Aa, W⟩
 rintro a w ⟨x1, hj, F, W⟩
 have hj := AA hj
 subst hj
 have H := K1
 clear G1 K1
 refine vc tk 6 F W fun a w F W => ?_
 refine Ax ?_
 have H := AA H
 subst H
 refine BB (.inl Aa) F W Aa (Ao F Aa) ?_
 exact ⟨rfl, W.done⟩
theorem Te : Has Tryz.prog 29 := ⟨fun args w => Af Tryz.func29 rfl (by decide) args w⟩
noncomputable def D2 (p0 : List UInt8) : (Int × Int) → Option ((Int × Int) ⊕ Int)
  | (x2, x3) => (if x3 < (p0.length : Int) then (((ix p0 x3).bind fun x6 => (if 48 ≤ (x6.toNat : Int) then (ix p0 x3).bind fun x7 => some (decide ((x7.toNat : Int) ≤ 57)) else some false)).bind fun x5 => (if x5 = true then (ix p0 x3).bind fun x8 => some (IntKind.u64.wrap ((IntKind.u64.wrap (x8.toNat : Int)) - 48)) else some (0 : Int))).bind fun x4 => (((ix p0 x3).bind fun x11 => (if 97 ≤ (x11.toNat : Int) then (ix p0 x3).bind fun x12 => some (decide ((x12.toNat : Int) ≤ 102)) else some false)).bind fun x10 => (if x10 = true then (ix p0 x3).bind fun x13 => some (IntKind.u64.wrap ((IntKind.u64.wrap (x13.toNat : Int)) - 87)) else some x4)).bind fun x9 => some (.inl (IntKind.u64.wrap ((IntKind.u64.wrap (16 * x2)) + x9), BD (x3 + 1))) else some (.inr x2))
noncomputable def Hl (p0 : List UInt8) : Option (Int × Bool) := (Av (D2 p0) (0, 0)).bind fun x1 => (if (p0.length : Int) = 16 then (Gw x1).bind fun x15 => some (decide (x15 = p0)) else some false).bind fun x14 => some (x1, x14)
theorem MH (Y : Nat → Prop) (w0 : World)  (p0 : List UInt8) (r : Int × Bool) (H : Hl p0 = some r)  :
    Calls Tryz.prog 59 #[.string (bs p0)] w0 fun e w' => e = .returned (.tuple #[.int .u64 r.1, .bool r.2]) ∧ Below w0.heap.size w0 w' := by
 refine enter Tryz.func59 Aa Tryz.ntmps59 Aa fun a F => ?_
 have W := Stw.start Y w0
 unfold Hl at H
 refine vc tk 11 F W fun a w F W => ?_
 obtain ⟨o1, G1, K1⟩ := Ae H
 refine Aw (fun a w => ∃ x1 : Int, some (x1) = some o1 ∧ Fr 57 [] [(0, .string (bs p0)), (2, .int .u64 0), (3, .bool false), (4, .int .u64 x1)] a ∧ Stw ⟨Y, [], w0⟩ [] [] w) ?_ ?_
 ·
  have H := G1
  clear G1 K1
  refine vc tk 6 F W fun a w F W => ?_
  refine Bl H (fun s a w => Fr 57 [] [(0, .string (bs p0)), (2, .int .u64 0), (3, .bool false), (4, .int .u64 s.1), (5, .int .i64 s.2)] a ∧ Stw ⟨Y, [], w0⟩ [] [] w) ⟨F.ra Aa, W⟩ fun s o a w H L2 hR => ?_
  obtain ⟨x2, x3⟩ := s
  obtain ⟨F, W⟩ := hR
  have F : Fr 57 [] [(0, .string (bs p0)), (2, .int .u64 0), (3, .bool false), (4, .int .u64 x2), (5, .int .i64 x3)] a := F
  have W : Stw ⟨Y, [], w0⟩ [] [] w := W
  rw [D2] at H
  refine vc tk 5 F W fun a w F W => ?_
  refine ls F W Aa (Eh (l := p0) Eu Aa F Aa).q fun a w F W => ?_
  refine vl tk 2 F W fun a w F W => ?_
  refine Ac ?_
  refine Bq F Aa H (fun F H => ?_) fun F H => ?_
  ·
   refine Ek tk 9 F W fun a w F W => ?_
   obtain ⟨o3, G3, K3⟩ := Ae H
   refine Aw (fun a w => ∃ x4 : Int, some (x4) = some o3 ∧ Fr 57 [] [(0, .string (bs p0)), (2, .int .u64 0), (3, .bool false), (4, .int .u64 x2), (5, .int .i64 x3), (6, .int .u64 x4)] a ∧ Stw ⟨Y, [], w0⟩ [] [] w) ?_ ?_
   ·
    have H := G3
    clear G3 K3
    obtain ⟨o4, G4, K4⟩ := Ae H
    refine Aw (fun a w => ∃ x5 : Bool, some (x5) = some o4 ∧ Fr 57 [] [(0, .string (bs p0)), (2, .int .u64 0), (3, .bool false), (4, .int .u64 x2), (5, .int .i64 x3), (6, .int .u64 0), (22, .bool x5)] a ∧ Stw ⟨Y, [], w0⟩ [] [] w) ?_ ?_
    ·
     have H := G4
     clear G4 K4
     refine vc tk 3 F W fun a w F W => ?_
     obtain ⟨x6, h1, H⟩ := Ae H
     refine ls F W Aa (Bn (l := p0) Eu F Aa Aa h1).q fun a w F W => ?_
     refine vl tk 2 F W fun a w F W => ?_
     rcases Bool.eq_false_or_eq_true (decide (48 ≤ (x6.toNat : Int))) with hb | hb
     ·
      have H := Cu (Dc hb) H
      rw [hb] at F
      clear hb
      refine vl tk 2 F W fun a w F W => ?_
      obtain ⟨x7, h2, H⟩ := Ae H
      refine Cw F W (Ag F Aa Aa Aa Aa) Aa (Bi Aa) (Bn (l := p0) Eu F Aa Aa h2).q fun a w F W => ?_
      refine vl tk 3 F W fun a w F W => ?_
      refine Ac ?_
      exact ⟨_, H, F.ra Aa, W⟩
     have H := Ct (Db hb) H
     rw [hb] at F
     clear hb
     refine vl tk 6 F W fun a w F W => ?_
     refine Ac ?_
     exact ⟨_, H, F.ra Aa, W⟩
    rintro a w ⟨x5, hj, F, W⟩
    have hj := AA hj
    subst hj
    have H := K4
    clear G4 K4
    refine B2 F Aa H (fun F H => ?_) fun F H => ?_
    ·
     refine vc tk 3 F W fun a w F W => ?_
     obtain ⟨x8, h3, H⟩ := Ae H
     refine ls F W Aa (Bn (l := p0) Eu F Aa Aa h3).q fun a w F W => ?_
     refine ls F W Aa (DY QY LB F Aa).q fun a w F W => ?_
     refine vl tk 3 F W fun a w F W => ?_
     refine Ac ?_
     exact ⟨_, H, F.ra Aa, W⟩
    refine Bp (Ac ?_)
    exact ⟨_, H, F.ra Aa, W⟩
   rintro a w ⟨x4, hj, F, W⟩
   have hj := AA hj
   subst hj
   have H := K3
   clear G3 K3
   obtain ⟨o5, G5, K5⟩ := Ae H
   refine Aw (fun a w => ∃ x9 : Int, some (x9) = some o5 ∧ Fr 57 [] [(0, .string (bs p0)), (2, .int .u64 0), (3, .bool false), (4, .int .u64 x2), (5, .int .i64 x3), (6, .int .u64 x9)] a ∧ Stw ⟨Y, [], w0⟩ [] [] w) ?_ ?_
   ·
    have H := G5
    clear G5 K5
    obtain ⟨o6, G6, K6⟩ := Ae H
    refine Aw (fun a w => ∃ x10 : Bool, some (x10) = some o6 ∧ Fr 57 [] [(0, .string (bs p0)), (2, .int .u64 0), (3, .bool false), (4, .int .u64 x2), (5, .int .i64 x3), (6, .int .u64 x4), (37, .bool x10)] a ∧ Stw ⟨Y, [], w0⟩ [] [] w) ?_ ?_
    ·
     have H := G6
     clear G6 K6
     refine vc tk 3 F W fun a w F W => ?_
     obtain ⟨x11, h4, H⟩ := Ae H
     refine ls F W Aa (Bn (l := p0) Eu F Aa Aa h4).q fun a w F W => ?_
     refine vl tk 2 F W fun a w F W => ?_
     rcases Bool.eq_false_or_eq_true (decide (97 ≤ (x11.toNat : Int))) with hb | hb
     ·
      have H := Cu (Dc hb) H
      rw [hb] at F
      clear hb
      refine vl tk 2 F W fun a w F W => ?_
      obtain ⟨x12, h5, H⟩ := Ae H
      refine Cw F W (Ag F Aa Aa Aa Aa) Aa (Bi Aa) (Bn (l := p0) Eu F Aa Aa h5).q fun a w F W => ?_
      refine vl tk 3 F W fun a w F W => ?_
      refine Ac ?_
      exact ⟨_, H, F.ra Aa, W⟩
     have H := Ct (Db hb) H
     rw [hb] at F
     clear hb
     refine vl tk 6 F W fun a w F W => ?_
     refine Ac ?_
     exact ⟨_, H, F.ra Aa, W⟩
    rintro a w ⟨x10, hj, F, W⟩
    have hj := AA hj
    subst hj
    have H := K6
    clear G6 K6
    refine B2 F Aa H (fun F H => ?_) fun F H => ?_
    ·
     refine vc tk 3 F W fun a w F W => ?_
     obtain ⟨x13, h6, H⟩ := Ae H
     refine ls F W Aa (Bn (l := p0) Eu F Aa Aa h6).q fun a w F W => ?_
     refine ls F W Aa (DY QY LB F Aa).q fun a w F W => ?_
     refine vl tk 3 F W fun a w F W => ?_
     refine Ac ?_
     exact ⟨_, H, F.ra Aa, W⟩
    refine Bp (Ac ?_)
    exact ⟨_, H, F.ra Aa, W⟩
   rintro a w ⟨x9, hj, F, W⟩
   have hj := AA hj
   subst hj
   have H := K5
   clear G5 K5
   refine vc tk 7 F W fun a w F W => ?_
   refine AB ?_
   refine vn tk 5 F W fun a w F W => ?_
   refine Ac ?_
   exact ⟨_, H, F.ra Aa, W⟩
  refine A1 ?_
  iterate 2 refine BC ?_
  refine Bb (Ac ?_)
  have H := L2 _ H
  exact ⟨_, H, F.ra Aa, W⟩
 rintro a w ⟨x1, hj, F, W⟩
 have hj := AA hj
 subst hj
 have H := K1
 clear G1 K1
 obtain ⟨o7, G7, K7⟩ := Ae H
 refine Aw (fun a w => ∃ x14 : Bool, some (x14) = some o7 ∧ Fr 57 [] [(2, .int .u64 x1), (3, .bool x14)] a ∧ Stw ⟨Y, [], w0⟩ [] [] w) ?_ ?_
 ·
  have H := G7
  clear G7 K7
  refine vc tk 3 F W fun a w F W => ?_
  refine ls F W Aa (Eh (l := p0) Eu Aa F Aa).q fun a w F W => ?_
  refine vl tk 2 F W fun a w F W => ?_
  rcases Bool.eq_false_or_eq_true (decide ((p0.length : Int) = 16)) with hb | hb
  ·
   have H := Cu (Dc hb) H
   rw [hb] at F
   clear hb
   refine Cw F W (Ag F Aa Aa Aa Aa) Aa (Bi Aa) (Am F Aa).q fun a w F W => ?_
   refine E5 (Ag F Aa Aa Aa Aa) ?_
   obtain ⟨x15, h7, H⟩ := Ae H
   refine ls F W Aa (AE (v := Value.string (bs x15)) F Te Aa (fun w W => JO any w x1 _ h7)) fun a w F W => ?_
   refine Cw F W (Ag F Aa Aa Aa Aa) Aa (Bi Aa) (Am F Aa).q fun a w F W => ?_
   refine Cw F W (Ag F Aa Aa Aa Aa) Aa (Bi Aa) (JF (l := x15) (m := p0) F Aa Aa).q fun a w F W => ?_
   refine vl tk 4 F W fun a w F W => ?_
   refine Ac ?_
   exact ⟨_, H, F.ra Aa, W⟩
  have H := Ct (Db hb) H
  rw [hb] at F
  clear hb
  refine vl tk 8 F W fun a w F W => ?_
  refine Ac ?_
  exact ⟨_, H, F.ra Aa, W⟩
 rintro a w ⟨x14, hj, F, W⟩
 have hj := AA hj
 subst hj
 have H := K7
 clear G7 K7
 refine Ax ?_
 have H := AA H
 subst H
 refine EA (.inl Aa) F W Aa (Ao F Aa) (Ao F Aa) ?_
 exact ⟨rfl, W.done⟩
theorem TM : Has Tryz.prog 59 := ⟨fun args w => Af Tryz.func59 rfl (by decide) args w⟩
noncomputable def DG (x1 : List (List UInt8)) : (List Int × Int) → Option ((List Int × Int) ⊕ ((List Int) ⊕ (List Int × Bool)))
  | (x3, x4) => (if x4 < (x1.length : Int) then (ix x1 x4).bind fun x5 => (Hl x5).bind fun x6 => (if (!x6.2) = true then some (.inr (.inr (([] : List Int), false))) else (Dg x3 ([x6.1] : List Int)).bind fun x7 => some (.inl (x7, BD (x4 + 1)))) else some (.inr (.inl x3)))
noncomputable def GJ (p0 : List UInt8) : Option (List Int × Bool) := (E3 p0).bind fun x1 => ES (Av (DG x1) ([], 1)) fun x2 => some (x2, true)
theorem MD (Y : Nat → Prop) (w0 : World)  (p0 : List UInt8) (r : List Int × Bool) (H : GJ p0 = some r)  :
    Calls Tryz.prog 48 #[.string (bs p0)] w0 fun e w' => ∃ x : Value, e = .returned (.tuple #[x, .bool r.2]) ∧ Stw ⟨Y, [], w0⟩ [] [row (x) 41 (Rp.int .u64) r.1] w' := by
 refine enter Tryz.func48 Aa Tryz.ntmps48 Aa fun a F => ?_
 have W := Stw.start Y w0
 unfold GJ at H
 refine vc tk 9 F W fun a w F W => ?_
 obtain ⟨x1, h1, H⟩ := Ae H
 refine AC (Ml := []) (Zl := []) (M := []) (Z := []) (β := Value) (rv := fun x => x) (MM := fun x => []) (ZZ := fun x => [row x 9 Rp.str x1]) F W SG Aa Aa (fun hL => Hk _ w p0 _ h1) fun x a w F W => ?_
 obtain ⟨v1, rfl⟩ : ∃ y, y = x := ⟨x, rfl⟩
 have W : Stw ⟨Y, [], w0⟩ [] [row v1 9 Rp.str x1] w := W
 refine C5 tk 8 F W fun a w F W => ?_
 obtain ⟨o1, G1, K1, L1⟩ := HU H
 refine Aw (fun a w => ∃ x2 : List Int, ∃ v2 : Value, some (Sum.inl x2) = some o1 ∧ Fr 32 [] [(2, .slice none 0 0), (3, .bool false), (5, v2)] a ∧ Stw ⟨Y, [], w0⟩ [] [row v2 41 (Rp.int .u64) x2] w) ?_ ?_
 ·
  have H := G1
  clear G1 K1
  refine vc tk 6 F W fun a w F W => ?_
  have W := W.nilRow 41 (Rp.int .u64)
  have W := W.frontZ (i := 1) Aa Aa
  refine Bl H (fun s a w => ∃ v3 : Value, Fr 32 [] [(2, .slice none 0 0), (3, .bool false), (4, v1), (5, v3), (6, .int .i64 s.2)] a ∧ Stw ⟨Y, [], w0⟩ [] [row v1 9 Rp.str x1, row v3 41 (Rp.int .u64) s.1] w) ⟨(Value.slice none 0 0), F.ra Aa, W⟩ fun s o a w H L2 hR => ?_
  obtain ⟨x3, x4⟩ := s
  obtain ⟨v3, F, W⟩ := hR
  have F : Fr 32 [] [(2, .slice none 0 0), (3, .bool false), (4, v1), (5, v3), (6, .int .i64 x4)] a := F
  have W : Stw ⟨Y, [], w0⟩ [] [row v1 9 Rp.str x1, row v3 41 (Rp.int .u64) x3] w := W
  rw [DG] at H
  refine vc tk 5 F W fun a w F W => ?_
  refine ls F W Aa (BN (r := Rp.str) (l := x1) MJ Aa F Aa (Ap 0 Aa)).q fun a w F W => ?_
  refine vl tk 2 F W fun a w F W => ?_
  refine Ac ?_
  refine Bq F Aa H (fun F H => ?_) fun F H => ?_
  ·
   refine Ek tk 8 F W fun a w F W => ?_
   obtain ⟨x5, h2, H⟩ := Ae H
   refine ls F W Aa (AR (r := Rp.str) JP F Aa Aa (Ap 0 Aa) h2).q fun a w F W => ?_
   refine ls F W Aa (An (y := Value.string (bs x5)) (j := 0) (i := x4) F Aa Aa (Ap 0 Aa) h2 Fl.str.to T9 Aa).q fun a w F W => ?_
   obtain ⟨x6, h3, H⟩ := Ae H
   refine ls F W Aa (AE (v := Value.tuple #[.int .u64 x6.1, .bool x6.2]) F TM Aa (fun w W => MH any w x5 _ h3)) fun a w F W => ?_
   refine ls F W Aa (Am F Aa).q fun a w F W => ?_
   refine ls F W Aa (Au (v := Value.int .u64 x6.1) F Aa Aa).q fun a w F W => ?_
   refine ls F W Aa (Au (v := Value.bool x6.2) F Aa Aa).q fun a w F W => ?_
   refine C5 tk 11 F W fun a w F W => ?_
   refine B2 F Aa H (fun F H => ?_) fun F H => ?_
   ·
    refine vc tk 6 F W fun a w F W => ?_
    refine Ax (Az (AU ?_))
    iterate 2 refine Az ?_
    refine AU (Az ?_)
    have H := L2 _ H
    have H := L1 _ H
    have H := AA H
    subst H
    refine EA (.inl Aa) F W Aa (Ao F Aa) (Ao F Aa) ?_
    have W := W.nilRow 41 (Rp.int .u64)
    have W := W.sub (M' := []) (Z' := [row (Value.slice none 0 0) 41 (Rp.int .u64) ([])]) (List.Sublist.refl _) (List.Sublist.cons_cons _ (List.nil_sublist _))
    exact ⟨(Value.slice none 0 0), Aa, W⟩
   refine Ek tk 5 F W fun a w F W => ?_
   refine CY (z := Value.int .u64 0) (cs := [.int .u64 x6.1]) (Rp.int .u64) ([x6.1] : List Int) F W Aa Pn S0 Aa Aa Aa Aa Aa Aa (Fl.int.repL _ _ ([x6.1] : List Int)) fun v4 a w F W => ?_
   obtain ⟨x7, h4, H⟩ := Ae H
   refine Do (r := (Rp.int .u64)) (i := 2) F W Aa Pn Aa Aa Aa Aa (DZ W 0 Aa) h4 Aa fun v5 a w F W => ?_
   have W : Stw ⟨Y, [], w0⟩ [] [row v5 41 (Rp.int .u64) x7, row v4 41 (Rp.int .u64) ([x6.1] : List Int), row v1 9 Rp.str x1] w := W
   refine vl tk 2 F W fun a w F W => ?_
   refine AB ?_
   refine vn tk 5 F W fun a w F W => ?_
   refine Ac ?_
   have W := W.frontZ (i := 2) Aa Aa
   have W := W.sub (M' := []) (Z' := [row v1 9 Rp.str x1, row v5 41 (Rp.int .u64) x7]) (List.Sublist.refl _) (List.Sublist.cons_cons _ (List.Sublist.cons_cons _ (List.nil_sublist _)))
   exact ⟨_, H, (v5), F.ra Aa, W⟩
  refine A1 ?_
  iterate 2 refine BC ?_
  refine Bb (Ac ?_)
  have W := W.frontZ (i := 1) Aa Aa
  have W := W.sub (M' := []) (Z' := [row v3 41 (Rp.int .u64) x3]) (List.Sublist.refl _) (List.Sublist.cons_cons _ (List.nil_sublist _))
  have H := L2 _ H
  exact ⟨_, (v3), H, F.ra Aa, W⟩
 rintro a w ⟨x2, v2, hj, F, W⟩
 have H := K1 _ hj
 clear hj G1 K1 L1
 refine vc tk 7 F W fun a w F W => ?_
 refine Ax ?_
 have H := AA H
 subst H
 refine EA (.inl Aa) F W Aa (Ao F Aa) (Ao F Aa) ?_
 exact ⟨(v2), Aa, W⟩
end Go.Proofs.YthmkgdnnocemmaaGreatDoor
