/- The functions of layer 40, FH. Conditions: none. -/
import Derived.Test.YthmkgdnnocemmaaDoorcA3
namespace Go.Proofs.YthmkgdnnocemmaaDoor
open Go Go.RowKit
set_option linter.unusedVariables false
set_option linter.unusedSimpArgs false
set_option maxRecDepth 20000
theorem H9 : Has Tryd.prog 9 := ⟨fun args w => Am Tryd.func9 rfl (by decide) args w⟩
theorem NN (dd : Nat) (x0 : Int) (x1 : Int) (x2 : Int) (x3 : Int) (x4 : Int) (x5 : Int) (y0 : Int) (y1 : Int) (y2 : Int) (y3 : Int) (y4 : Int) (y5 : Int) (w : World) : (Op.equalIn (dd + 2) 41 (.agg #[.int .i64 x0, .int .i64 x1, .int .i64 x2, .int .i64 x3, .int .i64 x4, .int .i64 x5]) (.agg #[.int .i64 y0, .int .i64 y1, .int .i64 y2, .int .i64 y3, .int .i64 y4, .int .i64 y5])).run Tryd.prog w = .ok (decide (x0 = y0 ∧ x1 = y1 ∧ x2 = y2 ∧ x3 = y3 ∧ x4 = y4 ∧ x5 = y5)) w :=
  Ic (d := dd + 1) (rs := [decide (x0 = y0), decide (x1 = y1), decide (x2 = y2), decide (x3 = y3), decide (x4 = y4), decide (x5 = y5)]) IV (by kernel_rfl) ⟨rfl, ES (d := dd + 0) rfl rfl Jc T3 rfl rfl, rfl, ES (d := dd + 0) rfl rfl Jc T3 rfl rfl, rfl, ES (d := dd + 0) rfl rfl Jc T3 rfl rfl, rfl, ES (d := dd + 0) rfl rfl Jc T3 rfl rfl, rfl, ES (d := dd + 0) rfl rfl Jc T3 rfl rfl, rfl, ES (d := dd + 0) rfl rfl Jc T3 rfl rfl, trivial⟩ (by simp) w
theorem Oz : Tryd.prog.eqGuardType Tryd.prog.depth 41 = false := by kernel_rfl
theorem Oi (x0 : Int) (x1 : Int) (x2 : Int) (x3 : Int) (x4 : Int) (x5 : Int) (y0 : Int) (y1 : Int) (y2 : Int) (y3 : Int) (y4 : Int) (y5 : Int) (w : World) : (Op.equalIn 10000 41 (.agg #[.int .i64 x0, .int .i64 x1, .int .i64 x2, .int .i64 x3, .int .i64 x4, .int .i64 x5]) (.agg #[.int .i64 y0, .int .i64 y1, .int .i64 y2, .int .i64 y3, .int .i64 y4, .int .i64 y5])).run Tryd.prog w = .ok (decide (x0 = y0 ∧ x1 = y1 ∧ x2 = y2 ∧ x3 = y3 ∧ x4 = y4 ∧ x5 = y5)) w := NN 9998 x0 x1 x2 x3 x4 x5 y0 y1 y2 y3 y4 y5 w
noncomputable def Bl (p0 : List (Int × Int × Int × Int × Int × Int)) (p1 : List (Int × Int × Int × Int × Int × Int)) : Int → Option (Int ⊕ (Unit ⊕ Bool))
  | x1 => (if x1 < (p0.length : Int) then (ix p0 x1).bind fun x2 => (ix p1 x1).bind fun x3 => (if (!(decide (x2.1 = x3.1 ∧ x2.2.1 = x3.2.1 ∧ x2.2.2.1 = x3.2.2.1 ∧ x2.2.2.2.1 = x3.2.2.2.1 ∧ x2.2.2.2.2.1 = x3.2.2.2.2.1 ∧ x2.2.2.2.2.2 = x3.2.2.2.2.2))) = true then some (.inr (.inr false)) else some (.inl (CL (x1 + 1)))) else some (.inr (.inl ())))
noncomputable def AR (p0 : List (Int × Int × Int × Int × Int × Int)) (p1 : List (Int × Int × Int × Int × Int × Int)) : Option Bool := (if (p0.length : Int) ≠ (p1.length : Int) then some false else Es (BB (Bl p0 p1) 0) fun _ => some true)
theorem DE (Y : Nat → Prop) (w0 : World) (v1 : Value) (v2 : Value) (p0 : List (Int × Int × Int × Int × Int × Int)) (p1 : List (Int × Int × Int × Int × Int × Int)) (r : Bool) (H : AR p0 p1 = some r) (h_v1 : Sl w0 (NX []) Bu v1 p0) (h_v2 : Sl w0 (NX []) Bu v2 p1) :
    Calls Tryd.prog 27 #[v1, v2] w0 fun e w' => e = .returned (.bool r) ∧ Below w0.heap.size w0 w' := by
 refine enter Tryd.func27 Aa Tryd.ntmps27 Aa fun a F => ?_
 have W := Stw.start Y w0
 unfold AR at H
 refine Aj (Ac ?_)
 refine ls F W Aa (Ag F Aa).q fun a w F W => ?_
 refine Af (Ad (Aj (Aj (Ac ?_))))
 refine ls F W Aa (Ae F Aa).q fun a w F W => ?_
 refine ls F W Aa (Dg (r := Bu) (l := p0) Lh Aa F Aa (AK h_v1)).q fun a w F W => ?_
 refine ls F W Aa (Ae F Aa).q fun a w F W => ?_
 refine ls F W Aa (Dg (r := Bu) (l := p1) Lh Aa F Aa (AK h_v2)).q fun a w F W => ?_
 refine ls F W Aa (Fe F Aa Aa).q fun a w F W => ?_
 refine Af (Ad ?_)
 refine AA F Aa (fun hb => ?_) fun hb => ?_
 ·
  have H := AZ (BQ hb) H
  rw [hb] at F
  clear hb
  refine Aj (Ac ?_)
  refine ls F W Aa (Ag F Aa).q fun a w F W => ?_
  refine Af (Ad (A1 (Bx ?_)))
  have H := A2 H
  subst H
  refine Ck (.inl Aa) F W Aa (AL F Aa) ?_
  exact ⟨rfl, W.done⟩
 have H := AY (BR hb) H
 rw [hb] at F
 clear hb
 refine Ax (Ad ?_)
 obtain ⟨o1, G1, K1, L1⟩ := IB H
 refine AX (fun a w => some (Sum.inl ()) = some o1 ∧ Fr 26 [] [(4, .bool false)] a ∧ Stw ⟨Y, [], w0⟩ [] [] w) ?_ ?_
 ·
  have H := G1
  clear G1 K1
  refine Aj (Ac ?_)
  refine ls F W Aa (Ae F Aa).q fun a w F W => ?_
  refine ls F W Aa (Dg (r := Bu) (l := p0) Lh Aa F Aa (AK h_v1)).q fun a w F W => ?_
  refine ls F W Aa (Ae F Aa).q fun a w F W => ?_
  refine Af (Ad (AF ?_))
  refine CA H (fun s a w => Fr 26 [] [(0, v1), (1, v2), (4, .bool false), (12, .int .i64 (p0.length : Int)), (13, .int .i64 s)] a ∧ Stw ⟨Y, [], w0⟩ [] [] w) ⟨F.re ⟨rfl, Aa, Aa, Aa, Aa, trivial⟩, W⟩ fun s o a w H L2 hR => ?_
  obtain ⟨x1, rfl⟩ : ∃ x, x = s := ⟨s, rfl⟩
  obtain ⟨F, W⟩ := hR
  have F : Fr 26 [] [(0, v1), (1, v2), (4, .bool false), (12, .int .i64 (p0.length : Int)), (13, .int .i64 x1)] a := F
  have W : Stw ⟨Y, [], w0⟩ [] [] w := W
  rw [Bl] at H
  refine Aj (Ac ?_)
  refine ls F W Aa (DM F Aa Aa).q fun a w F W => ?_
  refine Af (Ad (Aj ?_))
  refine AA F Aa (fun hb => ?_) fun hb => ?_
  ·
   have H := AZ (BQ hb) H
   rw [hb] at F
   clear hb
   refine Ax (Ad (Aj (AF (Aj (Ac ?_)))))
   refine ls F W Aa (Ae F Aa).q fun a w F W => ?_
   refine ls F W Aa (Ag F Aa).q fun a w F W => ?_
   refine Af (Ad (Aj ?_))
   refine FM W MO (by kernel_rfl) ?_
   iterate 2 refine qs F Aa (Ae F Aa).q fun a F => ?_
   obtain ⟨x2, h1, H⟩ := An H
   refine qs F Aa (Cv (r := Bu) MW F Aa Aa (AK h_v1) h1).q fun a F => ?_
   refine qs F Aa (A3 (y := Value.agg #[.int .i64 x2.1, .int .i64 x2.2.1, .int .i64 x2.2.2.1, .int .i64 x2.2.2.2.1, .int .i64 x2.2.2.2.2.1, .int .i64 x2.2.2.2.2.2]) (j := 0) (i := x1) F Aa Aa (AK h_v1) h1 Nl.to Nj Aa).q fun a F => ?_
   iterate 2 refine qs F Aa (Ae F Aa).q fun a F => ?_
   obtain ⟨x3, h2, H⟩ := An H
   refine qs F Aa (Cv (r := Bu) MW F Aa Aa (AK h_v2) h2).q fun a F => ?_
   refine qs F Aa (A3 (y := Value.agg #[.int .i64 x3.1, .int .i64 x3.2.1, .int .i64 x3.2.2.1, .int .i64 x3.2.2.2.1, .int .i64 x3.2.2.2.2.1, .int .i64 x3.2.2.2.2.2]) (j := 0) (i := x1) F Aa Aa (AK h_v2) h2 Nl.to Nj Aa).q fun a F => ?_
   refine qs F Aa (Mj (t := decide (x2.1 = x3.1 ∧ x2.2.1 = x3.2.1 ∧ x2.2.2.1 = x3.2.2.1 ∧ x2.2.2.2.1 = x3.2.2.2.1 ∧ x2.2.2.2.2.1 = x3.2.2.2.2.1 ∧ x2.2.2.2.2.2 = x3.2.2.2.2.2)) Oz (Oi _ _ _ _ _ _ _ _ _ _ _ _) F Aa Aa).q fun a F => ?_
   refine FO fun w W => ?_
   refine Ad ?_
   refine AA F Aa (fun hb => ?_) fun hb => ?_
   ·
    have H := AZ hb H
    rw [hb] at F
    clear hb
    refine Aj (Ac ?_)
    refine ls F W Aa (Ag F Aa).q fun a w F W => ?_
    refine Af (Ad (A1 (B5 ?_)))
    iterate 2 refine Bx ?_
    refine B5 (Bx ?_)
    have H := L2 _ H
    have H := L1 _ H
    have H := A2 H
    subst H
    refine Ck (.inl Aa) F W Aa (AL F Aa) ?_
    exact ⟨rfl, W.done⟩
   have H := AY (by rw [hb]; decide) H
   rw [hb] at F
   clear hb
   refine Ax (Bk (Ad (Ac ?_)))
   refine ls F W Aa (DJ F Aa Aa Aa).q fun a w F W => ?_
   refine ls F W Aa (Ae F Aa).q fun a w F W => ?_
   refine Af (Ad ?_)
   exact ⟨_, H, F.re ⟨rfl, Aa, Aa, Aa, Aa, trivial⟩, W⟩
  have H := AY (BR hb) H
  rw [hb] at F
  clear hb
  refine Ci ?_
  iterate 2 refine CM ?_
  refine Cj (Ad ?_)
  have H := L2 _ H
  exact ⟨H, F.re ⟨rfl, trivial⟩, W⟩
 rintro a w ⟨hj, F, W⟩
 have H := K1 _ hj
 clear hj G1 K1 L1
 refine Aj (Ac ?_)
 refine ls F W Aa (Ag F Aa).q fun a w F W => ?_
 refine Af (Ad (A1 ?_))
 have H := A2 H
 subst H
 refine Ck (.inl Aa) F W Aa (AL F Aa) ?_
 exact ⟨rfl, W.done⟩
theorem OJ : Has Tryd.prog 27 := ⟨fun args w => Am Tryd.func27 rfl (by decide) args w⟩
theorem NJ (dd : Nat) (x0 : Int) (x1 : Int) (y0 : Int) (y1 : Int) (w : World) : (Op.equalIn (dd + 2) 43 (.agg #[.int .i64 x0, .int .i64 x1]) (.agg #[.int .i64 y0, .int .i64 y1])).run Tryd.prog w = .ok (decide (x0 = y0 ∧ x1 = y1)) w :=
  Ic (d := dd + 1) (rs := [decide (x0 = y0), decide (x1 = y1)]) LE (by kernel_rfl) ⟨rfl, ES (d := dd + 0) rfl rfl Jc T3 rfl rfl, rfl, ES (d := dd + 0) rfl rfl Jc T3 rfl rfl, trivial⟩ (by simp) w
theorem OL : Tryd.prog.eqGuardType Tryd.prog.depth 43 = false := by kernel_rfl
theorem Of (x0 : Int) (x1 : Int) (y0 : Int) (y1 : Int) (w : World) : (Op.equalIn 10000 43 (.agg #[.int .i64 x0, .int .i64 x1]) (.agg #[.int .i64 y0, .int .i64 y1])).run Tryd.prog w = .ok (decide (x0 = y0 ∧ x1 = y1)) w := NJ 9998 x0 x1 y0 y1 w
noncomputable def Bj (p0 : List (Int × Int)) (p1 : List (Int × Int)) : Int → Option (Int ⊕ (Unit ⊕ Bool))
  | x1 => (if x1 < (p0.length : Int) then (ix p0 x1).bind fun x2 => (ix p1 x1).bind fun x3 => (if (!(decide (x2.1 = x3.1 ∧ x2.2 = x3.2))) = true then some (.inr (.inr false)) else some (.inl (CL (x1 + 1)))) else some (.inr (.inl ())))
noncomputable def AQ (p0 : List (Int × Int)) (p1 : List (Int × Int)) : Option Bool := (if (p0.length : Int) ≠ (p1.length : Int) then some false else Es (BB (Bj p0 p1) 0) fun _ => some true)
theorem DC (Y : Nat → Prop) (w0 : World) (v1 : Value) (v2 : Value) (p0 : List (Int × Int)) (p1 : List (Int × Int)) (r : Bool) (H : AQ p0 p1 = some r) (h_v1 : Sl w0 (NX []) BC v1 p0) (h_v2 : Sl w0 (NX []) BC v2 p1) :
    Calls Tryd.prog 28 #[v1, v2] w0 fun e w' => e = .returned (.bool r) ∧ Below w0.heap.size w0 w' := by
 refine enter Tryd.func28 Aa Tryd.ntmps28 Aa fun a F => ?_
 have W := Stw.start Y w0
 unfold AQ at H
 refine Aj (Ac ?_)
 refine ls F W Aa (Ag F Aa).q fun a w F W => ?_
 refine Af (Ad (Aj (Aj (Ac ?_))))
 refine ls F W Aa (Ae F Aa).q fun a w F W => ?_
 refine ls F W Aa (Dg (r := BC) (l := p0) Kr Aa F Aa (AK h_v1)).q fun a w F W => ?_
 refine ls F W Aa (Ae F Aa).q fun a w F W => ?_
 refine ls F W Aa (Dg (r := BC) (l := p1) Kr Aa F Aa (AK h_v2)).q fun a w F W => ?_
 refine ls F W Aa (Fe F Aa Aa).q fun a w F W => ?_
 refine Af (Ad ?_)
 refine AA F Aa (fun hb => ?_) fun hb => ?_
 ·
  have H := AZ (BQ hb) H
  rw [hb] at F
  clear hb
  refine Aj (Ac ?_)
  refine ls F W Aa (Ag F Aa).q fun a w F W => ?_
  refine Af (Ad (A1 (Bx ?_)))
  have H := A2 H
  subst H
  refine Ck (.inl Aa) F W Aa (AL F Aa) ?_
  exact ⟨rfl, W.done⟩
 have H := AY (BR hb) H
 rw [hb] at F
 clear hb
 refine Ax (Ad ?_)
 obtain ⟨o1, G1, K1, L1⟩ := IB H
 refine AX (fun a w => some (Sum.inl ()) = some o1 ∧ Fr 26 [] [(4, .bool false)] a ∧ Stw ⟨Y, [], w0⟩ [] [] w) ?_ ?_
 ·
  have H := G1
  clear G1 K1
  refine Aj (Ac ?_)
  refine ls F W Aa (Ae F Aa).q fun a w F W => ?_
  refine ls F W Aa (Dg (r := BC) (l := p0) Kr Aa F Aa (AK h_v1)).q fun a w F W => ?_
  refine ls F W Aa (Ae F Aa).q fun a w F W => ?_
  refine Af (Ad (AF ?_))
  refine CA H (fun s a w => Fr 26 [] [(0, v1), (1, v2), (4, .bool false), (12, .int .i64 (p0.length : Int)), (13, .int .i64 s)] a ∧ Stw ⟨Y, [], w0⟩ [] [] w) ⟨F.re ⟨rfl, Aa, Aa, Aa, Aa, trivial⟩, W⟩ fun s o a w H L2 hR => ?_
  obtain ⟨x1, rfl⟩ : ∃ x, x = s := ⟨s, rfl⟩
  obtain ⟨F, W⟩ := hR
  have F : Fr 26 [] [(0, v1), (1, v2), (4, .bool false), (12, .int .i64 (p0.length : Int)), (13, .int .i64 x1)] a := F
  have W : Stw ⟨Y, [], w0⟩ [] [] w := W
  rw [Bj] at H
  refine Aj (Ac ?_)
  refine ls F W Aa (DM F Aa Aa).q fun a w F W => ?_
  refine Af (Ad (Aj ?_))
  refine AA F Aa (fun hb => ?_) fun hb => ?_
  ·
   have H := AZ (BQ hb) H
   rw [hb] at F
   clear hb
   refine Ax (Ad (Aj (AF (Aj (Ac ?_)))))
   refine ls F W Aa (Ae F Aa).q fun a w F W => ?_
   refine ls F W Aa (Ag F Aa).q fun a w F W => ?_
   refine Af (Ad (Aj ?_))
   refine FM W MO (by kernel_rfl) ?_
   iterate 2 refine qs F Aa (Ae F Aa).q fun a F => ?_
   obtain ⟨x2, h1, H⟩ := An H
   refine qs F Aa (Cv (r := BC) MY F Aa Aa (AK h_v1) h1).q fun a F => ?_
   refine qs F Aa (A3 (y := Value.agg #[.int .i64 x2.1, .int .i64 x2.2]) (j := 0) (i := x1) F Aa Aa (AK h_v1) h1 Ns.to Nr Aa).q fun a F => ?_
   iterate 2 refine qs F Aa (Ae F Aa).q fun a F => ?_
   obtain ⟨x3, h2, H⟩ := An H
   refine qs F Aa (Cv (r := BC) MY F Aa Aa (AK h_v2) h2).q fun a F => ?_
   refine qs F Aa (A3 (y := Value.agg #[.int .i64 x3.1, .int .i64 x3.2]) (j := 0) (i := x1) F Aa Aa (AK h_v2) h2 Ns.to Nr Aa).q fun a F => ?_
   refine qs F Aa (Mj (t := decide (x2.1 = x3.1 ∧ x2.2 = x3.2)) OL (Of _ _ _ _) F Aa Aa).q fun a F => ?_
   refine FO fun w W => ?_
   refine Ad ?_
   refine AA F Aa (fun hb => ?_) fun hb => ?_
   ·
    have H := AZ hb H
    rw [hb] at F
    clear hb
    refine Aj (Ac ?_)
    refine ls F W Aa (Ag F Aa).q fun a w F W => ?_
    refine Af (Ad (A1 (B5 ?_)))
    iterate 2 refine Bx ?_
    refine B5 (Bx ?_)
    have H := L2 _ H
    have H := L1 _ H
    have H := A2 H
    subst H
    refine Ck (.inl Aa) F W Aa (AL F Aa) ?_
    exact ⟨rfl, W.done⟩
   have H := AY (by rw [hb]; decide) H
   rw [hb] at F
   clear hb
   refine Ax (Bk (Ad (Ac ?_)))
   refine ls F W Aa (DJ F Aa Aa Aa).q fun a w F W => ?_
   refine ls F W Aa (Ae F Aa).q fun a w F W => ?_
   refine Af (Ad ?_)
   exact ⟨_, H, F.re ⟨rfl, Aa, Aa, Aa, Aa, trivial⟩, W⟩
  have H := AY (BR hb) H
  rw [hb] at F
  clear hb
  refine Ci ?_
  iterate 2 refine CM ?_
  refine Cj (Ad ?_)
  have H := L2 _ H
  exact ⟨H, F.re ⟨rfl, trivial⟩, W⟩
 rintro a w ⟨hj, F, W⟩
 have H := K1 _ hj
 clear hj G1 K1 L1
 refine Aj (Ac ?_)
 refine ls F W Aa (Ag F Aa).q fun a w F W => ?_
 refine Af (Ad (A1 ?_))
 have H := A2 H
 subst H
 refine Ck (.inl Aa) F W Aa (AL F Aa) ?_
 exact ⟨rfl, W.done⟩
theorem Oc : Has Tryd.prog 28 := ⟨fun args w => Am Tryd.func28 rfl (by decide) args w⟩
noncomputable def BT (p0 : List Int) (p1 : List Int) : Int → Option (Int ⊕ (Unit ⊕ Bool))
  | x1 => (if x1 < (p0.length : Int) then (ix p0 x1).bind fun x2 => (ix p1 x1).bind fun x3 => (if x2 ≠ x3 then some (.inr (.inr false)) else some (.inl (CL (x1 + 1)))) else some (.inr (.inl ())))
noncomputable def BJ (p0 : List Int) (p1 : List Int) : Option Bool := (if (p0.length : Int) ≠ (p1.length : Int) then some false else Es (BB (BT p0 p1) 0) fun _ => some true)
theorem Ec (Y : Nat → Prop) (w0 : World) (v1 : Value) (v2 : Value) (p0 : List Int) (p1 : List Int) (r : Bool) (H : BJ p0 p1 = some r) (h_v1 : Sl w0 (NX []) (Rp.int .u64) v1 p0) (h_v2 : Sl w0 (NX []) (Rp.int .u64) v2 p1) :
    Calls Tryd.prog 30 #[v1, v2] w0 fun e w' => e = .returned (.bool r) ∧ Below w0.heap.size w0 w' := by
 refine enter Tryd.func30 Aa Tryd.ntmps30 Aa fun a F => ?_
 have W := Stw.start Y w0
 unfold BJ at H
 refine Aj (Ac ?_)
 refine ls F W Aa (Ag F Aa).q fun a w F W => ?_
 refine Af (Ad (Aj (Aj (Ac ?_))))
 refine ls F W Aa (Ae F Aa).q fun a w F W => ?_
 refine ls F W Aa (Dg (r := (Rp.int .u64)) (l := p0) Lm Aa F Aa (AK h_v1)).q fun a w F W => ?_
 refine ls F W Aa (Ae F Aa).q fun a w F W => ?_
 refine ls F W Aa (Dg (r := (Rp.int .u64)) (l := p1) Lm Aa F Aa (AK h_v2)).q fun a w F W => ?_
 refine ls F W Aa (Fe F Aa Aa).q fun a w F W => ?_
 refine Af (Ad ?_)
 refine AA F Aa (fun hb => ?_) fun hb => ?_
 ·
  have H := AZ (BQ hb) H
  rw [hb] at F
  clear hb
  refine Aj (Ac ?_)
  refine ls F W Aa (Ag F Aa).q fun a w F W => ?_
  refine Af (Ad (A1 (Bx ?_)))
  have H := A2 H
  subst H
  refine Ck (.inl Aa) F W Aa (AL F Aa) ?_
  exact ⟨rfl, W.done⟩
 have H := AY (BR hb) H
 rw [hb] at F
 clear hb
 refine Ax (Ad ?_)
 obtain ⟨o1, G1, K1, L1⟩ := IB H
 refine AX (fun a w => some (Sum.inl ()) = some o1 ∧ Fr 26 [] [(4, .bool false)] a ∧ Stw ⟨Y, [], w0⟩ [] [] w) ?_ ?_
 ·
  have H := G1
  clear G1 K1
  refine Aj (Ac ?_)
  refine ls F W Aa (Ae F Aa).q fun a w F W => ?_
  refine ls F W Aa (Dg (r := (Rp.int .u64)) (l := p0) Lm Aa F Aa (AK h_v1)).q fun a w F W => ?_
  refine ls F W Aa (Ae F Aa).q fun a w F W => ?_
  refine Af (Ad (AF ?_))
  refine CA H (fun s a w => Fr 26 [] [(0, v1), (1, v2), (4, .bool false), (12, .int .i64 (p0.length : Int)), (13, .int .i64 s)] a ∧ Stw ⟨Y, [], w0⟩ [] [] w) ⟨F.re ⟨rfl, Aa, Aa, Aa, Aa, trivial⟩, W⟩ fun s o a w H L2 hR => ?_
  obtain ⟨x1, rfl⟩ : ∃ x, x = s := ⟨s, rfl⟩
  obtain ⟨F, W⟩ := hR
  have F : Fr 26 [] [(0, v1), (1, v2), (4, .bool false), (12, .int .i64 (p0.length : Int)), (13, .int .i64 x1)] a := F
  have W : Stw ⟨Y, [], w0⟩ [] [] w := W
  rw [BT] at H
  refine Aj (Ac ?_)
  refine ls F W Aa (DM F Aa Aa).q fun a w F W => ?_
  refine Af (Ad (Aj ?_))
  refine AA F Aa (fun hb => ?_) fun hb => ?_
  ·
   have H := AZ (BQ hb) H
   rw [hb] at F
   clear hb
   refine Ax (Ad (Aj (AF (Aj (Ac ?_)))))
   refine ls F W Aa (Ae F Aa).q fun a w F W => ?_
   refine ls F W Aa (Ag F Aa).q fun a w F W => ?_
   refine Af (Ad (Aj ?_))
   refine FM W MO (by kernel_rfl) ?_
   iterate 2 refine qs F Aa (Ae F Aa).q fun a F => ?_
   obtain ⟨x2, h1, H⟩ := An H
   refine qs F Aa (Cv (r := (Rp.int .u64)) MS F Aa Aa (AK h_v1) h1).q fun a F => ?_
   refine qs F Aa (A3 (y := Value.int .u64 x2) (j := 0) (i := x1) F Aa Aa (AK h_v1) h1 Fl.int.to NK Aa).q fun a F => ?_
   iterate 2 refine qs F Aa (Ae F Aa).q fun a F => ?_
   obtain ⟨x3, h2, H⟩ := An H
   refine qs F Aa (Cv (r := (Rp.int .u64)) MS F Aa Aa (AK h_v2) h2).q fun a F => ?_
   refine qs F Aa (A3 (y := Value.int .u64 x3) (j := 0) (i := x1) F Aa Aa (AK h_v2) h2 Fl.int.to NK Aa).q fun a F => ?_
   refine qs F Aa (Fe F Aa Aa).q fun a F => ?_
   refine FO fun w W => ?_
   refine Ad ?_
   refine AA F Aa (fun hb => ?_) fun hb => ?_
   ·
    have H := AZ (BQ hb) H
    rw [hb] at F
    clear hb
    refine Aj (Ac ?_)
    refine ls F W Aa (Ag F Aa).q fun a w F W => ?_
    refine Af (Ad (A1 (B5 ?_)))
    iterate 2 refine Bx ?_
    refine B5 (Bx ?_)
    have H := L2 _ H
    have H := L1 _ H
    have H := A2 H
    subst H
    refine Ck (.inl Aa) F W Aa (AL F Aa) ?_
    exact ⟨rfl, W.done⟩
   have H := AY (BR hb) H
   rw [hb] at F
   clear hb
   refine Ax (Bk (Ad (Ac ?_)))
   refine ls F W Aa (DJ F Aa Aa Aa).q fun a w F W => ?_
   refine ls F W Aa (Ae F Aa).q fun a w F W => ?_
   refine Af (Ad ?_)
   exact ⟨_, H, F.re ⟨rfl, Aa, Aa, Aa, Aa, trivial⟩, W⟩
  have H := AY (BR hb) H
  rw [hb] at F
  clear hb
  refine Ci ?_
  iterate 2 refine CM ?_
  refine Cj (Ad ?_)
  have H := L2 _ H
  exact ⟨H, F.re ⟨rfl, trivial⟩, W⟩
 rintro a w ⟨hj, F, W⟩
 have H := K1 _ hj
 clear hj G1 K1 L1
 refine Aj (Ac ?_)
 refine ls F W Aa (Ag F Aa).q fun a w F W => ?_
 refine Af (Ad (A1 ?_))
 have H := A2 H
 subst H
 refine Ck (.inl Aa) F W Aa (AL F Aa) ?_
 exact ⟨rfl, W.done⟩
theorem Od : Has Tryd.prog 30 := ⟨fun args w => Am Tryd.func30 rfl (by decide) args w⟩
noncomputable def AD (p0 : List (List Int)) (p1 : List (List Int)) : Int → Option (Int ⊕ (Unit ⊕ Bool))
  | x1 => (if x1 < (p0.length : Int) then (ix p0 x1).bind fun x2 => (ix p1 x1).bind fun x3 => (BJ x2 x3).bind fun x4 => (if (!x4) = true then some (.inr (.inr false)) else some (.inl (CL (x1 + 1)))) else some (.inr (.inl ())))
noncomputable def Aq (p0 : List (List Int)) (p1 : List (List Int)) : Option Bool := (if (p0.length : Int) ≠ (p1.length : Int) then some false else Es (BB (AD p0 p1) 0) fun _ => some true)
theorem CX (Y : Nat → Prop) (w0 : World) (v1 : Value) (v2 : Value) (p0 : List (List Int)) (p1 : List (List Int)) (r : Bool) (H : Aq p0 p1 = some r) (h_v1 : Sl w0 (NX []) (Rp.slice (Rp.int .u64)) v1 p0) (h_v2 : Sl w0 (NX []) (Rp.slice (Rp.int .u64)) v2 p1) :
    Calls Tryd.prog 29 #[v1, v2, .func (.func 30) #[] #[]] w0 fun e w' => e = .returned (.bool r) ∧ Below w0.heap.size w0 w' := by
 refine enter Tryd.func29 Aa Tryd.ntmps29 Aa fun a F => ?_
 have W := Stw.start Y w0
 obtain ⟨v3, h1, h_v1⟩ := h_v1.ex HC
 obtain ⟨v4, h2, h_v2⟩ := h_v2.ex HC
 unfold Aq at H
 refine Aj (Ac ?_)
 refine ls F W Aa (Ag F Aa).q fun a w F W => ?_
 refine Af (Ad (Aj (Aj (Ac ?_))))
 refine ls F W Aa (Ae F Aa).q fun a w F W => ?_
 refine ls F W Aa (Dg (r := (Rp.slice (Rp.int .u64))) (l := p0) Ku Aa F Aa (E3 HC h1 (AK h_v1))).q fun a w F W => ?_
 refine ls F W Aa (Ae F Aa).q fun a w F W => ?_
 refine ls F W Aa (Dg (r := (Rp.slice (Rp.int .u64))) (l := p1) Ku Aa F Aa (E3 HC h2 (AK h_v2))).q fun a w F W => ?_
 refine ls F W Aa (Fe F Aa Aa).q fun a w F W => ?_
 refine Af (Ad ?_)
 refine AA F Aa (fun hb => ?_) fun hb => ?_
 ·
  have H := AZ (BQ hb) H
  rw [hb] at F
  clear hb
  refine Aj (Ac ?_)
  refine ls F W Aa (Ag F Aa).q fun a w F W => ?_
  refine Af (Ad (A1 (Bx ?_)))
  have H := A2 H
  subst H
  refine Ck (.inl Aa) F W Aa (AL F Aa) ?_
  exact ⟨rfl, W.done⟩
 have H := AY (BR hb) H
 rw [hb] at F
 clear hb
 refine Ax (Ad ?_)
 obtain ⟨o1, G1, K1, L1⟩ := IB H
 refine AX (fun a w => some (Sum.inl ()) = some o1 ∧ Fr 32 [] [(6, .bool false)] a ∧ Stw ⟨Y, [], w0⟩ [] [] w) ?_ ?_
 ·
  have H := G1
  clear G1 K1
  refine Aj (Ac ?_)
  refine ls F W Aa (Ae F Aa).q fun a w F W => ?_
  refine ls F W Aa (Dg (r := (Rp.slice (Rp.int .u64))) (l := p0) Ku Aa F Aa (E3 HC h1 (AK h_v1))).q fun a w F W => ?_
  refine ls F W Aa (Ae F Aa).q fun a w F W => ?_
  refine Af (Ad (AF ?_))
  refine CA H (fun s a w => Fr 32 [] [(1, v2), (2, .func (.func 30) #[] #[]), (6, .bool false), (15, v1), (16, .int .i64 (p0.length : Int)), (17, .int .i64 s)] a ∧ Stw ⟨Y, [], w0⟩ [] [] w) ⟨F.re ⟨rfl, Aa, Aa, Aa, Aa, Aa, trivial⟩, W⟩ fun s o a w H L2 hR => ?_
  obtain ⟨x1, rfl⟩ : ∃ x, x = s := ⟨s, rfl⟩
  obtain ⟨F, W⟩ := hR
  have F : Fr 32 [] [(1, v2), (2, .func (.func 30) #[] #[]), (6, .bool false), (15, v1), (16, .int .i64 (p0.length : Int)), (17, .int .i64 x1)] a := F
  have W : Stw ⟨Y, [], w0⟩ [] [] w := W
  rw [AD] at H
  refine Aj (Ac ?_)
  refine ls F W Aa (DM F Aa Aa).q fun a w F W => ?_
  refine Af (Ad (Aj ?_))
  refine AA F Aa (fun hb => ?_) fun hb => ?_
  ·
   have H := AZ (BQ hb) H
   rw [hb] at F
   clear hb
   refine Ax (Ad (Aj (AF (Aj (Ac ?_)))))
   refine ls F W Aa (Ae F Aa).q fun a w F W => ?_
   obtain ⟨x2, h3, H⟩ := An H
   obtain ⟨v5, h4, h5⟩ := Lf h1 h3
   have h6 : Jv v5 = [(v5.1)] := congrArg (fun q : List Int => ([(v5.1)] : List Value)) h5
   refine ls F W Aa (Cv (r := (Rp.vsl (Rp.int .u64))) MU F Aa Aa (AK h_v1) h4).q fun a w F W => ?_
   refine ls F W Aa (A3 (y := (v5.1)) (j := 0) (i := x1) (enc := Jv) F Aa Aa (AK h_v1) h4 Mz NG (by rw [h6]; rfl)).q fun a w F W => ?_
   iterate 2 refine ls F W Aa (Ag F Aa).q fun a w F W => ?_
   refine Af (Ad (Aj (Ac ?_)))
   iterate 2 refine ls F W Aa (Ae F Aa).q fun a w F W => ?_
   obtain ⟨x3, h7, H⟩ := An H
   obtain ⟨v6, h8, h9⟩ := Lf h2 h7
   have h10 : Jv v6 = [(v6.1)] := congrArg (fun q : List Int => ([(v6.1)] : List Value)) h9
   refine ls F W Aa (Cv (r := (Rp.vsl (Rp.int .u64))) MU F Aa Aa (AK h_v2) h8).q fun a w F W => ?_
   refine ls F W Aa (A3 (y := (v6.1)) (j := 0) (i := x1) (enc := Jv) F Aa Aa (AK h_v2) h8 Mz NG (by rw [h10]; rfl)).q fun a w F W => ?_
   refine ls F W Aa (Ag F Aa).q fun a w F W => ?_
   refine Af (Ad (Aj (Ac ?_)))
   iterate 3 refine ls F W Aa (Ae F Aa).q fun a w F W => ?_
   obtain ⟨x4, h11, H⟩ := An H
   refine ls F W Aa (LX (ws := [(v5.1), (v6.1)]) (v := Value.bool x4) F Od Aa (fun w W => Ec any w ((v5.1)) ((v6.1)) x2 x3 _ h11 (((Ht (AK h_v1) h4 HK.here (congrArg (fun q : List Int => q) h5)) : D9 _ _ _ _ _ _) w W).nx (((Ht (AK h_v2) h8 HK.here (congrArg (fun q : List Int => q) h9)) : D9 _ _ _ _ _ _) w W).nx)) fun a w F W => ?_
   refine ls F W Aa (JO F Aa).q fun a w F W => ?_
   refine Af (Ad ?_)
   refine AA F Aa (fun hb => ?_) fun hb => ?_
   ·
    have H := AZ hb H
    rw [hb] at F
    clear hb
    refine Aj (Ac ?_)
    refine ls F W Aa (Ag F Aa).q fun a w F W => ?_
    refine Af (Ad (A1 (B5 ?_)))
    iterate 2 refine Bx ?_
    refine B5 (Bx ?_)
    have H := L2 _ H
    have H := L1 _ H
    have H := A2 H
    subst H
    refine Ck (.inl Aa) F W Aa (AL F Aa) ?_
    exact ⟨rfl, W.done⟩
   have H := AY (by rw [hb]; decide) H
   rw [hb] at F
   clear hb
   refine Ax (Bk (Ad (Ac ?_)))
   refine ls F W Aa (DJ F Aa Aa Aa).q fun a w F W => ?_
   refine ls F W Aa (Ae F Aa).q fun a w F W => ?_
   refine Af (Ad ?_)
   exact ⟨_, H, F.re ⟨rfl, Aa, Aa, Aa, Aa, Aa, trivial⟩, W⟩
  have H := AY (BR hb) H
  rw [hb] at F
  clear hb
  refine Ci ?_
  iterate 2 refine CM ?_
  refine Cj (Ad ?_)
  have H := L2 _ H
  exact ⟨H, F.re ⟨rfl, trivial⟩, W⟩
 rintro a w ⟨hj, F, W⟩
 have H := K1 _ hj
 clear hj G1 K1 L1
 refine Aj (Ac ?_)
 refine ls F W Aa (Ag F Aa).q fun a w F W => ?_
 refine Af (Ad (A1 ?_))
 have H := A2 H
 subst H
 refine Ck (.inl Aa) F W Aa (AL F Aa) ?_
 exact ⟨rfl, W.done⟩
theorem OH : Has Tryd.prog 29 := ⟨fun args w => Am Tryd.func29 rfl (by decide) args w⟩
noncomputable def B4 (p0 : List Int) (p1 : List Int) : Int → Option (Int ⊕ (Unit ⊕ Bool))
  | x1 => (if x1 < (p0.length : Int) then (ix p0 x1).bind fun x2 => (ix p1 x1).bind fun x3 => (if x2 ≠ x3 then some (.inr (.inr false)) else some (.inl (CL (x1 + 1)))) else some (.inr (.inl ())))
noncomputable def BM (p0 : List Int) (p1 : List Int) : Option Bool := (if (p0.length : Int) ≠ (p1.length : Int) then some false else Es (BB (B4 p0 p1) 0) fun _ => some true)
theorem E9 (Y : Nat → Prop) (w0 : World) (v1 : Value) (v2 : Value) (p0 : List Int) (p1 : List Int) (r : Bool) (H : BM p0 p1 = some r) (h_v1 : Sl w0 (NX []) (Rp.int .i64) v1 p0) (h_v2 : Sl w0 (NX []) (Rp.int .i64) v2 p1) :
    Calls Tryd.prog 31 #[v1, v2] w0 fun e w' => e = .returned (.bool r) ∧ Below w0.heap.size w0 w' := by
 refine enter Tryd.func31 Aa Tryd.ntmps31 Aa fun a F => ?_
 have W := Stw.start Y w0
 unfold BM at H
 refine Aj (Ac ?_)
 refine ls F W Aa (Ag F Aa).q fun a w F W => ?_
 refine Af (Ad (Aj (Aj (Ac ?_))))
 refine ls F W Aa (Ae F Aa).q fun a w F W => ?_
 refine ls F W Aa (Dg (r := (Rp.int .i64)) (l := p0) J5 Aa F Aa (AK h_v1)).q fun a w F W => ?_
 refine ls F W Aa (Ae F Aa).q fun a w F W => ?_
 refine ls F W Aa (Dg (r := (Rp.int .i64)) (l := p1) J5 Aa F Aa (AK h_v2)).q fun a w F W => ?_
 refine ls F W Aa (Fe F Aa Aa).q fun a w F W => ?_
 refine Af (Ad ?_)
 refine AA F Aa (fun hb => ?_) fun hb => ?_
 ·
  have H := AZ (BQ hb) H
  rw [hb] at F
  clear hb
  refine Aj (Ac ?_)
  refine ls F W Aa (Ag F Aa).q fun a w F W => ?_
  refine Af (Ad (A1 (Bx ?_)))
  have H := A2 H
  subst H
  refine Ck (.inl Aa) F W Aa (AL F Aa) ?_
  exact ⟨rfl, W.done⟩
 have H := AY (BR hb) H
 rw [hb] at F
 clear hb
 refine Ax (Ad ?_)
 obtain ⟨o1, G1, K1, L1⟩ := IB H
 refine AX (fun a w => some (Sum.inl ()) = some o1 ∧ Fr 26 [] [(4, .bool false)] a ∧ Stw ⟨Y, [], w0⟩ [] [] w) ?_ ?_
 ·
  have H := G1
  clear G1 K1
  refine Aj (Ac ?_)
  refine ls F W Aa (Ae F Aa).q fun a w F W => ?_
  refine ls F W Aa (Dg (r := (Rp.int .i64)) (l := p0) J5 Aa F Aa (AK h_v1)).q fun a w F W => ?_
  refine ls F W Aa (Ae F Aa).q fun a w F W => ?_
  refine Af (Ad (AF ?_))
  refine CA H (fun s a w => Fr 26 [] [(0, v1), (1, v2), (4, .bool false), (12, .int .i64 (p0.length : Int)), (13, .int .i64 s)] a ∧ Stw ⟨Y, [], w0⟩ [] [] w) ⟨F.re ⟨rfl, Aa, Aa, Aa, Aa, trivial⟩, W⟩ fun s o a w H L2 hR => ?_
  obtain ⟨x1, rfl⟩ : ∃ x, x = s := ⟨s, rfl⟩
  obtain ⟨F, W⟩ := hR
  have F : Fr 26 [] [(0, v1), (1, v2), (4, .bool false), (12, .int .i64 (p0.length : Int)), (13, .int .i64 x1)] a := F
  have W : Stw ⟨Y, [], w0⟩ [] [] w := W
  rw [B4] at H
  refine Aj (Ac ?_)
  refine ls F W Aa (DM F Aa Aa).q fun a w F W => ?_
  refine Af (Ad (Aj ?_))
  refine AA F Aa (fun hb => ?_) fun hb => ?_
  ·
   have H := AZ (BQ hb) H
   rw [hb] at F
   clear hb
   refine Ax (Ad (Aj (AF (Aj (Ac ?_)))))
   refine ls F W Aa (Ae F Aa).q fun a w F W => ?_
   refine ls F W Aa (Ag F Aa).q fun a w F W => ?_
   refine Af (Ad (Aj ?_))
   refine FM W MO (by kernel_rfl) ?_
   iterate 2 refine qs F Aa (Ae F Aa).q fun a F => ?_
   obtain ⟨x2, h1, H⟩ := An H
   refine qs F Aa (Cv (r := (Rp.int .i64)) GZ F Aa Aa (AK h_v1) h1).q fun a F => ?_
   refine qs F Aa (A3 (y := Value.int .i64 x2) (j := 0) (i := x1) F Aa Aa (AK h_v1) h1 Fl.int.to T3 Aa).q fun a F => ?_
   iterate 2 refine qs F Aa (Ae F Aa).q fun a F => ?_
   obtain ⟨x3, h2, H⟩ := An H
   refine qs F Aa (Cv (r := (Rp.int .i64)) GZ F Aa Aa (AK h_v2) h2).q fun a F => ?_
   refine qs F Aa (A3 (y := Value.int .i64 x3) (j := 0) (i := x1) F Aa Aa (AK h_v2) h2 Fl.int.to T3 Aa).q fun a F => ?_
   refine qs F Aa (Fe F Aa Aa).q fun a F => ?_
   refine FO fun w W => ?_
   refine Ad ?_
   refine AA F Aa (fun hb => ?_) fun hb => ?_
   ·
    have H := AZ (BQ hb) H
    rw [hb] at F
    clear hb
    refine Aj (Ac ?_)
    refine ls F W Aa (Ag F Aa).q fun a w F W => ?_
    refine Af (Ad (A1 (B5 ?_)))
    iterate 2 refine Bx ?_
    refine B5 (Bx ?_)
    have H := L2 _ H
    have H := L1 _ H
    have H := A2 H
    subst H
    refine Ck (.inl Aa) F W Aa (AL F Aa) ?_
    exact ⟨rfl, W.done⟩
   have H := AY (BR hb) H
   rw [hb] at F
   clear hb
   refine Ax (Bk (Ad (Ac ?_)))
   refine ls F W Aa (DJ F Aa Aa Aa).q fun a w F W => ?_
   refine ls F W Aa (Ae F Aa).q fun a w F W => ?_
   refine Af (Ad ?_)
   exact ⟨_, H, F.re ⟨rfl, Aa, Aa, Aa, Aa, trivial⟩, W⟩
  have H := AY (BR hb) H
  rw [hb] at F
  clear hb
  refine Ci ?_
  iterate 2 refine CM ?_
  refine Cj (Ad ?_)
  have H := L2 _ H
  exact ⟨H, F.re ⟨rfl, trivial⟩, W⟩
 rintro a w ⟨hj, F, W⟩
 have H := K1 _ hj
 clear hj G1 K1 L1
 refine Aj (Ac ?_)
 refine ls F W Aa (Ag F Aa).q fun a w F W => ?_
 refine Af (Ad (A1 ?_))
 have H := A2 H
 subst H
 refine Ck (.inl Aa) F W Aa (AL F Aa) ?_
 exact ⟨rfl, W.done⟩
theorem Om : Has Tryd.prog 31 := ⟨fun args w => Am Tryd.func31 rfl (by decide) args w⟩
noncomputable def Da (p0 : (Int × (List (Int × Int × Int × Int × Int × Int)) × (List (Int × Int))) × List (List Int) × List Int × Int × Int × Int × Int × Int × Int) (p1 : (Int × (List (Int × Int × Int × Int × Int × Int)) × (List (Int × Int))) × List (List Int) × List Int × Int × Int × Int × Int × Int × Int) : Option Bool := (if p0.1.1 = p1.1.1 then (AR p0.1.2.1 p1.1.2.1).bind fun x2 => (if x2 = true then (AQ p0.1.2.2 p1.1.2.2).bind fun x3 => (if x3 = true then (Aq p0.2.1 p1.2.1).bind fun x4 => (if x4 = true then (BM p0.2.2.1 p1.2.2.1).bind fun x5 => (if x5 = true then (if p0.2.2.2.1 = p1.2.2.2.1 then (if p0.2.2.2.2.1 = p1.2.2.2.2.1 then (if p0.2.2.2.2.2.1 = p1.2.2.2.2.2.1 then (if p0.2.2.2.2.2.2.1 = p1.2.2.2.2.2.2.1 then (if p0.2.2.2.2.2.2.2.1 = p1.2.2.2.2.2.2.2.1 then some (decide (p0.2.2.2.2.2.2.2.2 = p1.2.2.2.2.2.2.2.2)) else some false) else some false) else some false) else some false) else some false) else some false) else some false) else some false) else some false) else some false).bind fun x1 => some x1
theorem Gm (Y : Nat → Prop) (w0 : World) (v1 : Value) (v2 : Value) (v3 : Value) (v4 : Value) (v5 : Value) (v6 : Value) (v7 : Value) (v8 : Value) (p0 : (Int × (List (Int × Int × Int × Int × Int × Int)) × (List (Int × Int))) × List (List Int) × List Int × Int × Int × Int × Int × Int × Int) (p1 : (Int × (List (Int × Int × Int × Int × Int × Int)) × (List (Int × Int))) × List (List Int) × List Int × Int × Int × Int × Int × Int × Int) (r : Bool) (H : Da p0 p1 = some r) (h_v1 : Sl w0 (NX []) Bu v1 p0.1.2.1) (h_v2 : Sl w0 (NX []) BC v2 p0.1.2.2) (h_v3 : Sl w0 (NX []) (Rp.slice (Rp.int .u64)) v3 p0.2.1) (h_v4 : Sl w0 (NX []) (Rp.int .i64) v4 p0.2.2.1) (h_v5 : Sl w0 (NX []) Bu v5 p1.1.2.1) (h_v6 : Sl w0 (NX []) BC v6 p1.1.2.2) (h_v7 : Sl w0 (NX []) (Rp.slice (Rp.int .u64)) v7 p1.2.1) (h_v8 : Sl w0 (NX []) (Rp.int .i64) v8 p1.2.2.1) :
    Calls Tryd.prog 11 #[.agg #[.int .i64 p0.1.1, v1, v2, v3, v4, .int .i64 p0.2.2.2.1, .int .i64 p0.2.2.2.2.1, .int .i64 p0.2.2.2.2.2.1, .int .i64 p0.2.2.2.2.2.2.1, .int .i64 p0.2.2.2.2.2.2.2.1, .int .i64 p0.2.2.2.2.2.2.2.2], .agg #[.int .i64 p1.1.1, v5, v6, v7, v8, .int .i64 p1.2.2.2.1, .int .i64 p1.2.2.2.2.1, .int .i64 p1.2.2.2.2.2.1, .int .i64 p1.2.2.2.2.2.2.1, .int .i64 p1.2.2.2.2.2.2.2.1, .int .i64 p1.2.2.2.2.2.2.2.2]] w0 fun e w' => e = .returned (.bool r) ∧ Below w0.heap.size w0 w' := by
 refine enter Tryd.func11 Aa Tryd.ntmps11 Aa fun a F => ?_
 have W := Stw.start Y w0
 obtain ⟨v9, h1, h_v3⟩ := h_v3.ex HC
 obtain ⟨v10, h2, h_v7⟩ := h_v7.ex HC
 unfold Da at H
 refine Aj (Ac ?_)
 refine JB (cs := (KP p0 v1 v2 v3 v4)) F W Aa Aa Aa fun b1 a w F W => ?_
 refine JB (cs := (KP p1 v5 v6 v7 v8)) F W Aa Aa Aa fun b2 a w F W => ?_
 refine ls F W Aa (Ag F Aa).q fun a w F W => ?_
 refine Af (Ad ?_)
 obtain ⟨o1, G1, K1⟩ := An H
 refine AX (fun a w => ∃ x1 : Bool, some (x1) = some o1 ∧ Fr 86 [] [(4, .bool x1)] a ∧ Stw ⟨Y, [], w0⟩ [(b2, (KP p1 v5 v6 v7 v8)), (b1, (KP p0 v1 v2 v3 v4))] [] w) ?_ ?_
 ·
  have H := G1
  clear G1 K1
  refine Ac ?_
  refine ls F W Aa (Ak CH Aa Aa Aa JC F Aa 0 Aa).q fun a w F W => ?_
  refine ls F W Aa (Ak F1 Aa Aa Aa T3 F Aa 0 Aa).q fun a w F W => ?_
  refine ls F W Aa (AW (v := Value.int .i64 p0.1.1) 1 F Aa Aa T3 Aa).q fun a w F W => ?_
  refine ls F W Aa (Ak CH Aa Aa Aa JC F Aa 0 Aa).q fun a w F W => ?_
  refine ls F W Aa (Ak F1 Aa Aa Aa T3 F Aa 0 Aa).q fun a w F W => ?_
  refine ls F W Aa (AW (v := Value.int .i64 p1.1.1) 0 F Aa Aa T3 Aa).q fun a w F W => ?_
  refine ls F W Aa (CC F Aa Aa).q fun a w F W => ?_
  refine ls F W Aa (Ae F Aa).q fun a w F W => ?_
  rcases Bool.eq_false_or_eq_true (decide (p0.1.1 = p1.1.1)) with hb | hb
  ·
   have H := AZ (BQ hb) H
   rw [hb] at F
   clear hb
   refine Av F W (Ai F Aa Aa Aa Aa) Aa (Ao Aa) (Ak CH Aa Aa Aa JC F Aa 0 Aa).q fun a w F W => ?_
   refine Av F W (Ai F Aa Aa Aa Aa) Aa (Ao Aa) (Ak F1 Aa Aa Aa Ls F Aa 1 Aa).q fun a w F W => ?_
   refine Av F W (Ai F Aa Aa Aa Aa) Aa (Ao Aa) (AW (v := v1) 1 F Aa Aa Ls Aa).q fun a w F W => ?_
   refine Av F W (Ai F Aa Aa Aa Aa) Aa (Ao Aa) (Ak CH Aa Aa Aa JC F Aa 0 Aa).q fun a w F W => ?_
   refine Av F W (Ai F Aa Aa Aa Aa) Aa (Ao Aa) (Ak F1 Aa Aa Aa Ls F Aa 1 Aa).q fun a w F W => ?_
   refine Av F W (Ai F Aa Aa Aa Aa) Aa (Ao Aa) (AW (v := v5) 0 F Aa Aa Ls Aa).q fun a w F W => ?_
   refine Ew (Ai F Aa Aa Aa Aa) ?_
   obtain ⟨x2, h3, H⟩ := An H
   refine ls F W Aa (Ba (v := Value.bool x2) F OJ Aa (fun w W => DE any w (v1) (v5) p0.1.2.1 p1.1.2.1 _ h3 (((AK h_v1) : D9 _ _ _ _ _ _) w W).nx (((AK h_v5) : D9 _ _ _ _ _ _) w W).nx)) fun a w F W => ?_
   refine ls F W Aa (Au F Aa Aa Aa).q fun a w F W => ?_
   refine ls F W Aa (Ae F Aa).q fun a w F W => ?_
   rcases Bool.eq_false_or_eq_true x2 with hb | hb
   ·
    have H := AZ hb H
    rw [hb] at F
    clear hb
    refine Av F W (Ai F Aa Aa Aa Aa) Aa (Ao Aa) (Ak CH Aa Aa Aa JC F Aa 0 Aa).q fun a w F W => ?_
    refine Av F W (Ai F Aa Aa Aa Aa) Aa (Ao Aa) (Ak F1 Aa Aa Aa Lt F Aa 2 Aa).q fun a w F W => ?_
    refine Av F W (Ai F Aa Aa Aa Aa) Aa (Ao Aa) (AW (v := v2) 1 F Aa Aa Lt Aa).q fun a w F W => ?_
    refine Av F W (Ai F Aa Aa Aa Aa) Aa (Ao Aa) (Ak CH Aa Aa Aa JC F Aa 0 Aa).q fun a w F W => ?_
    refine Av F W (Ai F Aa Aa Aa Aa) Aa (Ao Aa) (Ak F1 Aa Aa Aa Lt F Aa 2 Aa).q fun a w F W => ?_
    refine Av F W (Ai F Aa Aa Aa Aa) Aa (Ao Aa) (AW (v := v6) 0 F Aa Aa Lt Aa).q fun a w F W => ?_
    refine Ew (Ai F Aa Aa Aa Aa) ?_
    obtain ⟨x3, h4, H⟩ := An H
    refine ls F W Aa (Ba (v := Value.bool x3) F Oc Aa (fun w W => DC any w (v2) (v6) p0.1.2.2 p1.1.2.2 _ h4 (((AK h_v2) : D9 _ _ _ _ _ _) w W).nx (((AK h_v6) : D9 _ _ _ _ _ _) w W).nx)) fun a w F W => ?_
    refine ls F W Aa (Au F Aa Aa Aa).q fun a w F W => ?_
    refine ls F W Aa (Ae F Aa).q fun a w F W => ?_
    rcases Bool.eq_false_or_eq_true x3 with hb | hb
    ·
     have H := AZ hb H
     rw [hb] at F
     clear hb
     refine Av F W (Ai F Aa Aa Aa Aa) Aa (Ao Aa) (Ak CH Aa Aa Aa Lq F Aa 3 Aa).q fun a w F W => ?_
     refine Av F W (Ai F Aa Aa Aa Aa) Aa (Ao Aa) (AW (v := v3) 1 F Aa Aa Lq Aa).q fun a w F W => ?_
     refine Av F W (Ai F Aa Aa Aa Aa) Aa (Ao Aa) (Ak CH Aa Aa Aa Lq F Aa 3 Aa).q fun a w F W => ?_
     refine Av F W (Ai F Aa Aa Aa Aa) Aa (Ao Aa) (AW (v := v7) 0 F Aa Aa Lq Aa).q fun a w F W => ?_
     refine Ew (Ai F Aa Aa Aa Aa) ?_
     obtain ⟨x4, h5, H⟩ := An H
     refine ls F W Aa (Ba (v := Value.bool x4) F OH Aa (fun w W => CX any w (v3) (v7) p0.2.1 p1.2.1 _ h5 (((E3 HC h1 (AK h_v3)) : D9 _ _ _ _ _ _) w W).nx (((E3 HC h2 (AK h_v7)) : D9 _ _ _ _ _ _) w W).nx)) fun a w F W => ?_
     refine ls F W Aa (Au F Aa Aa Aa).q fun a w F W => ?_
     refine ls F W Aa (Ae F Aa).q fun a w F W => ?_
     rcases Bool.eq_false_or_eq_true x4 with hb | hb
     ·
      have H := AZ hb H
      rw [hb] at F
      clear hb
      refine Av F W (Ai F Aa Aa Aa Aa) Aa (Ao Aa) (Ak CH Aa Aa Aa LZ F Aa 4 Aa).q fun a w F W => ?_
      refine Av F W (Ai F Aa Aa Aa Aa) Aa (Ao Aa) (AW (v := v4) 1 F Aa Aa LZ Aa).q fun a w F W => ?_
      refine Av F W (Ai F Aa Aa Aa Aa) Aa (Ao Aa) (Ak CH Aa Aa Aa LZ F Aa 4 Aa).q fun a w F W => ?_
      refine Av F W (Ai F Aa Aa Aa Aa) Aa (Ao Aa) (AW (v := v8) 0 F Aa Aa LZ Aa).q fun a w F W => ?_
      refine Ew (Ai F Aa Aa Aa Aa) ?_
      obtain ⟨x5, h6, H⟩ := An H
      refine ls F W Aa (Ba (v := Value.bool x5) F Om Aa (fun w W => E9 any w (v4) (v8) p0.2.2.1 p1.2.2.1 _ h6 (((AK h_v4) : D9 _ _ _ _ _ _) w W).nx (((AK h_v8) : D9 _ _ _ _ _ _) w W).nx)) fun a w F W => ?_
      refine ls F W Aa (Au F Aa Aa Aa).q fun a w F W => ?_
      refine ls F W Aa (Ae F Aa).q fun a w F W => ?_
      rcases Bool.eq_false_or_eq_true x5 with hb | hb
      ·
       have H := AZ hb H
       rw [hb] at F
       clear hb
       refine Av F W (Ai F Aa Aa Aa Aa) Aa (Ao Aa) (Ak CH Aa Aa Aa T3 F Aa 5 Aa).q fun a w F W => ?_
       refine Av F W (Ai F Aa Aa Aa Aa) Aa (Ao Aa) (AW (v := Value.int .i64 p0.2.2.2.1) 1 F Aa Aa T3 Aa).q fun a w F W => ?_
       refine Av F W (Ai F Aa Aa Aa Aa) Aa (Ao Aa) (Ak CH Aa Aa Aa T3 F Aa 5 Aa).q fun a w F W => ?_
       refine Av F W (Ai F Aa Aa Aa Aa) Aa (Ao Aa) (AW (v := Value.int .i64 p1.2.2.2.1) 0 F Aa Aa T3 Aa).q fun a w F W => ?_
       refine Av F W (Ai F Aa Aa Aa Aa) Aa (Ao Aa) (CC F Aa Aa).q fun a w F W => ?_
       refine ls F W Aa (Au F Aa Aa Aa).q fun a w F W => ?_
       refine ls F W Aa (Ae F Aa).q fun a w F W => ?_
       rcases Bool.eq_false_or_eq_true (decide (p0.2.2.2.1 = p1.2.2.2.1)) with hb | hb
       ·
        have H := AZ (BQ hb) H
        rw [hb] at F
        clear hb
        refine Av F W (Ai F Aa Aa Aa Aa) Aa (Ao Aa) (Ak CH Aa Aa Aa T3 F Aa 6 Aa).q fun a w F W => ?_
        refine Av F W (Ai F Aa Aa Aa Aa) Aa (Ao Aa) (AW (v := Value.int .i64 p0.2.2.2.2.1) 1 F Aa Aa T3 Aa).q fun a w F W => ?_
        refine Av F W (Ai F Aa Aa Aa Aa) Aa (Ao Aa) (Ak CH Aa Aa Aa T3 F Aa 6 Aa).q fun a w F W => ?_
        refine Av F W (Ai F Aa Aa Aa Aa) Aa (Ao Aa) (AW (v := Value.int .i64 p1.2.2.2.2.1) 0 F Aa Aa T3 Aa).q fun a w F W => ?_
        refine Av F W (Ai F Aa Aa Aa Aa) Aa (Ao Aa) (CC F Aa Aa).q fun a w F W => ?_
        refine ls F W Aa (Au F Aa Aa Aa).q fun a w F W => ?_
        refine ls F W Aa (Ae F Aa).q fun a w F W => ?_
        rcases Bool.eq_false_or_eq_true (decide (p0.2.2.2.2.1 = p1.2.2.2.2.1)) with hb | hb
        ·
         have H := AZ (BQ hb) H
         rw [hb] at F
         clear hb
         refine Av F W (Ai F Aa Aa Aa Aa) Aa (Ao Aa) (Ak CH Aa Aa Aa T3 F Aa 7 Aa).q fun a w F W => ?_
         refine Av F W (Ai F Aa Aa Aa Aa) Aa (Ao Aa) (AW (v := Value.int .i64 p0.2.2.2.2.2.1) 1 F Aa Aa T3 Aa).q fun a w F W => ?_
         refine Av F W (Ai F Aa Aa Aa Aa) Aa (Ao Aa) (Ak CH Aa Aa Aa T3 F Aa 7 Aa).q fun a w F W => ?_
         refine Av F W (Ai F Aa Aa Aa Aa) Aa (Ao Aa) (AW (v := Value.int .i64 p1.2.2.2.2.2.1) 0 F Aa Aa T3 Aa).q fun a w F W => ?_
         refine Av F W (Ai F Aa Aa Aa Aa) Aa (Ao Aa) (CC F Aa Aa).q fun a w F W => ?_
         refine ls F W Aa (Au F Aa Aa Aa).q fun a w F W => ?_
         refine ls F W Aa (Ae F Aa).q fun a w F W => ?_
         rcases Bool.eq_false_or_eq_true (decide (p0.2.2.2.2.2.1 = p1.2.2.2.2.2.1)) with hb | hb
         ·
          have H := AZ (BQ hb) H
          rw [hb] at F
          clear hb
          refine Av F W (Ai F Aa Aa Aa Aa) Aa (Ao Aa) (Ak CH Aa Aa Aa T3 F Aa 8 Aa).q fun a w F W => ?_
          refine Av F W (Ai F Aa Aa Aa Aa) Aa (Ao Aa) (AW (v := Value.int .i64 p0.2.2.2.2.2.2.1) 1 F Aa Aa T3 Aa).q fun a w F W => ?_
          refine Av F W (Ai F Aa Aa Aa Aa) Aa (Ao Aa) (Ak CH Aa Aa Aa T3 F Aa 8 Aa).q fun a w F W => ?_
          refine Av F W (Ai F Aa Aa Aa Aa) Aa (Ao Aa) (AW (v := Value.int .i64 p1.2.2.2.2.2.2.1) 0 F Aa Aa T3 Aa).q fun a w F W => ?_
          refine Av F W (Ai F Aa Aa Aa Aa) Aa (Ao Aa) (CC F Aa Aa).q fun a w F W => ?_
          refine ls F W Aa (Au F Aa Aa Aa).q fun a w F W => ?_
          refine ls F W Aa (Ae F Aa).q fun a w F W => ?_
          rcases Bool.eq_false_or_eq_true (decide (p0.2.2.2.2.2.2.1 = p1.2.2.2.2.2.2.1)) with hb | hb
          ·
           have H := AZ (BQ hb) H
           rw [hb] at F
           clear hb
           refine Av F W (Ai F Aa Aa Aa Aa) Aa (Ao Aa) (Ak CH Aa Aa Aa T3 F Aa 9 Aa).q fun a w F W => ?_
           refine Av F W (Ai F Aa Aa Aa Aa) Aa (Ao Aa) (AW (v := Value.int .i64 p0.2.2.2.2.2.2.2.1) 1 F Aa Aa T3 Aa).q fun a w F W => ?_
           refine Av F W (Ai F Aa Aa Aa Aa) Aa (Ao Aa) (Ak CH Aa Aa Aa T3 F Aa 9 Aa).q fun a w F W => ?_
           refine Av F W (Ai F Aa Aa Aa Aa) Aa (Ao Aa) (AW (v := Value.int .i64 p1.2.2.2.2.2.2.2.1) 0 F Aa Aa T3 Aa).q fun a w F W => ?_
           refine Av F W (Ai F Aa Aa Aa Aa) Aa (Ao Aa) (CC F Aa Aa).q fun a w F W => ?_
           refine ls F W Aa (Au F Aa Aa Aa).q fun a w F W => ?_
           refine ls F W Aa (Ae F Aa).q fun a w F W => ?_
           rcases Bool.eq_false_or_eq_true (decide (p0.2.2.2.2.2.2.2.1 = p1.2.2.2.2.2.2.2.1)) with hb | hb
           ·
            have H := AZ (BQ hb) H
            rw [hb] at F
            clear hb
            refine Av F W (Ai F Aa Aa Aa Aa) Aa (Ao Aa) (Ak CH Aa Aa Aa T3 F Aa 10 Aa).q fun a w F W => ?_
            refine Av F W (Ai F Aa Aa Aa Aa) Aa (Ao Aa) (AW (v := Value.int .i64 p0.2.2.2.2.2.2.2.2) 1 F Aa Aa T3 Aa).q fun a w F W => ?_
            refine Av F W (Ai F Aa Aa Aa Aa) Aa (Ao Aa) (Ak CH Aa Aa Aa T3 F Aa 10 Aa).q fun a w F W => ?_
            refine Av F W (Ai F Aa Aa Aa Aa) Aa (Ao Aa) (AW (v := Value.int .i64 p1.2.2.2.2.2.2.2.2) 0 F Aa Aa T3 Aa).q fun a w F W => ?_
            refine Av F W (Ai F Aa Aa Aa Aa) Aa (Ao Aa) (CC F Aa Aa).q fun a w F W => ?_
            refine ls F W Aa (Au F Aa Aa Aa).q fun a w F W => ?_
            refine ls F W Aa (Ag F Aa).q fun a w F W => ?_
            refine Af (Ad ?_)
            have W := W.frontM (i := 1) Aa Aa
            have W := W.frontM (i := 1) Aa Aa
            exact ⟨_, H, F.re ⟨rfl, trivial⟩, W⟩
           have H := AY (BR hb) H
           rw [hb] at F
           clear hb
           iterate 5 refine Cm F Aa Aa Aa Aa Aa Aa Aa fun a F => ?_
           refine ls F W Aa (Al F Aa Aa Aa).q fun a w F W => ?_
           refine ls F W Aa (Ag F Aa).q fun a w F W => ?_
           refine Af (Ad ?_)
           have W := W.frontM (i := 1) Aa Aa
           have W := W.frontM (i := 1) Aa Aa
           exact ⟨_, H, F.re ⟨rfl, trivial⟩, W⟩
          have H := AY (BR hb) H
          rw [hb] at F
          clear hb
          iterate 5 refine Cm F Aa Aa Aa Aa Aa Aa Aa fun a F => ?_
          refine ls F W Aa (Al F Aa Aa Aa).q fun a w F W => ?_
          refine ls F W Aa (Ae F Aa).q fun a w F W => ?_
          iterate 5 refine Cm F Aa Aa Aa Aa Aa Aa Aa fun a F => ?_
          refine ls F W Aa (Al F Aa Aa Aa).q fun a w F W => ?_
          refine ls F W Aa (Ag F Aa).q fun a w F W => ?_
          refine Af (Ad ?_)
          have W := W.frontM (i := 1) Aa Aa
          have W := W.frontM (i := 1) Aa Aa
          exact ⟨_, H, F.re ⟨rfl, trivial⟩, W⟩
         have H := AY (BR hb) H
         rw [hb] at F
         clear hb
         iterate 5 refine Cm F Aa Aa Aa Aa Aa Aa Aa fun a F => ?_
         refine ls F W Aa (Al F Aa Aa Aa).q fun a w F W => ?_
         refine ls F W Aa (Ae F Aa).q fun a w F W => ?_
         iterate 5 refine Cm F Aa Aa Aa Aa Aa Aa Aa fun a F => ?_
         refine ls F W Aa (Al F Aa Aa Aa).q fun a w F W => ?_
         refine ls F W Aa (Ae F Aa).q fun a w F W => ?_
         iterate 5 refine Cm F Aa Aa Aa Aa Aa Aa Aa fun a F => ?_
         refine ls F W Aa (Al F Aa Aa Aa).q fun a w F W => ?_
         refine ls F W Aa (Ag F Aa).q fun a w F W => ?_
         refine Af (Ad ?_)
         have W := W.frontM (i := 1) Aa Aa
         have W := W.frontM (i := 1) Aa Aa
         exact ⟨_, H, F.re ⟨rfl, trivial⟩, W⟩
        have H := AY (BR hb) H
        rw [hb] at F
        clear hb
        iterate 5 refine Cm F Aa Aa Aa Aa Aa Aa Aa fun a F => ?_
        refine ls F W Aa (Al F Aa Aa Aa).q fun a w F W => ?_
        refine ls F W Aa (Ae F Aa).q fun a w F W => ?_
        iterate 5 refine Cm F Aa Aa Aa Aa Aa Aa Aa fun a F => ?_
        refine ls F W Aa (Al F Aa Aa Aa).q fun a w F W => ?_
        refine ls F W Aa (Ae F Aa).q fun a w F W => ?_
        iterate 5 refine Cm F Aa Aa Aa Aa Aa Aa Aa fun a F => ?_
        refine ls F W Aa (Al F Aa Aa Aa).q fun a w F W => ?_
        refine ls F W Aa (Ae F Aa).q fun a w F W => ?_
        iterate 5 refine Cm F Aa Aa Aa Aa Aa Aa Aa fun a F => ?_
        refine ls F W Aa (Al F Aa Aa Aa).q fun a w F W => ?_
        refine ls F W Aa (Ag F Aa).q fun a w F W => ?_
        refine Af (Ad ?_)
        have W := W.frontM (i := 1) Aa Aa
        have W := W.frontM (i := 1) Aa Aa
        exact ⟨_, H, F.re ⟨rfl, trivial⟩, W⟩
       have H := AY (BR hb) H
       rw [hb] at F
       clear hb
       iterate 5 refine Cm F Aa Aa Aa Aa Aa Aa Aa fun a F => ?_
       refine ls F W Aa (Al F Aa Aa Aa).q fun a w F W => ?_
       refine ls F W Aa (Ae F Aa).q fun a w F W => ?_
       iterate 5 refine Cm F Aa Aa Aa Aa Aa Aa Aa fun a F => ?_
       refine ls F W Aa (Al F Aa Aa Aa).q fun a w F W => ?_
       refine ls F W Aa (Ae F Aa).q fun a w F W => ?_
       iterate 5 refine Cm F Aa Aa Aa Aa Aa Aa Aa fun a F => ?_
       refine ls F W Aa (Al F Aa Aa Aa).q fun a w F W => ?_
       refine ls F W Aa (Ae F Aa).q fun a w F W => ?_
       iterate 5 refine Cm F Aa Aa Aa Aa Aa Aa Aa fun a F => ?_
       refine ls F W Aa (Al F Aa Aa Aa).q fun a w F W => ?_
       refine ls F W Aa (Ae F Aa).q fun a w F W => ?_
       iterate 5 refine Cm F Aa Aa Aa Aa Aa Aa Aa fun a F => ?_
       refine ls F W Aa (Al F Aa Aa Aa).q fun a w F W => ?_
       refine ls F W Aa (Ag F Aa).q fun a w F W => ?_
       refine Af (Ad ?_)
       have W := W.frontM (i := 1) Aa Aa
       have W := W.frontM (i := 1) Aa Aa
       exact ⟨_, H, F.re ⟨rfl, trivial⟩, W⟩
      have H := AY (by rw [hb]; decide) H
      rw [hb] at F
      clear hb
      iterate 5 refine Cm F Aa Aa Aa Aa Aa Aa Aa fun a F => ?_
      refine ls F W Aa (Al F Aa Aa Aa).q fun a w F W => ?_
      refine ls F W Aa (Ae F Aa).q fun a w F W => ?_
      iterate 5 refine Cm F Aa Aa Aa Aa Aa Aa Aa fun a F => ?_
      refine ls F W Aa (Al F Aa Aa Aa).q fun a w F W => ?_
      refine ls F W Aa (Ae F Aa).q fun a w F W => ?_
      iterate 5 refine Cm F Aa Aa Aa Aa Aa Aa Aa fun a F => ?_
      refine ls F W Aa (Al F Aa Aa Aa).q fun a w F W => ?_
      refine ls F W Aa (Ae F Aa).q fun a w F W => ?_
      iterate 5 refine Cm F Aa Aa Aa Aa Aa Aa Aa fun a F => ?_
      refine ls F W Aa (Al F Aa Aa Aa).q fun a w F W => ?_
      refine ls F W Aa (Ae F Aa).q fun a w F W => ?_
      iterate 5 refine Cm F Aa Aa Aa Aa Aa Aa Aa fun a F => ?_
      refine ls F W Aa (Al F Aa Aa Aa).q fun a w F W => ?_
      refine ls F W Aa (Ae F Aa).q fun a w F W => ?_
      iterate 5 refine Cm F Aa Aa Aa Aa Aa Aa Aa fun a F => ?_
      refine ls F W Aa (Al F Aa Aa Aa).q fun a w F W => ?_
      refine ls F W Aa (Ag F Aa).q fun a w F W => ?_
      refine Af (Ad ?_)
      have W := W.frontM (i := 1) Aa Aa
      have W := W.frontM (i := 1) Aa Aa
      exact ⟨_, H, F.re ⟨rfl, trivial⟩, W⟩
     have H := AY (by rw [hb]; decide) H
     rw [hb] at F
     clear hb
     iterate 5 refine Cm F Aa Aa Aa Aa Aa Aa Aa fun a F => ?_
     refine ls F W Aa (Al F Aa Aa Aa).q fun a w F W => ?_
     refine ls F W Aa (Ae F Aa).q fun a w F W => ?_
     iterate 5 refine Cm F Aa Aa Aa Aa Aa Aa Aa fun a F => ?_
     refine ls F W Aa (Al F Aa Aa Aa).q fun a w F W => ?_
     refine ls F W Aa (Ae F Aa).q fun a w F W => ?_
     iterate 5 refine Cm F Aa Aa Aa Aa Aa Aa Aa fun a F => ?_
     refine ls F W Aa (Al F Aa Aa Aa).q fun a w F W => ?_
     refine ls F W Aa (Ae F Aa).q fun a w F W => ?_
     iterate 5 refine Cm F Aa Aa Aa Aa Aa Aa Aa fun a F => ?_
     refine ls F W Aa (Al F Aa Aa Aa).q fun a w F W => ?_
     refine ls F W Aa (Ae F Aa).q fun a w F W => ?_
     iterate 5 refine Cm F Aa Aa Aa Aa Aa Aa Aa fun a F => ?_
     refine ls F W Aa (Al F Aa Aa Aa).q fun a w F W => ?_
     refine ls F W Aa (Ae F Aa).q fun a w F W => ?_
     iterate 5 refine Cm F Aa Aa Aa Aa Aa Aa Aa fun a F => ?_
     refine ls F W Aa (Al F Aa Aa Aa).q fun a w F W => ?_
     refine ls F W Aa (Ae F Aa).q fun a w F W => ?_
     iterate 5 refine Cm F Aa Aa Aa Aa Aa Aa Aa fun a F => ?_
     refine ls F W Aa (Al F Aa Aa Aa).q fun a w F W => ?_
     refine ls F W Aa (Ag F Aa).q fun a w F W => ?_
     refine Af (Ad ?_)
     have W := W.frontM (i := 1) Aa Aa
     have W := W.frontM (i := 1) Aa Aa
     exact ⟨_, H, F.re ⟨rfl, trivial⟩, W⟩
    have H := AY (by rw [hb]; decide) H
    rw [hb] at F
    clear hb
    iterate 5 refine Cm F Aa Aa Aa Aa Aa Aa Aa fun a F => ?_
    refine ls F W Aa (Al F Aa Aa Aa).q fun a w F W => ?_
    refine ls F W Aa (Ae F Aa).q fun a w F W => ?_
    iterate 5 refine Cm F Aa Aa Aa Aa Aa Aa Aa fun a F => ?_
    refine ls F W Aa (Al F Aa Aa Aa).q fun a w F W => ?_
    refine ls F W Aa (Ae F Aa).q fun a w F W => ?_
    iterate 5 refine Cm F Aa Aa Aa Aa Aa Aa Aa fun a F => ?_
    refine ls F W Aa (Al F Aa Aa Aa).q fun a w F W => ?_
    refine ls F W Aa (Ae F Aa).q fun a w F W => ?_
    iterate 5 refine Cm F Aa Aa Aa Aa Aa Aa Aa fun a F => ?_
    refine ls F W Aa (Al F Aa Aa Aa).q fun a w F W => ?_
    refine ls F W Aa (Ae F Aa).q fun a w F W => ?_
    iterate 5 refine Cm F Aa Aa Aa Aa Aa Aa Aa fun a F => ?_
    refine ls F W Aa (Al F Aa Aa Aa).q fun a w F W => ?_
    refine ls F W Aa (Ae F Aa).q fun a w F W => ?_
    iterate 5 refine Cm F Aa Aa Aa Aa Aa Aa Aa fun a F => ?_
    refine ls F W Aa (Al F Aa Aa Aa).q fun a w F W => ?_
    refine ls F W Aa (Ae F Aa).q fun a w F W => ?_
    iterate 5 refine Cm F Aa Aa Aa Aa Aa Aa Aa fun a F => ?_
    refine ls F W Aa (Al F Aa Aa Aa).q fun a w F W => ?_
    refine ls F W Aa (Ae F Aa).q fun a w F W => ?_
    iterate 5 refine Cm F Aa Aa Aa Aa Aa Aa Aa fun a F => ?_
    refine ls F W Aa (Al F Aa Aa Aa).q fun a w F W => ?_
    refine ls F W Aa (Ag F Aa).q fun a w F W => ?_
    refine Af (Ad ?_)
    have W := W.frontM (i := 1) Aa Aa
    have W := W.frontM (i := 1) Aa Aa
    exact ⟨_, H, F.re ⟨rfl, trivial⟩, W⟩
   have H := AY (by rw [hb]; decide) H
   rw [hb] at F
   clear hb
   iterate 7 refine Cm F Aa Aa Aa Aa Aa Aa Aa fun a F => ?_
   refine ls F W Aa (Al F Aa Aa Aa).q fun a w F W => ?_
   refine ls F W Aa (Ae F Aa).q fun a w F W => ?_
   iterate 5 refine Cm F Aa Aa Aa Aa Aa Aa Aa fun a F => ?_
   refine ls F W Aa (Al F Aa Aa Aa).q fun a w F W => ?_
   refine ls F W Aa (Ae F Aa).q fun a w F W => ?_
   iterate 5 refine Cm F Aa Aa Aa Aa Aa Aa Aa fun a F => ?_
   refine ls F W Aa (Al F Aa Aa Aa).q fun a w F W => ?_
   refine ls F W Aa (Ae F Aa).q fun a w F W => ?_
   iterate 5 refine Cm F Aa Aa Aa Aa Aa Aa Aa fun a F => ?_
   refine ls F W Aa (Al F Aa Aa Aa).q fun a w F W => ?_
   refine ls F W Aa (Ae F Aa).q fun a w F W => ?_
   iterate 5 refine Cm F Aa Aa Aa Aa Aa Aa Aa fun a F => ?_
   refine ls F W Aa (Al F Aa Aa Aa).q fun a w F W => ?_
   refine ls F W Aa (Ae F Aa).q fun a w F W => ?_
   iterate 5 refine Cm F Aa Aa Aa Aa Aa Aa Aa fun a F => ?_
   refine ls F W Aa (Al F Aa Aa Aa).q fun a w F W => ?_
   refine ls F W Aa (Ae F Aa).q fun a w F W => ?_
   iterate 5 refine Cm F Aa Aa Aa Aa Aa Aa Aa fun a F => ?_
   refine ls F W Aa (Al F Aa Aa Aa).q fun a w F W => ?_
   refine ls F W Aa (Ae F Aa).q fun a w F W => ?_
   iterate 5 refine Cm F Aa Aa Aa Aa Aa Aa Aa fun a F => ?_
   refine ls F W Aa (Al F Aa Aa Aa).q fun a w F W => ?_
   refine ls F W Aa (Ae F Aa).q fun a w F W => ?_
   iterate 5 refine Cm F Aa Aa Aa Aa Aa Aa Aa fun a F => ?_
   refine ls F W Aa (Al F Aa Aa Aa).q fun a w F W => ?_
   refine ls F W Aa (Ag F Aa).q fun a w F W => ?_
   refine Af (Ad ?_)
   have W := W.frontM (i := 1) Aa Aa
   have W := W.frontM (i := 1) Aa Aa
   exact ⟨_, H, F.re ⟨rfl, trivial⟩, W⟩
  have H := AY (BR hb) H
  rw [hb] at F
  clear hb
  iterate 7 refine Cm F Aa Aa Aa Aa Aa Aa Aa fun a F => ?_
  refine ls F W Aa (Al F Aa Aa Aa).q fun a w F W => ?_
  refine ls F W Aa (Ae F Aa).q fun a w F W => ?_
  iterate 7 refine Cm F Aa Aa Aa Aa Aa Aa Aa fun a F => ?_
  refine ls F W Aa (Al F Aa Aa Aa).q fun a w F W => ?_
  refine ls F W Aa (Ae F Aa).q fun a w F W => ?_
  iterate 5 refine Cm F Aa Aa Aa Aa Aa Aa Aa fun a F => ?_
  refine ls F W Aa (Al F Aa Aa Aa).q fun a w F W => ?_
  refine ls F W Aa (Ae F Aa).q fun a w F W => ?_
  iterate 5 refine Cm F Aa Aa Aa Aa Aa Aa Aa fun a F => ?_
  refine ls F W Aa (Al F Aa Aa Aa).q fun a w F W => ?_
  refine ls F W Aa (Ae F Aa).q fun a w F W => ?_
  iterate 5 refine Cm F Aa Aa Aa Aa Aa Aa Aa fun a F => ?_
  refine ls F W Aa (Al F Aa Aa Aa).q fun a w F W => ?_
  refine ls F W Aa (Ae F Aa).q fun a w F W => ?_
  iterate 5 refine Cm F Aa Aa Aa Aa Aa Aa Aa fun a F => ?_
  refine ls F W Aa (Al F Aa Aa Aa).q fun a w F W => ?_
  refine ls F W Aa (Ae F Aa).q fun a w F W => ?_
  iterate 5 refine Cm F Aa Aa Aa Aa Aa Aa Aa fun a F => ?_
  refine ls F W Aa (Al F Aa Aa Aa).q fun a w F W => ?_
  refine ls F W Aa (Ae F Aa).q fun a w F W => ?_
  iterate 5 refine Cm F Aa Aa Aa Aa Aa Aa Aa fun a F => ?_
  refine ls F W Aa (Al F Aa Aa Aa).q fun a w F W => ?_
  refine ls F W Aa (Ae F Aa).q fun a w F W => ?_
  iterate 5 refine Cm F Aa Aa Aa Aa Aa Aa Aa fun a F => ?_
  refine ls F W Aa (Al F Aa Aa Aa).q fun a w F W => ?_
  refine ls F W Aa (Ae F Aa).q fun a w F W => ?_
  iterate 5 refine Cm F Aa Aa Aa Aa Aa Aa Aa fun a F => ?_
  refine ls F W Aa (Al F Aa Aa Aa).q fun a w F W => ?_
  refine ls F W Aa (Ag F Aa).q fun a w F W => ?_
  refine Af (Ad ?_)
  have W := W.frontM (i := 1) Aa Aa
  have W := W.frontM (i := 1) Aa Aa
  exact ⟨_, H, F.re ⟨rfl, trivial⟩, W⟩
 rintro a w ⟨x1, hj, F, W⟩
 have hj := A2 hj
 subst hj
 have H := K1
 clear G1 K1
 refine A1 ?_
 have H := A2 H
 subst H
 refine Ck (.inl Aa) F W Aa (AL F Aa) ?_
 exact ⟨rfl, W.done⟩
theorem NV : Has Tryd.prog 11 := ⟨fun args w => Am Tryd.func11 rfl (by decide) args w⟩
abbrev KA (a0 : Nat) (a1 : Value) (a2 : Value) : List (Nat × List Value) := [(a0, [.int .i64 2, .slice none 0 0, .slice none 0 0, a1, a2, .int .i64 0, .int .i64 0, .int .i64 0, .int .i64 0, .int .i64 0, .int .i64 1])]
abbrev Ma (a0 : ((Int × (List (Int × Int × Int × Int × Int × Int)) × (List (Int × Int))) × List (List Int) × List Int × Int × Int × Int × Int × Int × Int) × Int × Int) (a1 : Value) (a2 : Value) (a3 : Value) (a4 : Value) : List Value := [.int .i64 a0.1.1.1, a1, a2, a3, a4, .int .i64 a0.1.2.2.2.1, .int .i64 a0.1.2.2.2.2.1, .int .i64 a0.1.2.2.2.2.2.1, .int .i64 a0.1.2.2.2.2.2.2.1, .int .i64 a0.1.2.2.2.2.2.2.2.1, .int .i64 a0.1.2.2.2.2.2.2.2.2]
abbrev H2 (a0 : Nat) (a1 : ((Int × (List (Int × Int × Int × Int × Int × Int)) × (List (Int × Int))) × List (List Int) × List Int × Int × Int × Int × Int × Int × Int) × Int × Int) (a2 : Value) (a3 : Value) (a4 : Value) (a5 : Value) (a6 : Nat) (a7 : Value) (a8 : Value) : List (Nat × List Value) := [(a0, [.int .i64 a1.1.1.1, a2, a3, a4, a5, .int .i64 a1.1.2.2.2.1, .int .i64 a1.1.2.2.2.2.1, .int .i64 a1.1.2.2.2.2.2.1, .int .i64 a1.1.2.2.2.2.2.2.1, .int .i64 a1.1.2.2.2.2.2.2.2.1, .int .i64 a1.1.2.2.2.2.2.2.2.2]), (a6, [.int .i64 2, .slice none 0 0, .slice none 0 0, a7, a8, .int .i64 0, .int .i64 0, .int .i64 0, .int .i64 0, .int .i64 0, .int .i64 1])]
noncomputable def Dt  : Option Bool := (Dk ((2, ([] : List (Int × Int × Int × Int × Int × Int)), ([] : List (Int × Int))), ([([4607182418800017408] : List Int)] : List (List Int)), ([0, (-4)] : List Int), 0, 0, 0, 0, 0, 1)).bind fun x1 => (CS x1).bind fun x2 => (if x1 = ([115, 119, 105, 116, 99, 104, 101, 115, 32, 50, 10, 119, 101, 105, 103, 104, 116, 115, 32, 51, 102, 102, 48, 48, 48, 48, 48, 48, 48, 48, 48, 48, 48, 48, 48, 10, 115, 116, 97, 114, 116, 115, 32, 48, 32, 45, 52, 10, 114, 97, 116, 101, 32, 48, 10, 114, 111, 111, 109, 32, 48, 10, 119, 105, 100, 101, 32, 48, 10, 108, 101, 97, 100, 32, 48, 10, 109, 97, 114, 103, 105, 110, 32, 48, 10, 114, 101, 116, 114, 121, 32, 49, 10] : List UInt8) then (if x2.2.1 = 0 then (if x2.2.2 = 0 then (Da ((2, ([] : List (Int × Int × Int × Int × Int × Int)), ([] : List (Int × Int))), ([([4607182418800017408] : List Int)] : List (List Int)), ([0, (-4)] : List Int), 0, 0, 0, 0, 0, 1) x2.1).bind fun x4 => some x4 else some false) else some false) else some false).bind fun x3 => some x3
theorem FB (Y : Nat → Prop) (w0 : World)   (r : Bool) (H : Dt  = some r) (hG : Gk [] w0) :
    Calls Tryd.prog 7 #[] w0 fun e w' => e = .returned (.bool r) ∧ Below w0.heap.size w0 w' := by
 refine enter Tryd.func7 Aa Tryd.ntmps7 Aa fun a F => ?_
 have W := Stw.start Y w0
 unfold Dt at H
 refine Aj (Ac ?_)
 refine ls F W Aa (Ag F Aa).q fun a w F W => ?_
 refine Af (Ad (Aj (Ac ?_)))
 refine ls F W Aa (EU (v := Value.agg #[.int .i64 2, .slice none 0 0, .slice none 0 0]) OA F Aa Aa Aa).q fun a w F W => ?_
 refine D6 (z := Value.int .u64 0) (cs := [.int .u64 4607182418800017408]) (Rp.int .u64) ([4607182418800017408] : List Int) F W Aa MS NY Aa Aa Aa Aa Aa Aa (Fl.int.repL _ _ ([4607182418800017408] : List Int)) fun v1 a w F W => ?_
 have W := W.freeze
 refine D6 (z := Value.slice none 0 0) (cs := [v1]) (Rp.slice (Rp.int .u64)) ([([4607182418800017408] : List Int)] : List (List Int)) F W Aa MU NS Aa Aa Aa (Eu Aa (E1 (W.oneF (k := 0) Aa)) Aa Hq) Aa Aa ⟨[v1], _, Aa, ⟨_, Aa, (W.item (i := 0) Aa)⟩, Aa⟩ fun v2 a w F W => ?_
 refine D6 (z := Value.int .i64 0) (cs := [.int .i64 0, .int .i64 (-4)]) (Rp.int .i64) ([0, (-4)] : List Int) F W Aa GZ Z3 Aa Aa Aa Aa Aa Aa (Fl.int.repL _ _ ([0, (-4)] : List Int)) fun v3 a w F W => ?_
 refine ls F W Aa (EU (v := Value.agg #[.int .i64 2, .slice none 0 0, .slice none 0 0, v2, v3, .int .i64 0, .int .i64 0, .int .i64 0, .int .i64 0, .int .i64 0, .int .i64 1]) NE F Aa (Eu Aa Aa Aa (Eu Aa (E1 (W.one (k := 1) Aa)) Aa (Eu Aa (E1 (W.one (k := 0) Aa)) Aa (Eu Aa Aa Aa Hq)))) Aa).q fun a w F W => ?_
 refine Ep (cs := (FD)) F W Aa Nn Aa fun b1 a w F W => ?_
 refine Ch (vs := [.int .i64 2, .slice none 0 0, .slice none 0 0, v2, v3, .int .i64 0, .int .i64 0, .int .i64 0, .int .i64 0, .int .i64 0, .int .i64 1]) (M' := (KA b1 v2 v3)) 0 F W Aa Aa Aa Gv Aa Aa Aa (AC Aa (AC Aa (AC Aa (AC (W.one (k := 1) Aa) (AC (W.one (k := 0) Aa) (AC Aa (AC Aa (AC Aa (AC Aa (AC Aa (AC Aa GY))))))))))) Aa fun w W => ?_
 refine Af (Ad (Aj (Ac ?_)))
 refine ls F W Aa (AW (v := Value.agg #[.int .i64 2, .slice none 0 0, .slice none 0 0, v2, v3, .int .i64 0, .int .i64 0, .int .i64 0, .int .i64 0, .int .i64 0, .int .i64 1]) 0 F Aa Aa Gv Aa).q fun a w F W => ?_
 obtain ⟨x1, h1, H⟩ := An H
 refine ls F W Aa (Ba (v := Value.string (bs x1)) F H8 Aa (fun w W => F6 any w (Value.slice none 0 0) (Value.slice none 0 0) (v2) (v3) ((2, ([] : List (Int × Int × Int × Int × Int × Int)), ([] : List (Int × Int))), ([([4607182418800017408] : List Int)] : List (List Int)), ([0, (-4)] : List Int), 0, 0, 0, 0, 0, 1) _ h1 Sl.nil Sl.nil (((AO 1 Aa) : D9 _ _ _ _ _ _) w W).nx (((AO 0 Aa) : D9 _ _ _ _ _ _) w W).nx (hG.go0 W))) fun a w F W => ?_
 refine ls F W Aa (Ag F Aa).q fun a w F W => ?_
 refine Af (Ad (Aj (Ac ?_)))
 refine ls F W Aa (Ae F Aa).q fun a w F W => ?_
 obtain ⟨x2, h2, H⟩ := An H
 refine AE (Ml := []) (Zl := []) (M := (KA b1 v2 v3)) (Z := [row v3 3 (Rp.int .i64) ([0, (-4)] : List Int), row v2 39 (Rp.slice (Rp.int .u64)) ([([4607182418800017408] : List Int)] : List (List Int)), Ij v1 (Rp.int .u64) ([4607182418800017408] : List Int)]) (β := Value × Value × Value × Value) (rv := fun x => .tuple #[.agg #[.int .i64 x2.1.1.1, x.1, x.2.1, x.2.2.1, x.2.2.2, .int .i64 x2.1.2.2.2.1, .int .i64 x2.1.2.2.2.2.1, .int .i64 x2.1.2.2.2.2.2.1, .int .i64 x2.1.2.2.2.2.2.2.1, .int .i64 x2.1.2.2.2.2.2.2.2.1, .int .i64 x2.1.2.2.2.2.2.2.2.2], .int .i64 x2.2.1, .int .i64 x2.2.2]) (MM := fun x => []) (ZZ := fun x => [row x.1 41 Bu x2.1.1.2.1, row x.2.1 43 BC x2.1.1.2.2, row x.2.2.1 39 (Rp.slice (Rp.int .u64)) x2.1.2.1, row x.2.2.2 3 (Rp.int .i64) x2.1.2.2.1]) F W H9 Aa Aa (fun hL => FX _ w x1 _ h2 (hG.go0 W)) fun x a w F W => ?_
 obtain ⟨v4, v5, v6, v7⟩ := x
 have W : Stw ⟨Y, [], w0⟩ (KA b1 v2 v3) [row v4 41 Bu x2.1.1.2.1, row v5 43 BC x2.1.1.2.2, row v6 39 (Rp.slice (Rp.int .u64)) x2.1.2.1, row v7 3 (Rp.int .i64) x2.1.2.2.1, row v3 3 (Rp.int .i64) ([0, (-4)] : List Int), row v2 39 (Rp.slice (Rp.int .u64)) ([([4607182418800017408] : List Int)] : List (List Int)), Ij v1 (Rp.int .u64) ([4607182418800017408] : List Int)] w := W
 refine ls F W Aa (Ae F Aa).q fun a w F W => ?_
 refine ls F W Aa (AP (v := Value.agg #[.int .i64 x2.1.1.1, v4, v5, v6, v7, .int .i64 x2.1.2.2.2.1, .int .i64 x2.1.2.2.2.2.1, .int .i64 x2.1.2.2.2.2.2.1, .int .i64 x2.1.2.2.2.2.2.2.1, .int .i64 x2.1.2.2.2.2.2.2.2.1, .int .i64 x2.1.2.2.2.2.2.2.2.2]) F Aa Aa).q fun a w F W => ?_
 refine ls F W Aa (AP (v := Value.int .i64 x2.2.1) F Aa Aa).q fun a w F W => ?_
 refine ls F W Aa (AP (v := Value.int .i64 x2.2.2) F Aa Aa).q fun a w F W => ?_
 refine Ep (cs := (FD)) F W Aa Nn Aa fun b2 a w F W => ?_
 refine Ch (vs := (Ma x2 v4 v5 v6 v7)) (M' := (H2 b2 x2 v4 v5 v6 v7 b1 v2 v3)) 0 F W Aa Aa Aa Gv Aa Aa Aa (AC Aa (AC (W.one (k := 0) Aa) (AC (W.one (k := 1) Aa) (AC (W.one (k := 2) Aa) (AC (W.one (k := 3) Aa) (AC Aa (AC Aa (AC Aa (AC Aa (AC Aa (AC Aa GY))))))))))) Aa fun w W => ?_
 iterate 2 refine ls F W Aa (Ag F Aa).q fun a w F W => ?_
 refine Af (Ad ?_)
 obtain ⟨o1, G1, K1⟩ := An H
 refine AX (fun a w => ∃ x3 : Bool, some (x3) = some o1 ∧ Fr 34 [] [(0, .bool x3)] a ∧ Stw ⟨Y, [], w0⟩ (H2 b2 x2 v4 v5 v6 v7 b1 v2 v3) [row v4 41 Bu x2.1.1.2.1, row v5 43 BC x2.1.1.2.2, row v6 39 (Rp.slice (Rp.int .u64)) x2.1.2.1, row v7 3 (Rp.int .i64) x2.1.2.2.1, row v2 39 (Rp.slice (Rp.int .u64)) ([([4607182418800017408] : List Int)] : List (List Int)), row v3 3 (Rp.int .i64) ([0, (-4)] : List Int)] w) ?_ ?_
 ·
  have H := G1
  clear G1 K1
  refine Ac ?_
  refine ls F W Aa (Ae F Aa).q fun a w F W => ?_
  refine ls F W Aa (JP (l := x1) (m := ([115, 119, 105, 116, 99, 104, 101, 115, 32, 50, 10, 119, 101, 105, 103, 104, 116, 115, 32, 51, 102, 102, 48, 48, 48, 48, 48, 48, 48, 48, 48, 48, 48, 48, 48, 10, 115, 116, 97, 114, 116, 115, 32, 48, 32, 45, 52, 10, 114, 97, 116, 101, 32, 48, 10, 114, 111, 111, 109, 32, 48, 10, 119, 105, 100, 101, 32, 48, 10, 108, 101, 97, 100, 32, 48, 10, 109, 97, 114, 103, 105, 110, 32, 48, 10, 114, 101, 116, 114, 121, 32, 49, 10] : List UInt8)) F Aa Aa).q fun a w F W => ?_
  refine ls F W Aa (Ae F Aa).q fun a w F W => ?_
  rcases Bool.eq_false_or_eq_true (decide (x1 = ([115, 119, 105, 116, 99, 104, 101, 115, 32, 50, 10, 119, 101, 105, 103, 104, 116, 115, 32, 51, 102, 102, 48, 48, 48, 48, 48, 48, 48, 48, 48, 48, 48, 48, 48, 10, 115, 116, 97, 114, 116, 115, 32, 48, 32, 45, 52, 10, 114, 97, 116, 101, 32, 48, 10, 114, 111, 111, 109, 32, 48, 10, 119, 105, 100, 101, 32, 48, 10, 108, 101, 97, 100, 32, 48, 10, 109, 97, 114, 103, 105, 110, 32, 48, 10, 114, 101, 116, 114, 121, 32, 49, 10] : List UInt8))) with hb | hb
  ·
   have H := AZ (BQ hb) H
   rw [hb] at F
   clear hb
   refine Av F W (Ai F Aa Aa Aa Aa) Aa (Ao Aa) (Ae F Aa).q fun a w F W => ?_
   refine Av F W (Ai F Aa Aa Aa Aa) Aa (Ao Aa) (CC F Aa Aa).q fun a w F W => ?_
   refine ls F W Aa (Au F Aa Aa Aa).q fun a w F W => ?_
   refine ls F W Aa (Ae F Aa).q fun a w F W => ?_
   rcases Bool.eq_false_or_eq_true (decide (x2.2.1 = 0)) with hb | hb
   ·
    have H := AZ (BQ hb) H
    rw [hb] at F
    clear hb
    refine Av F W (Ai F Aa Aa Aa Aa) Aa (Ao Aa) (Ae F Aa).q fun a w F W => ?_
    refine Av F W (Ai F Aa Aa Aa Aa) Aa (Ao Aa) (CC F Aa Aa).q fun a w F W => ?_
    refine ls F W Aa (Au F Aa Aa Aa).q fun a w F W => ?_
    refine ls F W Aa (Ae F Aa).q fun a w F W => ?_
    rcases Bool.eq_false_or_eq_true (decide (x2.2.2 = 0)) with hb | hb
    ·
     have H := AZ (BQ hb) H
     rw [hb] at F
     clear hb
     refine Av F W (Ai F Aa Aa Aa Aa) Aa (Ao Aa) (AW (v := Value.agg #[.int .i64 2, .slice none 0 0, .slice none 0 0, v2, v3, .int .i64 0, .int .i64 0, .int .i64 0, .int .i64 0, .int .i64 0, .int .i64 1]) 1 F Aa Aa Gv Aa).q fun a w F W => ?_
     refine Av F W (Ai F Aa Aa Aa Aa) Aa (Ao Aa) (AW (v := Value.agg #[.int .i64 x2.1.1.1, v4, v5, v6, v7, .int .i64 x2.1.2.2.2.1, .int .i64 x2.1.2.2.2.2.1, .int .i64 x2.1.2.2.2.2.2.1, .int .i64 x2.1.2.2.2.2.2.2.1, .int .i64 x2.1.2.2.2.2.2.2.2.1, .int .i64 x2.1.2.2.2.2.2.2.2.2]) 0 F Aa Aa Gv Aa).q fun a w F W => ?_
     refine Ew (Ai F Aa Aa Aa Aa) ?_
     obtain ⟨x4, h3, H⟩ := An H
     refine ls F W Aa (Ba (v := Value.bool x4) F NV Aa (fun w W => Gm any w (Value.slice none 0 0) (Value.slice none 0 0) (v2) (v3) (v4) (v5) (v6) (v7) ((2, ([] : List (Int × Int × Int × Int × Int × Int)), ([] : List (Int × Int))), ([([4607182418800017408] : List Int)] : List (List Int)), ([0, (-4)] : List Int), 0, 0, 0, 0, 0, 1) x2.1 _ h3 Sl.nil Sl.nil (((AO 5 Aa) : D9 _ _ _ _ _ _) w W).nx (((AO 4 Aa) : D9 _ _ _ _ _ _) w W).nx (((AO 0 Aa) : D9 _ _ _ _ _ _) w W).nx (((AO 1 Aa) : D9 _ _ _ _ _ _) w W).nx (((AO 2 Aa) : D9 _ _ _ _ _ _) w W).nx (((AO 3 Aa) : D9 _ _ _ _ _ _) w W).nx)) fun a w F W => ?_
     refine ls F W Aa (Au F Aa Aa Aa).q fun a w F W => ?_
     refine ls F W Aa (Ag F Aa).q fun a w F W => ?_
     refine Af (Ad ?_)
     have W := W.frontZ (i := 4) Aa Aa
     have W := W.frontZ (i := 5) Aa Aa
     have W := W.frontZ (i := 5) Aa Aa
     have W := W.frontZ (i := 5) Aa Aa
     have W := W.frontZ (i := 5) Aa Aa
     have W := W.frontZ (i := 5) Aa Aa
     have W := W.frontM (i := 1) Aa Aa
     have W := W.frontM (i := 1) Aa Aa
     have W := W.sub (M' := (H2 b2 x2 v4 v5 v6 v7 b1 v2 v3)) (Z' := [row v4 41 Bu x2.1.1.2.1, row v5 43 BC x2.1.1.2.2, row v6 39 (Rp.slice (Rp.int .u64)) x2.1.2.1, row v7 3 (Rp.int .i64) x2.1.2.2.1, row v2 39 (Rp.slice (Rp.int .u64)) ([([4607182418800017408] : List Int)] : List (List Int)), row v3 3 (Rp.int .i64) ([0, (-4)] : List Int)]) (List.Sublist.refl _) (List.Sublist.cons_cons _ (List.Sublist.cons_cons _ (List.Sublist.cons_cons _ (List.Sublist.cons_cons _ (List.Sublist.cons_cons _ (List.Sublist.cons_cons _ (List.nil_sublist _)))))))
     exact ⟨_, H, F.re ⟨rfl, trivial⟩, W⟩
    have H := AY (BR hb) H
    rw [hb] at F
    clear hb
    iterate 3 refine Cm F Aa Aa Aa Aa Aa Aa Aa fun a F => ?_
    refine ls F W Aa (Al F Aa Aa Aa).q fun a w F W => ?_
    refine ls F W Aa (Ag F Aa).q fun a w F W => ?_
    refine Af (Ad ?_)
    have W := W.frontZ (i := 4) Aa Aa
    have W := W.frontZ (i := 5) Aa Aa
    have W := W.frontZ (i := 5) Aa Aa
    have W := W.frontZ (i := 5) Aa Aa
    have W := W.frontZ (i := 5) Aa Aa
    have W := W.frontZ (i := 5) Aa Aa
    have W := W.frontM (i := 1) Aa Aa
    have W := W.frontM (i := 1) Aa Aa
    have W := W.sub (M' := (H2 b2 x2 v4 v5 v6 v7 b1 v2 v3)) (Z' := [row v4 41 Bu x2.1.1.2.1, row v5 43 BC x2.1.1.2.2, row v6 39 (Rp.slice (Rp.int .u64)) x2.1.2.1, row v7 3 (Rp.int .i64) x2.1.2.2.1, row v2 39 (Rp.slice (Rp.int .u64)) ([([4607182418800017408] : List Int)] : List (List Int)), row v3 3 (Rp.int .i64) ([0, (-4)] : List Int)]) (List.Sublist.refl _) (List.Sublist.cons_cons _ (List.Sublist.cons_cons _ (List.Sublist.cons_cons _ (List.Sublist.cons_cons _ (List.Sublist.cons_cons _ (List.Sublist.cons_cons _ (List.nil_sublist _)))))))
    exact ⟨_, H, F.re ⟨rfl, trivial⟩, W⟩
   have H := AY (BR hb) H
   rw [hb] at F
   clear hb
   iterate 2 refine Cm F Aa Aa Aa Aa Aa Aa Aa fun a F => ?_
   refine ls F W Aa (Al F Aa Aa Aa).q fun a w F W => ?_
   refine ls F W Aa (Ae F Aa).q fun a w F W => ?_
   iterate 3 refine Cm F Aa Aa Aa Aa Aa Aa Aa fun a F => ?_
   refine ls F W Aa (Al F Aa Aa Aa).q fun a w F W => ?_
   refine ls F W Aa (Ag F Aa).q fun a w F W => ?_
   refine Af (Ad ?_)
   have W := W.frontZ (i := 4) Aa Aa
   have W := W.frontZ (i := 5) Aa Aa
   have W := W.frontZ (i := 5) Aa Aa
   have W := W.frontZ (i := 5) Aa Aa
   have W := W.frontZ (i := 5) Aa Aa
   have W := W.frontZ (i := 5) Aa Aa
   have W := W.frontM (i := 1) Aa Aa
   have W := W.frontM (i := 1) Aa Aa
   have W := W.sub (M' := (H2 b2 x2 v4 v5 v6 v7 b1 v2 v3)) (Z' := [row v4 41 Bu x2.1.1.2.1, row v5 43 BC x2.1.1.2.2, row v6 39 (Rp.slice (Rp.int .u64)) x2.1.2.1, row v7 3 (Rp.int .i64) x2.1.2.2.1, row v2 39 (Rp.slice (Rp.int .u64)) ([([4607182418800017408] : List Int)] : List (List Int)), row v3 3 (Rp.int .i64) ([0, (-4)] : List Int)]) (List.Sublist.refl _) (List.Sublist.cons_cons _ (List.Sublist.cons_cons _ (List.Sublist.cons_cons _ (List.Sublist.cons_cons _ (List.Sublist.cons_cons _ (List.Sublist.cons_cons _ (List.nil_sublist _)))))))
   exact ⟨_, H, F.re ⟨rfl, trivial⟩, W⟩
  have H := AY (BR hb) H
  rw [hb] at F
  clear hb
  iterate 2 refine Cm F Aa Aa Aa Aa Aa Aa Aa fun a F => ?_
  refine ls F W Aa (Al F Aa Aa Aa).q fun a w F W => ?_
  refine ls F W Aa (Ae F Aa).q fun a w F W => ?_
  iterate 2 refine Cm F Aa Aa Aa Aa Aa Aa Aa fun a F => ?_
  refine ls F W Aa (Al F Aa Aa Aa).q fun a w F W => ?_
  refine ls F W Aa (Ae F Aa).q fun a w F W => ?_
  iterate 3 refine Cm F Aa Aa Aa Aa Aa Aa Aa fun a F => ?_
  refine ls F W Aa (Al F Aa Aa Aa).q fun a w F W => ?_
  refine ls F W Aa (Ag F Aa).q fun a w F W => ?_
  refine Af (Ad ?_)
  have W := W.frontZ (i := 4) Aa Aa
  have W := W.frontZ (i := 5) Aa Aa
  have W := W.frontZ (i := 5) Aa Aa
  have W := W.frontZ (i := 5) Aa Aa
  have W := W.frontZ (i := 5) Aa Aa
  have W := W.frontZ (i := 5) Aa Aa
  have W := W.frontM (i := 1) Aa Aa
  have W := W.frontM (i := 1) Aa Aa
  have W := W.sub (M' := (H2 b2 x2 v4 v5 v6 v7 b1 v2 v3)) (Z' := [row v4 41 Bu x2.1.1.2.1, row v5 43 BC x2.1.1.2.2, row v6 39 (Rp.slice (Rp.int .u64)) x2.1.2.1, row v7 3 (Rp.int .i64) x2.1.2.2.1, row v2 39 (Rp.slice (Rp.int .u64)) ([([4607182418800017408] : List Int)] : List (List Int)), row v3 3 (Rp.int .i64) ([0, (-4)] : List Int)]) (List.Sublist.refl _) (List.Sublist.cons_cons _ (List.Sublist.cons_cons _ (List.Sublist.cons_cons _ (List.Sublist.cons_cons _ (List.Sublist.cons_cons _ (List.Sublist.cons_cons _ (List.nil_sublist _)))))))
  exact ⟨_, H, F.re ⟨rfl, trivial⟩, W⟩
 rintro a w ⟨x3, hj, F, W⟩
 have hj := A2 hj
 subst hj
 have H := K1
 clear G1 K1
 refine A1 ?_
 have H := A2 H
 subst H
 refine Ck (.inl Aa) F W Aa (AL F Aa) ?_
 exact ⟨rfl, W.done⟩
theorem H7 : Has Tryd.prog 7 := ⟨fun args w => Am Tryd.func7 rfl (by decide) args w⟩
end Go.Proofs.YthmkgdnnocemmaaDoor
