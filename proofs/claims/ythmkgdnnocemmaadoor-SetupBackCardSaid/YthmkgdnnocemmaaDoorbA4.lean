/- The functions of layer 40, Gi. Conditions: none. -/
import Derived.Test.YthmkgdnnocemmaaDoorbA3
namespace Go.Proofs.YthmkgdnnocemmaaDoor
open Go Go.RowKit
set_option linter.unusedVariables false
set_option linter.unusedSimpArgs false
set_option maxRecDepth 20000
theorem H9 : Has Tryd.prog 9 := ⟨fun args w => Am Tryd.func9 rfl (by decide) args w⟩
theorem PN (dd : Nat) (x0 : Int) (x1 : Int) (x2 : Int) (x3 : Int) (x4 : Int) (x5 : Int) (y0 : Int) (y1 : Int) (y2 : Int) (y3 : Int) (y4 : Int) (y5 : Int) (w : World) : (Op.equalIn (dd + 2) 41 (.agg #[.int .i64 x0, .int .i64 x1, .int .i64 x2, .int .i64 x3, .int .i64 x4, .int .i64 x5]) (.agg #[.int .i64 y0, .int .i64 y1, .int .i64 y2, .int .i64 y3, .int .i64 y4, .int .i64 y5])).run Tryd.prog w = .ok (decide (x0 = y0 ∧ x1 = y1 ∧ x2 = y2 ∧ x3 = y3 ∧ x4 = y4 ∧ x5 = y5)) w :=
  JA (d := dd + 1) (rs := [decide (x0 = y0), decide (x1 = y1), decide (x2 = y2), decide (x3 = y3), decide (x4 = y4), decide (x5 = y5)]) Hm (by kernel_rfl) ⟨rfl, FF (d := dd + 0) rfl rfl Kk T3 rfl rfl, rfl, FF (d := dd + 0) rfl rfl Kk T3 rfl rfl, rfl, FF (d := dd + 0) rfl rfl Kk T3 rfl rfl, rfl, FF (d := dd + 0) rfl rfl Kk T3 rfl rfl, rfl, FF (d := dd + 0) rfl rfl Kk T3 rfl rfl, rfl, FF (d := dd + 0) rfl rfl Kk T3 rfl rfl, trivial⟩ (by simp) w
theorem P5 : Tryd.prog.eqGuardType Tryd.prog.depth 41 = false := by kernel_rfl
theorem Qd (x0 : Int) (x1 : Int) (x2 : Int) (x3 : Int) (x4 : Int) (x5 : Int) (y0 : Int) (y1 : Int) (y2 : Int) (y3 : Int) (y4 : Int) (y5 : Int) (w : World) : (Op.equalIn 10000 41 (.agg #[.int .i64 x0, .int .i64 x1, .int .i64 x2, .int .i64 x3, .int .i64 x4, .int .i64 x5]) (.agg #[.int .i64 y0, .int .i64 y1, .int .i64 y2, .int .i64 y3, .int .i64 y4, .int .i64 y5])).run Tryd.prog w = .ok (decide (x0 = y0 ∧ x1 = y1 ∧ x2 = y2 ∧ x3 = y3 ∧ x4 = y4 ∧ x5 = y5)) w := PN 9998 x0 x1 x2 x3 x4 x5 y0 y1 y2 y3 y4 y5 w
noncomputable def BX (p0 : List (Int × Int × Int × Int × Int × Int)) (p1 : List (Int × Int × Int × Int × Int × Int)) : Int → Option (Int ⊕ (Unit ⊕ Bool))
  | x1 => (if x1 < (p0.length : Int) then (ix p0 x1).bind fun x2 => (ix p1 x1).bind fun x3 => (if (!(decide (x2.1 = x3.1 ∧ x2.2.1 = x3.2.1 ∧ x2.2.2.1 = x3.2.2.1 ∧ x2.2.2.2.1 = x3.2.2.2.1 ∧ x2.2.2.2.2.1 = x3.2.2.2.2.1 ∧ x2.2.2.2.2.2 = x3.2.2.2.2.2))) = true then some (.inr (.inr false)) else some (.inl (CD (x1 + 1)))) else some (.inr (.inl ())))
noncomputable def BK (p0 : List (Int × Int × Int × Int × Int × Int)) (p1 : List (Int × Int × Int × Int × Int × Int)) : Option Bool := (if (p0.length : Int) ≠ (p1.length : Int) then some false else D6 (Bf (BX p0 p1) 0) fun _ => some true)
theorem Eh (Y : Nat → Prop) (w0 : World) (v1 : Value) (v2 : Value) (p0 : List (Int × Int × Int × Int × Int × Int)) (p1 : List (Int × Int × Int × Int × Int × Int)) (r : Bool) (H : BK p0 p1 = some r) (h_v1 : Sl w0 (NX []) Bn v1 p0) (h_v2 : Sl w0 (NX []) Bn v2 p1) :
    Calls Tryd.prog 27 #[v1, v2] w0 fun e w' => e = .returned (.bool r) ∧ Below w0.heap.size w0 w' := by
 refine enter Tryd.func27 Aa Tryd.ntmps27 Aa fun a F => ?_
 have W := Stw.start Y w0
 unfold BK at H
 refine Ak (Ac ?_)
 refine ls F W Aa (Ag F Aa).q fun a w F W => ?_
 refine Af (Ad (Ak (Ak (Ac ?_))))
 refine ls F W Aa (Ae F Aa).q fun a w F W => ?_
 refine ls F W Aa (B4 (r := Bn) (l := p0) Jt Aa F Aa (Ao h_v1)).q fun a w F W => ?_
 refine ls F W Aa (Ae F Aa).q fun a w F W => ?_
 refine ls F W Aa (B4 (r := Bn) (l := p1) Jt Aa F Aa (Ao h_v2)).q fun a w F W => ?_
 refine ls F W Aa (Eg F Aa Aa).q fun a w F W => ?_
 refine Af (Ad ?_)
 refine AD F Aa (fun hb => ?_) fun hb => ?_
 ·
  have H := AW (BI hb) H
  rw [hb] at F
  clear hb
  refine Ak (Ac ?_)
  refine ls F W Aa (Ag F Aa).q fun a w F W => ?_
  refine Af (Ad (AP (Be ?_)))
  have H := Ba H
  subst H
  refine BM (.inl Aa) F W Aa (AG F Aa) ?_
  exact ⟨rfl, W.done⟩
 have H := AV (BG hb) H
 rw [hb] at F
 clear hb
 refine Aw (Ad ?_)
 obtain ⟨o1, G1, K1, L1⟩ := Ib H
 refine AX (fun a w => some (Sum.inl ()) = some o1 ∧ Fr 26 [] [(4, .bool false)] a ∧ Stw ⟨Y, [], w0⟩ [] [] w) ?_ ?_
 ·
  have H := G1
  clear G1 K1
  refine Ak (Ac ?_)
  refine ls F W Aa (Ae F Aa).q fun a w F W => ?_
  refine ls F W Aa (B4 (r := Bn) (l := p0) Jt Aa F Aa (Ao h_v1)).q fun a w F W => ?_
  refine ls F W Aa (Ae F Aa).q fun a w F W => ?_
  refine Af (Ad (AC ?_))
  refine B9 H (fun s a w => Fr 26 [] [(0, v1), (1, v2), (4, .bool false), (12, .int .i64 (p0.length : Int)), (13, .int .i64 s)] a ∧ Stw ⟨Y, [], w0⟩ [] [] w) ⟨F.re ⟨rfl, Aa, Aa, Aa, Aa, trivial⟩, W⟩ fun s o a w H L2 hR => ?_
  obtain ⟨x1, rfl⟩ : ∃ x, x = s := ⟨s, rfl⟩
  obtain ⟨F, W⟩ := hR
  have F : Fr 26 [] [(0, v1), (1, v2), (4, .bool false), (12, .int .i64 (p0.length : Int)), (13, .int .i64 x1)] a := F
  have W : Stw ⟨Y, [], w0⟩ [] [] w := W
  rw [BX] at H
  refine Ak (Ac ?_)
  refine ls F W Aa (Dk F Aa Aa).q fun a w F W => ?_
  refine Af (Ad (Ak ?_))
  refine AD F Aa (fun hb => ?_) fun hb => ?_
  ·
   have H := AW (BI hb) H
   rw [hb] at F
   clear hb
   refine Aw (Ad (Ak (AC (Ak (Ac ?_)))))
   refine ls F W Aa (Ae F Aa).q fun a w F W => ?_
   refine ls F W Aa (Ag F Aa).q fun a w F W => ?_
   refine Af (Ad (Ak ?_))
   refine DH W MO (by kernel_rfl) ?_
   iterate 2 refine qs F Aa (Ae F Aa).q fun a F => ?_
   obtain ⟨x2, h1, H⟩ := An H
   refine qs F Aa (Bz (r := Bn) OC F Aa Aa (Ao h_v1) h1).q fun a F => ?_
   refine qs F Aa (AH (y := Value.agg #[.int .i64 x2.1, .int .i64 x2.2.1, .int .i64 x2.2.2.1, .int .i64 x2.2.2.2.1, .int .i64 x2.2.2.2.2.1, .int .i64 x2.2.2.2.2.2]) (j := 0) (i := x1) F Aa Aa (Ao h_v1) h1 OL.to Og Aa).q fun a F => ?_
   iterate 2 refine qs F Aa (Ae F Aa).q fun a F => ?_
   obtain ⟨x3, h2, H⟩ := An H
   refine qs F Aa (Bz (r := Bn) OC F Aa Aa (Ao h_v2) h2).q fun a F => ?_
   refine qs F Aa (AH (y := Value.agg #[.int .i64 x3.1, .int .i64 x3.2.1, .int .i64 x3.2.2.1, .int .i64 x3.2.2.2.1, .int .i64 x3.2.2.2.2.1, .int .i64 x3.2.2.2.2.2]) (j := 0) (i := x1) F Aa Aa (Ao h_v2) h2 OL.to Og Aa).q fun a F => ?_
   refine qs F Aa (Lo (t := decide (x2.1 = x3.1 ∧ x2.2.1 = x3.2.1 ∧ x2.2.2.1 = x3.2.2.1 ∧ x2.2.2.2.1 = x3.2.2.2.1 ∧ x2.2.2.2.2.1 = x3.2.2.2.2.1 ∧ x2.2.2.2.2.2 = x3.2.2.2.2.2)) P5 (Qd _ _ _ _ _ _ _ _ _ _ _ _) F Aa Aa).q fun a F => ?_
   refine DI fun w W => ?_
   refine Ad ?_
   refine AD F Aa (fun hb => ?_) fun hb => ?_
   ·
    have H := AW hb H
    rw [hb] at F
    clear hb
    refine Ak (Ac ?_)
    refine ls F W Aa (Ag F Aa).q fun a w F W => ?_
    refine Af (Ad (AP (Bo ?_)))
    iterate 2 refine Be ?_
    refine Bo (Be ?_)
    have H := L2 _ H
    have H := L1 _ H
    have H := Ba H
    subst H
    refine BM (.inl Aa) F W Aa (AG F Aa) ?_
    exact ⟨rfl, W.done⟩
   have H := AV (by rw [hb]; decide) H
   rw [hb] at F
   clear hb
   refine Aw (Bb (Ad (Ac ?_)))
   refine ls F W Aa (Dj F Aa Aa Aa).q fun a w F W => ?_
   refine ls F W Aa (Ae F Aa).q fun a w F W => ?_
   refine Af (Ad ?_)
   exact ⟨_, H, F.re ⟨rfl, Aa, Aa, Aa, Aa, trivial⟩, W⟩
  have H := AV (BG hb) H
  rw [hb] at F
  clear hb
  refine BR ?_
  iterate 2 refine Cr ?_
  refine BQ (Ad ?_)
  have H := L2 _ H
  exact ⟨H, F.re ⟨rfl, trivial⟩, W⟩
 rintro a w ⟨hj, F, W⟩
 have H := K1 _ hj
 clear hj G1 K1 L1
 refine Ak (Ac ?_)
 refine ls F W Aa (Ag F Aa).q fun a w F W => ?_
 refine Af (Ad (AP ?_))
 have H := Ba H
 subst H
 refine BM (.inl Aa) F W Aa (AG F Aa) ?_
 exact ⟨rfl, W.done⟩
theorem QE : Has Tryd.prog 27 := ⟨fun args w => Am Tryd.func27 rfl (by decide) args w⟩
theorem PQ (dd : Nat) (x0 : Int) (x1 : Int) (y0 : Int) (y1 : Int) (w : World) : (Op.equalIn (dd + 2) 43 (.agg #[.int .i64 x0, .int .i64 x1]) (.agg #[.int .i64 y0, .int .i64 y1])).run Tryd.prog w = .ok (decide (x0 = y0 ∧ x1 = y1)) w :=
  JA (d := dd + 1) (rs := [decide (x0 = y0), decide (x1 = y1)]) LX (by kernel_rfl) ⟨rfl, FF (d := dd + 0) rfl rfl Kk T3 rfl rfl, rfl, FF (d := dd + 0) rfl rfl Kk T3 rfl rfl, trivial⟩ (by simp) w
theorem Qk : Tryd.prog.eqGuardType Tryd.prog.depth 43 = false := by kernel_rfl
theorem Qg (x0 : Int) (x1 : Int) (y0 : Int) (y1 : Int) (w : World) : (Op.equalIn 10000 43 (.agg #[.int .i64 x0, .int .i64 x1]) (.agg #[.int .i64 y0, .int .i64 y1])).run Tryd.prog w = .ok (decide (x0 = y0 ∧ x1 = y1)) w := PQ 9998 x0 x1 y0 y1 w
noncomputable def BW (p0 : List (Int × Int)) (p1 : List (Int × Int)) : Int → Option (Int ⊕ (Unit ⊕ Bool))
  | x1 => (if x1 < (p0.length : Int) then (ix p0 x1).bind fun x2 => (ix p1 x1).bind fun x3 => (if (!(decide (x2.1 = x3.1 ∧ x2.2 = x3.2))) = true then some (.inr (.inr false)) else some (.inl (CD (x1 + 1)))) else some (.inr (.inl ())))
noncomputable def BJ (p0 : List (Int × Int)) (p1 : List (Int × Int)) : Option Bool := (if (p0.length : Int) ≠ (p1.length : Int) then some false else D6 (Bf (BW p0 p1) 0) fun _ => some true)
theorem Ec (Y : Nat → Prop) (w0 : World) (v1 : Value) (v2 : Value) (p0 : List (Int × Int)) (p1 : List (Int × Int)) (r : Bool) (H : BJ p0 p1 = some r) (h_v1 : Sl w0 (NX []) Br v1 p0) (h_v2 : Sl w0 (NX []) Br v2 p1) :
    Calls Tryd.prog 28 #[v1, v2] w0 fun e w' => e = .returned (.bool r) ∧ Below w0.heap.size w0 w' := by
 refine enter Tryd.func28 Aa Tryd.ntmps28 Aa fun a F => ?_
 have W := Stw.start Y w0
 unfold BJ at H
 refine Ak (Ac ?_)
 refine ls F W Aa (Ag F Aa).q fun a w F W => ?_
 refine Af (Ad (Ak (Ak (Ac ?_))))
 refine ls F W Aa (Ae F Aa).q fun a w F W => ?_
 refine ls F W Aa (B4 (r := Br) (l := p0) Jr Aa F Aa (Ao h_v1)).q fun a w F W => ?_
 refine ls F W Aa (Ae F Aa).q fun a w F W => ?_
 refine ls F W Aa (B4 (r := Br) (l := p1) Jr Aa F Aa (Ao h_v2)).q fun a w F W => ?_
 refine ls F W Aa (Eg F Aa Aa).q fun a w F W => ?_
 refine Af (Ad ?_)
 refine AD F Aa (fun hb => ?_) fun hb => ?_
 ·
  have H := AW (BI hb) H
  rw [hb] at F
  clear hb
  refine Ak (Ac ?_)
  refine ls F W Aa (Ag F Aa).q fun a w F W => ?_
  refine Af (Ad (AP (Be ?_)))
  have H := Ba H
  subst H
  refine BM (.inl Aa) F W Aa (AG F Aa) ?_
  exact ⟨rfl, W.done⟩
 have H := AV (BG hb) H
 rw [hb] at F
 clear hb
 refine Aw (Ad ?_)
 obtain ⟨o1, G1, K1, L1⟩ := Ib H
 refine AX (fun a w => some (Sum.inl ()) = some o1 ∧ Fr 26 [] [(4, .bool false)] a ∧ Stw ⟨Y, [], w0⟩ [] [] w) ?_ ?_
 ·
  have H := G1
  clear G1 K1
  refine Ak (Ac ?_)
  refine ls F W Aa (Ae F Aa).q fun a w F W => ?_
  refine ls F W Aa (B4 (r := Br) (l := p0) Jr Aa F Aa (Ao h_v1)).q fun a w F W => ?_
  refine ls F W Aa (Ae F Aa).q fun a w F W => ?_
  refine Af (Ad (AC ?_))
  refine B9 H (fun s a w => Fr 26 [] [(0, v1), (1, v2), (4, .bool false), (12, .int .i64 (p0.length : Int)), (13, .int .i64 s)] a ∧ Stw ⟨Y, [], w0⟩ [] [] w) ⟨F.re ⟨rfl, Aa, Aa, Aa, Aa, trivial⟩, W⟩ fun s o a w H L2 hR => ?_
  obtain ⟨x1, rfl⟩ : ∃ x, x = s := ⟨s, rfl⟩
  obtain ⟨F, W⟩ := hR
  have F : Fr 26 [] [(0, v1), (1, v2), (4, .bool false), (12, .int .i64 (p0.length : Int)), (13, .int .i64 x1)] a := F
  have W : Stw ⟨Y, [], w0⟩ [] [] w := W
  rw [BW] at H
  refine Ak (Ac ?_)
  refine ls F W Aa (Dk F Aa Aa).q fun a w F W => ?_
  refine Af (Ad (Ak ?_))
  refine AD F Aa (fun hb => ?_) fun hb => ?_
  ·
   have H := AW (BI hb) H
   rw [hb] at F
   clear hb
   refine Aw (Ad (Ak (AC (Ak (Ac ?_)))))
   refine ls F W Aa (Ae F Aa).q fun a w F W => ?_
   refine ls F W Aa (Ag F Aa).q fun a w F W => ?_
   refine Af (Ad (Ak ?_))
   refine DH W MO (by kernel_rfl) ?_
   iterate 2 refine qs F Aa (Ae F Aa).q fun a F => ?_
   obtain ⟨x2, h1, H⟩ := An H
   refine qs F Aa (Bz (r := Br) Oa F Aa Aa (Ao h_v1) h1).q fun a F => ?_
   refine qs F Aa (AH (y := Value.agg #[.int .i64 x2.1, .int .i64 x2.2]) (j := 0) (i := x1) F Aa Aa (Ao h_v1) h1 Ow.to O4 Aa).q fun a F => ?_
   iterate 2 refine qs F Aa (Ae F Aa).q fun a F => ?_
   obtain ⟨x3, h2, H⟩ := An H
   refine qs F Aa (Bz (r := Br) Oa F Aa Aa (Ao h_v2) h2).q fun a F => ?_
   refine qs F Aa (AH (y := Value.agg #[.int .i64 x3.1, .int .i64 x3.2]) (j := 0) (i := x1) F Aa Aa (Ao h_v2) h2 Ow.to O4 Aa).q fun a F => ?_
   refine qs F Aa (Lo (t := decide (x2.1 = x3.1 ∧ x2.2 = x3.2)) Qk (Qg _ _ _ _) F Aa Aa).q fun a F => ?_
   refine DI fun w W => ?_
   refine Ad ?_
   refine AD F Aa (fun hb => ?_) fun hb => ?_
   ·
    have H := AW hb H
    rw [hb] at F
    clear hb
    refine Ak (Ac ?_)
    refine ls F W Aa (Ag F Aa).q fun a w F W => ?_
    refine Af (Ad (AP (Bo ?_)))
    iterate 2 refine Be ?_
    refine Bo (Be ?_)
    have H := L2 _ H
    have H := L1 _ H
    have H := Ba H
    subst H
    refine BM (.inl Aa) F W Aa (AG F Aa) ?_
    exact ⟨rfl, W.done⟩
   have H := AV (by rw [hb]; decide) H
   rw [hb] at F
   clear hb
   refine Aw (Bb (Ad (Ac ?_)))
   refine ls F W Aa (Dj F Aa Aa Aa).q fun a w F W => ?_
   refine ls F W Aa (Ae F Aa).q fun a w F W => ?_
   refine Af (Ad ?_)
   exact ⟨_, H, F.re ⟨rfl, Aa, Aa, Aa, Aa, trivial⟩, W⟩
  have H := AV (BG hb) H
  rw [hb] at F
  clear hb
  refine BR ?_
  iterate 2 refine Cr ?_
  refine BQ (Ad ?_)
  have H := L2 _ H
  exact ⟨H, F.re ⟨rfl, trivial⟩, W⟩
 rintro a w ⟨hj, F, W⟩
 have H := K1 _ hj
 clear hj G1 K1 L1
 refine Ak (Ac ?_)
 refine ls F W Aa (Ag F Aa).q fun a w F W => ?_
 refine Af (Ad (AP ?_))
 have H := Ba H
 subst H
 refine BM (.inl Aa) F W Aa (AG F Aa) ?_
 exact ⟨rfl, W.done⟩
theorem QT : Has Tryd.prog 28 := ⟨fun args w => Am Tryd.func28 rfl (by decide) args w⟩
noncomputable def Ci (p0 : List Int) (p1 : List Int) : Int → Option (Int ⊕ (Unit ⊕ Bool))
  | x1 => (if x1 < (p0.length : Int) then (ix p0 x1).bind fun x2 => (ix p1 x1).bind fun x3 => (if x2 ≠ x3 then some (.inr (.inr false)) else some (.inl (CD (x1 + 1)))) else some (.inr (.inl ())))
noncomputable def Ce (p0 : List Int) (p1 : List Int) : Option Bool := (if (p0.length : Int) ≠ (p1.length : Int) then some false else D6 (Bf (Ci p0 p1) 0) fun _ => some true)
theorem E0 (Y : Nat → Prop) (w0 : World) (v1 : Value) (v2 : Value) (p0 : List Int) (p1 : List Int) (r : Bool) (H : Ce p0 p1 = some r) (h_v1 : Sl w0 (NX []) (Rp.int .u64) v1 p0) (h_v2 : Sl w0 (NX []) (Rp.int .u64) v2 p1) :
    Calls Tryd.prog 30 #[v1, v2] w0 fun e w' => e = .returned (.bool r) ∧ Below w0.heap.size w0 w' := by
 refine enter Tryd.func30 Aa Tryd.ntmps30 Aa fun a F => ?_
 have W := Stw.start Y w0
 unfold Ce at H
 refine Ak (Ac ?_)
 refine ls F W Aa (Ag F Aa).q fun a w F W => ?_
 refine Af (Ad (Ak (Ak (Ac ?_))))
 refine ls F W Aa (Ae F Aa).q fun a w F W => ?_
 refine ls F W Aa (B4 (r := (Rp.int .u64)) (l := p0) JU Aa F Aa (Ao h_v1)).q fun a w F W => ?_
 refine ls F W Aa (Ae F Aa).q fun a w F W => ?_
 refine ls F W Aa (B4 (r := (Rp.int .u64)) (l := p1) JU Aa F Aa (Ao h_v2)).q fun a w F W => ?_
 refine ls F W Aa (Eg F Aa Aa).q fun a w F W => ?_
 refine Af (Ad ?_)
 refine AD F Aa (fun hb => ?_) fun hb => ?_
 ·
  have H := AW (BI hb) H
  rw [hb] at F
  clear hb
  refine Ak (Ac ?_)
  refine ls F W Aa (Ag F Aa).q fun a w F W => ?_
  refine Af (Ad (AP (Be ?_)))
  have H := Ba H
  subst H
  refine BM (.inl Aa) F W Aa (AG F Aa) ?_
  exact ⟨rfl, W.done⟩
 have H := AV (BG hb) H
 rw [hb] at F
 clear hb
 refine Aw (Ad ?_)
 obtain ⟨o1, G1, K1, L1⟩ := Ib H
 refine AX (fun a w => some (Sum.inl ()) = some o1 ∧ Fr 26 [] [(4, .bool false)] a ∧ Stw ⟨Y, [], w0⟩ [] [] w) ?_ ?_
 ·
  have H := G1
  clear G1 K1
  refine Ak (Ac ?_)
  refine ls F W Aa (Ae F Aa).q fun a w F W => ?_
  refine ls F W Aa (B4 (r := (Rp.int .u64)) (l := p0) JU Aa F Aa (Ao h_v1)).q fun a w F W => ?_
  refine ls F W Aa (Ae F Aa).q fun a w F W => ?_
  refine Af (Ad (AC ?_))
  refine B9 H (fun s a w => Fr 26 [] [(0, v1), (1, v2), (4, .bool false), (12, .int .i64 (p0.length : Int)), (13, .int .i64 s)] a ∧ Stw ⟨Y, [], w0⟩ [] [] w) ⟨F.re ⟨rfl, Aa, Aa, Aa, Aa, trivial⟩, W⟩ fun s o a w H L2 hR => ?_
  obtain ⟨x1, rfl⟩ : ∃ x, x = s := ⟨s, rfl⟩
  obtain ⟨F, W⟩ := hR
  have F : Fr 26 [] [(0, v1), (1, v2), (4, .bool false), (12, .int .i64 (p0.length : Int)), (13, .int .i64 x1)] a := F
  have W : Stw ⟨Y, [], w0⟩ [] [] w := W
  rw [Ci] at H
  refine Ak (Ac ?_)
  refine ls F W Aa (Dk F Aa Aa).q fun a w F W => ?_
  refine Af (Ad (Ak ?_))
  refine AD F Aa (fun hb => ?_) fun hb => ?_
  ·
   have H := AW (BI hb) H
   rw [hb] at F
   clear hb
   refine Aw (Ad (Ak (AC (Ak (Ac ?_)))))
   refine ls F W Aa (Ae F Aa).q fun a w F W => ?_
   refine ls F W Aa (Ag F Aa).q fun a w F W => ?_
   refine Af (Ad (Ak ?_))
   refine DH W MO (by kernel_rfl) ?_
   iterate 2 refine qs F Aa (Ae F Aa).q fun a F => ?_
   obtain ⟨x2, h1, H⟩ := An H
   refine qs F Aa (Bz (r := (Rp.int .u64)) Oh F Aa Aa (Ao h_v1) h1).q fun a F => ?_
   refine qs F Aa (AH (y := Value.int .u64 x2) (j := 0) (i := x1) F Aa Aa (Ao h_v1) h1 Fl.int.to O9 Aa).q fun a F => ?_
   iterate 2 refine qs F Aa (Ae F Aa).q fun a F => ?_
   obtain ⟨x3, h2, H⟩ := An H
   refine qs F Aa (Bz (r := (Rp.int .u64)) Oh F Aa Aa (Ao h_v2) h2).q fun a F => ?_
   refine qs F Aa (AH (y := Value.int .u64 x3) (j := 0) (i := x1) F Aa Aa (Ao h_v2) h2 Fl.int.to O9 Aa).q fun a F => ?_
   refine qs F Aa (Eg F Aa Aa).q fun a F => ?_
   refine DI fun w W => ?_
   refine Ad ?_
   refine AD F Aa (fun hb => ?_) fun hb => ?_
   ·
    have H := AW (BI hb) H
    rw [hb] at F
    clear hb
    refine Ak (Ac ?_)
    refine ls F W Aa (Ag F Aa).q fun a w F W => ?_
    refine Af (Ad (AP (Bo ?_)))
    iterate 2 refine Be ?_
    refine Bo (Be ?_)
    have H := L2 _ H
    have H := L1 _ H
    have H := Ba H
    subst H
    refine BM (.inl Aa) F W Aa (AG F Aa) ?_
    exact ⟨rfl, W.done⟩
   have H := AV (BG hb) H
   rw [hb] at F
   clear hb
   refine Aw (Bb (Ad (Ac ?_)))
   refine ls F W Aa (Dj F Aa Aa Aa).q fun a w F W => ?_
   refine ls F W Aa (Ae F Aa).q fun a w F W => ?_
   refine Af (Ad ?_)
   exact ⟨_, H, F.re ⟨rfl, Aa, Aa, Aa, Aa, trivial⟩, W⟩
  have H := AV (BG hb) H
  rw [hb] at F
  clear hb
  refine BR ?_
  iterate 2 refine Cr ?_
  refine BQ (Ad ?_)
  have H := L2 _ H
  exact ⟨H, F.re ⟨rfl, trivial⟩, W⟩
 rintro a w ⟨hj, F, W⟩
 have H := K1 _ hj
 clear hj G1 K1 L1
 refine Ak (Ac ?_)
 refine ls F W Aa (Ag F Aa).q fun a w F W => ?_
 refine Af (Ad (AP ?_))
 have H := Ba H
 subst H
 refine BM (.inl Aa) F W Aa (AG F Aa) ?_
 exact ⟨rfl, W.done⟩
theorem QR : Has Tryd.prog 30 := ⟨fun args w => Am Tryd.func30 rfl (by decide) args w⟩
noncomputable def Bg (p0 : List (List Int)) (p1 : List (List Int)) : Int → Option (Int ⊕ (Unit ⊕ Bool))
  | x1 => (if x1 < (p0.length : Int) then (ix p0 x1).bind fun x2 => (ix p1 x1).bind fun x3 => (Ce x2 x3).bind fun x4 => (if (!x4) = true then some (.inr (.inr false)) else some (.inl (CD (x1 + 1)))) else some (.inr (.inl ())))
noncomputable def AZ (p0 : List (List Int)) (p1 : List (List Int)) : Option Bool := (if (p0.length : Int) ≠ (p1.length : Int) then some false else D6 (Bf (Bg p0 p1) 0) fun _ => some true)
theorem Dc (Y : Nat → Prop) (w0 : World) (v1 : Value) (v2 : Value) (p0 : List (List Int)) (p1 : List (List Int)) (r : Bool) (H : AZ p0 p1 = some r) (h_v1 : Sl w0 (NX []) (Rp.slice (Rp.int .u64)) v1 p0) (h_v2 : Sl w0 (NX []) (Rp.slice (Rp.int .u64)) v2 p1) :
    Calls Tryd.prog 29 #[v1, v2, .func (.func 30) #[] #[]] w0 fun e w' => e = .returned (.bool r) ∧ Below w0.heap.size w0 w' := by
 refine enter Tryd.func29 Aa Tryd.ntmps29 Aa fun a F => ?_
 have W := Stw.start Y w0
 obtain ⟨v3, h1, h_v1⟩ := h_v1.ex Eo
 obtain ⟨v4, h2, h_v2⟩ := h_v2.ex Eo
 unfold AZ at H
 refine Ak (Ac ?_)
 refine ls F W Aa (Ag F Aa).q fun a w F W => ?_
 refine Af (Ad (Ak (Ak (Ac ?_))))
 refine ls F W Aa (Ae F Aa).q fun a w F W => ?_
 refine ls F W Aa (B4 (r := (Rp.slice (Rp.int .u64))) (l := p0) Ju Aa F Aa (CO Eo h1 (Ao h_v1))).q fun a w F W => ?_
 refine ls F W Aa (Ae F Aa).q fun a w F W => ?_
 refine ls F W Aa (B4 (r := (Rp.slice (Rp.int .u64))) (l := p1) Ju Aa F Aa (CO Eo h2 (Ao h_v2))).q fun a w F W => ?_
 refine ls F W Aa (Eg F Aa Aa).q fun a w F W => ?_
 refine Af (Ad ?_)
 refine AD F Aa (fun hb => ?_) fun hb => ?_
 ·
  have H := AW (BI hb) H
  rw [hb] at F
  clear hb
  refine Ak (Ac ?_)
  refine ls F W Aa (Ag F Aa).q fun a w F W => ?_
  refine Af (Ad (AP (Be ?_)))
  have H := Ba H
  subst H
  refine BM (.inl Aa) F W Aa (AG F Aa) ?_
  exact ⟨rfl, W.done⟩
 have H := AV (BG hb) H
 rw [hb] at F
 clear hb
 refine Aw (Ad ?_)
 obtain ⟨o1, G1, K1, L1⟩ := Ib H
 refine AX (fun a w => some (Sum.inl ()) = some o1 ∧ Fr 32 [] [(6, .bool false)] a ∧ Stw ⟨Y, [], w0⟩ [] [] w) ?_ ?_
 ·
  have H := G1
  clear G1 K1
  refine Ak (Ac ?_)
  refine ls F W Aa (Ae F Aa).q fun a w F W => ?_
  refine ls F W Aa (B4 (r := (Rp.slice (Rp.int .u64))) (l := p0) Ju Aa F Aa (CO Eo h1 (Ao h_v1))).q fun a w F W => ?_
  refine ls F W Aa (Ae F Aa).q fun a w F W => ?_
  refine Af (Ad (AC ?_))
  refine B9 H (fun s a w => Fr 32 [] [(1, v2), (2, .func (.func 30) #[] #[]), (6, .bool false), (15, v1), (16, .int .i64 (p0.length : Int)), (17, .int .i64 s)] a ∧ Stw ⟨Y, [], w0⟩ [] [] w) ⟨F.re ⟨rfl, Aa, Aa, Aa, Aa, Aa, trivial⟩, W⟩ fun s o a w H L2 hR => ?_
  obtain ⟨x1, rfl⟩ : ∃ x, x = s := ⟨s, rfl⟩
  obtain ⟨F, W⟩ := hR
  have F : Fr 32 [] [(1, v2), (2, .func (.func 30) #[] #[]), (6, .bool false), (15, v1), (16, .int .i64 (p0.length : Int)), (17, .int .i64 x1)] a := F
  have W : Stw ⟨Y, [], w0⟩ [] [] w := W
  rw [Bg] at H
  refine Ak (Ac ?_)
  refine ls F W Aa (Dk F Aa Aa).q fun a w F W => ?_
  refine Af (Ad (Ak ?_))
  refine AD F Aa (fun hb => ?_) fun hb => ?_
  ·
   have H := AW (BI hb) H
   rw [hb] at F
   clear hb
   refine Aw (Ad (Ak (AC (Ak (Ac ?_)))))
   refine ls F W Aa (Ae F Aa).q fun a w F W => ?_
   obtain ⟨x2, h3, H⟩ := An H
   obtain ⟨v5, h4, h5⟩ := JS h1 h3
   have h6 : HJ v5 = [(v5.1)] := congrArg (fun q : List Int => ([(v5.1)] : List Value)) h5
   refine ls F W Aa (Bz (r := (Rp.vsl (Rp.int .u64))) Od F Aa Aa (Ao h_v1) h4).q fun a w F W => ?_
   refine ls F W Aa (AH (y := (v5.1)) (j := 0) (i := x1) (enc := HJ) F Aa Aa (Ao h_v1) h4 Mr O7 (by rw [h6]; rfl)).q fun a w F W => ?_
   iterate 2 refine ls F W Aa (Ag F Aa).q fun a w F W => ?_
   refine Af (Ad (Ak (Ac ?_)))
   iterate 2 refine ls F W Aa (Ae F Aa).q fun a w F W => ?_
   obtain ⟨x3, h7, H⟩ := An H
   obtain ⟨v6, h8, h9⟩ := JS h2 h7
   have h10 : HJ v6 = [(v6.1)] := congrArg (fun q : List Int => ([(v6.1)] : List Value)) h9
   refine ls F W Aa (Bz (r := (Rp.vsl (Rp.int .u64))) Od F Aa Aa (Ao h_v2) h8).q fun a w F W => ?_
   refine ls F W Aa (AH (y := (v6.1)) (j := 0) (i := x1) (enc := HJ) F Aa Aa (Ao h_v2) h8 Mr O7 (by rw [h10]; rfl)).q fun a w F W => ?_
   refine ls F W Aa (Ag F Aa).q fun a w F W => ?_
   refine Af (Ad (Ak (Ac ?_)))
   iterate 3 refine ls F W Aa (Ae F Aa).q fun a w F W => ?_
   obtain ⟨x4, h11, H⟩ := An H
   refine ls F W Aa (NI (ws := [(v5.1), (v6.1)]) (v := Value.bool x4) F QR Aa (fun w W => E0 any w ((v5.1)) ((v6.1)) x2 x3 _ h11 (((Gz (Ao h_v1) h4 Hy.here (congrArg (fun q : List Int => q) h5)) : DK _ _ _ _ _ _) w W).nx (((Gz (Ao h_v2) h8 Hy.here (congrArg (fun q : List Int => q) h9)) : DK _ _ _ _ _ _) w W).nx)) fun a w F W => ?_
   refine ls F W Aa (GS F Aa).q fun a w F W => ?_
   refine Af (Ad ?_)
   refine AD F Aa (fun hb => ?_) fun hb => ?_
   ·
    have H := AW hb H
    rw [hb] at F
    clear hb
    refine Ak (Ac ?_)
    refine ls F W Aa (Ag F Aa).q fun a w F W => ?_
    refine Af (Ad (AP (Bo ?_)))
    iterate 2 refine Be ?_
    refine Bo (Be ?_)
    have H := L2 _ H
    have H := L1 _ H
    have H := Ba H
    subst H
    refine BM (.inl Aa) F W Aa (AG F Aa) ?_
    exact ⟨rfl, W.done⟩
   have H := AV (by rw [hb]; decide) H
   rw [hb] at F
   clear hb
   refine Aw (Bb (Ad (Ac ?_)))
   refine ls F W Aa (Dj F Aa Aa Aa).q fun a w F W => ?_
   refine ls F W Aa (Ae F Aa).q fun a w F W => ?_
   refine Af (Ad ?_)
   exact ⟨_, H, F.re ⟨rfl, Aa, Aa, Aa, Aa, Aa, trivial⟩, W⟩
  have H := AV (BG hb) H
  rw [hb] at F
  clear hb
  refine BR ?_
  iterate 2 refine Cr ?_
  refine BQ (Ad ?_)
  have H := L2 _ H
  exact ⟨H, F.re ⟨rfl, trivial⟩, W⟩
 rintro a w ⟨hj, F, W⟩
 have H := K1 _ hj
 clear hj G1 K1 L1
 refine Ak (Ac ?_)
 refine ls F W Aa (Ag F Aa).q fun a w F W => ?_
 refine Af (Ad (AP ?_))
 have H := Ba H
 subst H
 refine BM (.inl Aa) F W Aa (AG F Aa) ?_
 exact ⟨rfl, W.done⟩
theorem Qu : Has Tryd.prog 29 := ⟨fun args w => Am Tryd.func29 rfl (by decide) args w⟩
noncomputable def CQ (p0 : List Int) (p1 : List Int) : Int → Option (Int ⊕ (Unit ⊕ Bool))
  | x1 => (if x1 < (p0.length : Int) then (ix p0 x1).bind fun x2 => (ix p1 x1).bind fun x3 => (if x2 ≠ x3 then some (.inr (.inr false)) else some (.inl (CD (x1 + 1)))) else some (.inr (.inl ())))
noncomputable def CI (p0 : List Int) (p1 : List Int) : Option Bool := (if (p0.length : Int) ≠ (p1.length : Int) then some false else D6 (Bf (CQ p0 p1) 0) fun _ => some true)
theorem Ge (Y : Nat → Prop) (w0 : World) (v1 : Value) (v2 : Value) (p0 : List Int) (p1 : List Int) (r : Bool) (H : CI p0 p1 = some r) (h_v1 : Sl w0 (NX []) (Rp.int .i64) v1 p0) (h_v2 : Sl w0 (NX []) (Rp.int .i64) v2 p1) :
    Calls Tryd.prog 31 #[v1, v2] w0 fun e w' => e = .returned (.bool r) ∧ Below w0.heap.size w0 w' := by
 refine enter Tryd.func31 Aa Tryd.ntmps31 Aa fun a F => ?_
 have W := Stw.start Y w0
 unfold CI at H
 refine Ak (Ac ?_)
 refine ls F W Aa (Ag F Aa).q fun a w F W => ?_
 refine Af (Ad (Ak (Ak (Ac ?_))))
 refine ls F W Aa (Ae F Aa).q fun a w F W => ?_
 refine ls F W Aa (B4 (r := (Rp.int .i64)) (l := p0) Ir Aa F Aa (Ao h_v1)).q fun a w F W => ?_
 refine ls F W Aa (Ae F Aa).q fun a w F W => ?_
 refine ls F W Aa (B4 (r := (Rp.int .i64)) (l := p1) Ir Aa F Aa (Ao h_v2)).q fun a w F W => ?_
 refine ls F W Aa (Eg F Aa Aa).q fun a w F W => ?_
 refine Af (Ad ?_)
 refine AD F Aa (fun hb => ?_) fun hb => ?_
 ·
  have H := AW (BI hb) H
  rw [hb] at F
  clear hb
  refine Ak (Ac ?_)
  refine ls F W Aa (Ag F Aa).q fun a w F W => ?_
  refine Af (Ad (AP (Be ?_)))
  have H := Ba H
  subst H
  refine BM (.inl Aa) F W Aa (AG F Aa) ?_
  exact ⟨rfl, W.done⟩
 have H := AV (BG hb) H
 rw [hb] at F
 clear hb
 refine Aw (Ad ?_)
 obtain ⟨o1, G1, K1, L1⟩ := Ib H
 refine AX (fun a w => some (Sum.inl ()) = some o1 ∧ Fr 26 [] [(4, .bool false)] a ∧ Stw ⟨Y, [], w0⟩ [] [] w) ?_ ?_
 ·
  have H := G1
  clear G1 K1
  refine Ak (Ac ?_)
  refine ls F W Aa (Ae F Aa).q fun a w F W => ?_
  refine ls F W Aa (B4 (r := (Rp.int .i64)) (l := p0) Ir Aa F Aa (Ao h_v1)).q fun a w F W => ?_
  refine ls F W Aa (Ae F Aa).q fun a w F W => ?_
  refine Af (Ad (AC ?_))
  refine B9 H (fun s a w => Fr 26 [] [(0, v1), (1, v2), (4, .bool false), (12, .int .i64 (p0.length : Int)), (13, .int .i64 s)] a ∧ Stw ⟨Y, [], w0⟩ [] [] w) ⟨F.re ⟨rfl, Aa, Aa, Aa, Aa, trivial⟩, W⟩ fun s o a w H L2 hR => ?_
  obtain ⟨x1, rfl⟩ : ∃ x, x = s := ⟨s, rfl⟩
  obtain ⟨F, W⟩ := hR
  have F : Fr 26 [] [(0, v1), (1, v2), (4, .bool false), (12, .int .i64 (p0.length : Int)), (13, .int .i64 x1)] a := F
  have W : Stw ⟨Y, [], w0⟩ [] [] w := W
  rw [CQ] at H
  refine Ak (Ac ?_)
  refine ls F W Aa (Dk F Aa Aa).q fun a w F W => ?_
  refine Af (Ad (Ak ?_))
  refine AD F Aa (fun hb => ?_) fun hb => ?_
  ·
   have H := AW (BI hb) H
   rw [hb] at F
   clear hb
   refine Aw (Ad (Ak (AC (Ak (Ac ?_)))))
   refine ls F W Aa (Ae F Aa).q fun a w F W => ?_
   refine ls F W Aa (Ag F Aa).q fun a w F W => ?_
   refine Af (Ad (Ak ?_))
   refine DH W MO (by kernel_rfl) ?_
   iterate 2 refine qs F Aa (Ae F Aa).q fun a F => ?_
   obtain ⟨x2, h1, H⟩ := An H
   refine qs F Aa (Bz (r := (Rp.int .i64)) GH F Aa Aa (Ao h_v1) h1).q fun a F => ?_
   refine qs F Aa (AH (y := Value.int .i64 x2) (j := 0) (i := x1) F Aa Aa (Ao h_v1) h1 Fl.int.to T3 Aa).q fun a F => ?_
   iterate 2 refine qs F Aa (Ae F Aa).q fun a F => ?_
   obtain ⟨x3, h2, H⟩ := An H
   refine qs F Aa (Bz (r := (Rp.int .i64)) GH F Aa Aa (Ao h_v2) h2).q fun a F => ?_
   refine qs F Aa (AH (y := Value.int .i64 x3) (j := 0) (i := x1) F Aa Aa (Ao h_v2) h2 Fl.int.to T3 Aa).q fun a F => ?_
   refine qs F Aa (Eg F Aa Aa).q fun a F => ?_
   refine DI fun w W => ?_
   refine Ad ?_
   refine AD F Aa (fun hb => ?_) fun hb => ?_
   ·
    have H := AW (BI hb) H
    rw [hb] at F
    clear hb
    refine Ak (Ac ?_)
    refine ls F W Aa (Ag F Aa).q fun a w F W => ?_
    refine Af (Ad (AP (Bo ?_)))
    iterate 2 refine Be ?_
    refine Bo (Be ?_)
    have H := L2 _ H
    have H := L1 _ H
    have H := Ba H
    subst H
    refine BM (.inl Aa) F W Aa (AG F Aa) ?_
    exact ⟨rfl, W.done⟩
   have H := AV (BG hb) H
   rw [hb] at F
   clear hb
   refine Aw (Bb (Ad (Ac ?_)))
   refine ls F W Aa (Dj F Aa Aa Aa).q fun a w F W => ?_
   refine ls F W Aa (Ae F Aa).q fun a w F W => ?_
   refine Af (Ad ?_)
   exact ⟨_, H, F.re ⟨rfl, Aa, Aa, Aa, Aa, trivial⟩, W⟩
  have H := AV (BG hb) H
  rw [hb] at F
  clear hb
  refine BR ?_
  iterate 2 refine Cr ?_
  refine BQ (Ad ?_)
  have H := L2 _ H
  exact ⟨H, F.re ⟨rfl, trivial⟩, W⟩
 rintro a w ⟨hj, F, W⟩
 have H := K1 _ hj
 clear hj G1 K1 L1
 refine Ak (Ac ?_)
 refine ls F W Aa (Ag F Aa).q fun a w F W => ?_
 refine Af (Ad (AP ?_))
 have H := Ba H
 subst H
 refine BM (.inl Aa) F W Aa (AG F Aa) ?_
 exact ⟨rfl, W.done⟩
theorem Qq : Has Tryd.prog 31 := ⟨fun args w => Am Tryd.func31 rfl (by decide) args w⟩
noncomputable def Fs (p0 : (Int × (List (Int × Int × Int × Int × Int × Int)) × (List (Int × Int))) × List (List Int) × List Int × Int × Int × Int × Int × Int × Int) (p1 : (Int × (List (Int × Int × Int × Int × Int × Int)) × (List (Int × Int))) × List (List Int) × List Int × Int × Int × Int × Int × Int × Int) : Option Bool := (if p0.1.1 = p1.1.1 then (BK p0.1.2.1 p1.1.2.1).bind fun x2 => (if x2 = true then (BJ p0.1.2.2 p1.1.2.2).bind fun x3 => (if x3 = true then (AZ p0.2.1 p1.2.1).bind fun x4 => (if x4 = true then (CI p0.2.2.1 p1.2.2.1).bind fun x5 => (if x5 = true then (if p0.2.2.2.1 = p1.2.2.2.1 then (if p0.2.2.2.2.1 = p1.2.2.2.2.1 then (if p0.2.2.2.2.2.1 = p1.2.2.2.2.2.1 then (if p0.2.2.2.2.2.2.1 = p1.2.2.2.2.2.2.1 then (if p0.2.2.2.2.2.2.2.1 = p1.2.2.2.2.2.2.2.1 then some (decide (p0.2.2.2.2.2.2.2.2 = p1.2.2.2.2.2.2.2.2)) else some false) else some false) else some false) else some false) else some false) else some false) else some false) else some false) else some false) else some false).bind fun x1 => some x1
theorem J4 (Y : Nat → Prop) (w0 : World) (v1 : Value) (v2 : Value) (v3 : Value) (v4 : Value) (v5 : Value) (v6 : Value) (v7 : Value) (v8 : Value) (p0 : (Int × (List (Int × Int × Int × Int × Int × Int)) × (List (Int × Int))) × List (List Int) × List Int × Int × Int × Int × Int × Int × Int) (p1 : (Int × (List (Int × Int × Int × Int × Int × Int)) × (List (Int × Int))) × List (List Int) × List Int × Int × Int × Int × Int × Int × Int) (r : Bool) (H : Fs p0 p1 = some r) (h_v1 : Sl w0 (NX []) Bn v1 p0.1.2.1) (h_v2 : Sl w0 (NX []) Br v2 p0.1.2.2) (h_v3 : Sl w0 (NX []) (Rp.slice (Rp.int .u64)) v3 p0.2.1) (h_v4 : Sl w0 (NX []) (Rp.int .i64) v4 p0.2.2.1) (h_v5 : Sl w0 (NX []) Bn v5 p1.1.2.1) (h_v6 : Sl w0 (NX []) Br v6 p1.1.2.2) (h_v7 : Sl w0 (NX []) (Rp.slice (Rp.int .u64)) v7 p1.2.1) (h_v8 : Sl w0 (NX []) (Rp.int .i64) v8 p1.2.2.1) :
    Calls Tryd.prog 11 #[.agg #[.int .i64 p0.1.1, v1, v2, v3, v4, .int .i64 p0.2.2.2.1, .int .i64 p0.2.2.2.2.1, .int .i64 p0.2.2.2.2.2.1, .int .i64 p0.2.2.2.2.2.2.1, .int .i64 p0.2.2.2.2.2.2.2.1, .int .i64 p0.2.2.2.2.2.2.2.2], .agg #[.int .i64 p1.1.1, v5, v6, v7, v8, .int .i64 p1.2.2.2.1, .int .i64 p1.2.2.2.2.1, .int .i64 p1.2.2.2.2.2.1, .int .i64 p1.2.2.2.2.2.2.1, .int .i64 p1.2.2.2.2.2.2.2.1, .int .i64 p1.2.2.2.2.2.2.2.2]] w0 fun e w' => e = .returned (.bool r) ∧ Below w0.heap.size w0 w' := by
 refine enter Tryd.func11 Aa Tryd.ntmps11 Aa fun a F => ?_
 have W := Stw.start Y w0
 obtain ⟨v9, h1, h_v3⟩ := h_v3.ex Eo
 obtain ⟨v10, h2, h_v7⟩ := h_v7.ex Eo
 unfold Fs at H
 refine Ak (Ac ?_)
 refine GU (cs := (B3 p0 v1 v2 v3 v4)) F W Aa Aa Aa fun b1 a w F W => ?_
 refine GU (cs := (B3 p1 v5 v6 v7 v8)) F W Aa Aa Aa fun b2 a w F W => ?_
 refine ls F W Aa (Ag F Aa).q fun a w F W => ?_
 refine Af (Ad ?_)
 obtain ⟨o1, G1, K1⟩ := An H
 refine AX (fun a w => ∃ x1 : Bool, some (x1) = some o1 ∧ Fr 86 [] [(4, .bool x1)] a ∧ Stw ⟨Y, [], w0⟩ [(b2, (B3 p1 v5 v6 v7 v8)), (b1, (B3 p0 v1 v2 v3 v4))] [] w) ?_ ?_
 ·
  have H := G1
  clear G1 K1
  refine Ac ?_
  refine ls F W Aa (Ai Bw Aa Aa Aa GE F Aa 0 Aa).q fun a w F W => ?_
  refine ls F W Aa (Ai DE Aa Aa Aa T3 F Aa 0 Aa).q fun a w F W => ?_
  refine ls F W Aa (Az (v := Value.int .i64 p0.1.1) 1 F Aa Aa T3 Aa).q fun a w F W => ?_
  refine ls F W Aa (Ai Bw Aa Aa Aa GE F Aa 0 Aa).q fun a w F W => ?_
  refine ls F W Aa (Ai DE Aa Aa Aa T3 F Aa 0 Aa).q fun a w F W => ?_
  refine ls F W Aa (Az (v := Value.int .i64 p1.1.1) 0 F Aa Aa T3 Aa).q fun a w F W => ?_
  refine ls F W Aa (CM F Aa Aa).q fun a w F W => ?_
  refine ls F W Aa (Ae F Aa).q fun a w F W => ?_
  rcases Bool.eq_false_or_eq_true (decide (p0.1.1 = p1.1.1)) with hb | hb
  ·
   have H := AW (BI hb) H
   rw [hb] at F
   clear hb
   refine AB F W (Ah F Aa Aa Aa Aa) Aa (Ap Aa) (Ai Bw Aa Aa Aa GE F Aa 0 Aa).q fun a w F W => ?_
   refine AB F W (Ah F Aa Aa Aa Aa) Aa (Ap Aa) (Ai DE Aa Aa Aa HV F Aa 1 Aa).q fun a w F W => ?_
   refine AB F W (Ah F Aa Aa Aa Aa) Aa (Ap Aa) (Az (v := v1) 1 F Aa Aa HV Aa).q fun a w F W => ?_
   refine AB F W (Ah F Aa Aa Aa Aa) Aa (Ap Aa) (Ai Bw Aa Aa Aa GE F Aa 0 Aa).q fun a w F W => ?_
   refine AB F W (Ah F Aa Aa Aa Aa) Aa (Ap Aa) (Ai DE Aa Aa Aa HV F Aa 1 Aa).q fun a w F W => ?_
   refine AB F W (Ah F Aa Aa Aa Aa) Aa (Ap Aa) (Az (v := v5) 0 F Aa Aa HV Aa).q fun a w F W => ?_
   refine ES (Ah F Aa Aa Aa Aa) ?_
   obtain ⟨x2, h3, H⟩ := An H
   refine ls F W Aa (Bj (v := Value.bool x2) F QE Aa (fun w W => Eh any w (v1) (v5) p0.1.2.1 p1.1.2.1 _ h3 (((Ao h_v1) : DK _ _ _ _ _ _) w W).nx (((Ao h_v5) : DK _ _ _ _ _ _) w W).nx)) fun a w F W => ?_
   refine ls F W Aa (As F Aa Aa Aa).q fun a w F W => ?_
   refine ls F W Aa (Ae F Aa).q fun a w F W => ?_
   rcases Bool.eq_false_or_eq_true x2 with hb | hb
   ·
    have H := AW hb H
    rw [hb] at F
    clear hb
    refine AB F W (Ah F Aa Aa Aa Aa) Aa (Ap Aa) (Ai Bw Aa Aa Aa GE F Aa 0 Aa).q fun a w F W => ?_
    refine AB F W (Ah F Aa Aa Aa Aa) Aa (Ap Aa) (Ai DE Aa Aa Aa Hu F Aa 2 Aa).q fun a w F W => ?_
    refine AB F W (Ah F Aa Aa Aa Aa) Aa (Ap Aa) (Az (v := v2) 1 F Aa Aa Hu Aa).q fun a w F W => ?_
    refine AB F W (Ah F Aa Aa Aa Aa) Aa (Ap Aa) (Ai Bw Aa Aa Aa GE F Aa 0 Aa).q fun a w F W => ?_
    refine AB F W (Ah F Aa Aa Aa Aa) Aa (Ap Aa) (Ai DE Aa Aa Aa Hu F Aa 2 Aa).q fun a w F W => ?_
    refine AB F W (Ah F Aa Aa Aa Aa) Aa (Ap Aa) (Az (v := v6) 0 F Aa Aa Hu Aa).q fun a w F W => ?_
    refine ES (Ah F Aa Aa Aa Aa) ?_
    obtain ⟨x3, h4, H⟩ := An H
    refine ls F W Aa (Bj (v := Value.bool x3) F QT Aa (fun w W => Ec any w (v2) (v6) p0.1.2.2 p1.1.2.2 _ h4 (((Ao h_v2) : DK _ _ _ _ _ _) w W).nx (((Ao h_v6) : DK _ _ _ _ _ _) w W).nx)) fun a w F W => ?_
    refine ls F W Aa (As F Aa Aa Aa).q fun a w F W => ?_
    refine ls F W Aa (Ae F Aa).q fun a w F W => ?_
    rcases Bool.eq_false_or_eq_true x3 with hb | hb
    ·
     have H := AW hb H
     rw [hb] at F
     clear hb
     refine AB F W (Ah F Aa Aa Aa Aa) Aa (Ap Aa) (Ai Bw Aa Aa Aa HY F Aa 3 Aa).q fun a w F W => ?_
     refine AB F W (Ah F Aa Aa Aa Aa) Aa (Ap Aa) (Az (v := v3) 1 F Aa Aa HY Aa).q fun a w F W => ?_
     refine AB F W (Ah F Aa Aa Aa Aa) Aa (Ap Aa) (Ai Bw Aa Aa Aa HY F Aa 3 Aa).q fun a w F W => ?_
     refine AB F W (Ah F Aa Aa Aa Aa) Aa (Ap Aa) (Az (v := v7) 0 F Aa Aa HY Aa).q fun a w F W => ?_
     refine ES (Ah F Aa Aa Aa Aa) ?_
     obtain ⟨x4, h5, H⟩ := An H
     refine ls F W Aa (Bj (v := Value.bool x4) F Qu Aa (fun w W => Dc any w (v3) (v7) p0.2.1 p1.2.1 _ h5 (((CO Eo h1 (Ao h_v3)) : DK _ _ _ _ _ _) w W).nx (((CO Eo h2 (Ao h_v7)) : DK _ _ _ _ _ _) w W).nx)) fun a w F W => ?_
     refine ls F W Aa (As F Aa Aa Aa).q fun a w F W => ?_
     refine ls F W Aa (Ae F Aa).q fun a w F W => ?_
     rcases Bool.eq_false_or_eq_true x4 with hb | hb
     ·
      have H := AW hb H
      rw [hb] at F
      clear hb
      refine AB F W (Ah F Aa Aa Aa Aa) Aa (Ap Aa) (Ai Bw Aa Aa Aa KN F Aa 4 Aa).q fun a w F W => ?_
      refine AB F W (Ah F Aa Aa Aa Aa) Aa (Ap Aa) (Az (v := v4) 1 F Aa Aa KN Aa).q fun a w F W => ?_
      refine AB F W (Ah F Aa Aa Aa Aa) Aa (Ap Aa) (Ai Bw Aa Aa Aa KN F Aa 4 Aa).q fun a w F W => ?_
      refine AB F W (Ah F Aa Aa Aa Aa) Aa (Ap Aa) (Az (v := v8) 0 F Aa Aa KN Aa).q fun a w F W => ?_
      refine ES (Ah F Aa Aa Aa Aa) ?_
      obtain ⟨x5, h6, H⟩ := An H
      refine ls F W Aa (Bj (v := Value.bool x5) F Qq Aa (fun w W => Ge any w (v4) (v8) p0.2.2.1 p1.2.2.1 _ h6 (((Ao h_v4) : DK _ _ _ _ _ _) w W).nx (((Ao h_v8) : DK _ _ _ _ _ _) w W).nx)) fun a w F W => ?_
      refine ls F W Aa (As F Aa Aa Aa).q fun a w F W => ?_
      refine ls F W Aa (Ae F Aa).q fun a w F W => ?_
      rcases Bool.eq_false_or_eq_true x5 with hb | hb
      ·
       have H := AW hb H
       rw [hb] at F
       clear hb
       refine AB F W (Ah F Aa Aa Aa Aa) Aa (Ap Aa) (Ai Bw Aa Aa Aa T3 F Aa 5 Aa).q fun a w F W => ?_
       refine AB F W (Ah F Aa Aa Aa Aa) Aa (Ap Aa) (Az (v := Value.int .i64 p0.2.2.2.1) 1 F Aa Aa T3 Aa).q fun a w F W => ?_
       refine AB F W (Ah F Aa Aa Aa Aa) Aa (Ap Aa) (Ai Bw Aa Aa Aa T3 F Aa 5 Aa).q fun a w F W => ?_
       refine AB F W (Ah F Aa Aa Aa Aa) Aa (Ap Aa) (Az (v := Value.int .i64 p1.2.2.2.1) 0 F Aa Aa T3 Aa).q fun a w F W => ?_
       refine AB F W (Ah F Aa Aa Aa Aa) Aa (Ap Aa) (CM F Aa Aa).q fun a w F W => ?_
       refine ls F W Aa (As F Aa Aa Aa).q fun a w F W => ?_
       refine ls F W Aa (Ae F Aa).q fun a w F W => ?_
       rcases Bool.eq_false_or_eq_true (decide (p0.2.2.2.1 = p1.2.2.2.1)) with hb | hb
       ·
        have H := AW (BI hb) H
        rw [hb] at F
        clear hb
        refine AB F W (Ah F Aa Aa Aa Aa) Aa (Ap Aa) (Ai Bw Aa Aa Aa T3 F Aa 6 Aa).q fun a w F W => ?_
        refine AB F W (Ah F Aa Aa Aa Aa) Aa (Ap Aa) (Az (v := Value.int .i64 p0.2.2.2.2.1) 1 F Aa Aa T3 Aa).q fun a w F W => ?_
        refine AB F W (Ah F Aa Aa Aa Aa) Aa (Ap Aa) (Ai Bw Aa Aa Aa T3 F Aa 6 Aa).q fun a w F W => ?_
        refine AB F W (Ah F Aa Aa Aa Aa) Aa (Ap Aa) (Az (v := Value.int .i64 p1.2.2.2.2.1) 0 F Aa Aa T3 Aa).q fun a w F W => ?_
        refine AB F W (Ah F Aa Aa Aa Aa) Aa (Ap Aa) (CM F Aa Aa).q fun a w F W => ?_
        refine ls F W Aa (As F Aa Aa Aa).q fun a w F W => ?_
        refine ls F W Aa (Ae F Aa).q fun a w F W => ?_
        rcases Bool.eq_false_or_eq_true (decide (p0.2.2.2.2.1 = p1.2.2.2.2.1)) with hb | hb
        ·
         have H := AW (BI hb) H
         rw [hb] at F
         clear hb
         refine AB F W (Ah F Aa Aa Aa Aa) Aa (Ap Aa) (Ai Bw Aa Aa Aa T3 F Aa 7 Aa).q fun a w F W => ?_
         refine AB F W (Ah F Aa Aa Aa Aa) Aa (Ap Aa) (Az (v := Value.int .i64 p0.2.2.2.2.2.1) 1 F Aa Aa T3 Aa).q fun a w F W => ?_
         refine AB F W (Ah F Aa Aa Aa Aa) Aa (Ap Aa) (Ai Bw Aa Aa Aa T3 F Aa 7 Aa).q fun a w F W => ?_
         refine AB F W (Ah F Aa Aa Aa Aa) Aa (Ap Aa) (Az (v := Value.int .i64 p1.2.2.2.2.2.1) 0 F Aa Aa T3 Aa).q fun a w F W => ?_
         refine AB F W (Ah F Aa Aa Aa Aa) Aa (Ap Aa) (CM F Aa Aa).q fun a w F W => ?_
         refine ls F W Aa (As F Aa Aa Aa).q fun a w F W => ?_
         refine ls F W Aa (Ae F Aa).q fun a w F W => ?_
         rcases Bool.eq_false_or_eq_true (decide (p0.2.2.2.2.2.1 = p1.2.2.2.2.2.1)) with hb | hb
         ·
          have H := AW (BI hb) H
          rw [hb] at F
          clear hb
          refine AB F W (Ah F Aa Aa Aa Aa) Aa (Ap Aa) (Ai Bw Aa Aa Aa T3 F Aa 8 Aa).q fun a w F W => ?_
          refine AB F W (Ah F Aa Aa Aa Aa) Aa (Ap Aa) (Az (v := Value.int .i64 p0.2.2.2.2.2.2.1) 1 F Aa Aa T3 Aa).q fun a w F W => ?_
          refine AB F W (Ah F Aa Aa Aa Aa) Aa (Ap Aa) (Ai Bw Aa Aa Aa T3 F Aa 8 Aa).q fun a w F W => ?_
          refine AB F W (Ah F Aa Aa Aa Aa) Aa (Ap Aa) (Az (v := Value.int .i64 p1.2.2.2.2.2.2.1) 0 F Aa Aa T3 Aa).q fun a w F W => ?_
          refine AB F W (Ah F Aa Aa Aa Aa) Aa (Ap Aa) (CM F Aa Aa).q fun a w F W => ?_
          refine ls F W Aa (As F Aa Aa Aa).q fun a w F W => ?_
          refine ls F W Aa (Ae F Aa).q fun a w F W => ?_
          rcases Bool.eq_false_or_eq_true (decide (p0.2.2.2.2.2.2.1 = p1.2.2.2.2.2.2.1)) with hb | hb
          ·
           have H := AW (BI hb) H
           rw [hb] at F
           clear hb
           refine AB F W (Ah F Aa Aa Aa Aa) Aa (Ap Aa) (Ai Bw Aa Aa Aa T3 F Aa 9 Aa).q fun a w F W => ?_
           refine AB F W (Ah F Aa Aa Aa Aa) Aa (Ap Aa) (Az (v := Value.int .i64 p0.2.2.2.2.2.2.2.1) 1 F Aa Aa T3 Aa).q fun a w F W => ?_
           refine AB F W (Ah F Aa Aa Aa Aa) Aa (Ap Aa) (Ai Bw Aa Aa Aa T3 F Aa 9 Aa).q fun a w F W => ?_
           refine AB F W (Ah F Aa Aa Aa Aa) Aa (Ap Aa) (Az (v := Value.int .i64 p1.2.2.2.2.2.2.2.1) 0 F Aa Aa T3 Aa).q fun a w F W => ?_
           refine AB F W (Ah F Aa Aa Aa Aa) Aa (Ap Aa) (CM F Aa Aa).q fun a w F W => ?_
           refine ls F W Aa (As F Aa Aa Aa).q fun a w F W => ?_
           refine ls F W Aa (Ae F Aa).q fun a w F W => ?_
           rcases Bool.eq_false_or_eq_true (decide (p0.2.2.2.2.2.2.2.1 = p1.2.2.2.2.2.2.2.1)) with hb | hb
           ·
            have H := AW (BI hb) H
            rw [hb] at F
            clear hb
            refine AB F W (Ah F Aa Aa Aa Aa) Aa (Ap Aa) (Ai Bw Aa Aa Aa T3 F Aa 10 Aa).q fun a w F W => ?_
            refine AB F W (Ah F Aa Aa Aa Aa) Aa (Ap Aa) (Az (v := Value.int .i64 p0.2.2.2.2.2.2.2.2) 1 F Aa Aa T3 Aa).q fun a w F W => ?_
            refine AB F W (Ah F Aa Aa Aa Aa) Aa (Ap Aa) (Ai Bw Aa Aa Aa T3 F Aa 10 Aa).q fun a w F W => ?_
            refine AB F W (Ah F Aa Aa Aa Aa) Aa (Ap Aa) (Az (v := Value.int .i64 p1.2.2.2.2.2.2.2.2) 0 F Aa Aa T3 Aa).q fun a w F W => ?_
            refine AB F W (Ah F Aa Aa Aa Aa) Aa (Ap Aa) (CM F Aa Aa).q fun a w F W => ?_
            refine ls F W Aa (As F Aa Aa Aa).q fun a w F W => ?_
            refine ls F W Aa (Ag F Aa).q fun a w F W => ?_
            refine Af (Ad ?_)
            have W := W.frontM (i := 1) Aa Aa
            have W := W.frontM (i := 1) Aa Aa
            exact ⟨_, H, F.re ⟨rfl, trivial⟩, W⟩
           have H := AV (BG hb) H
           rw [hb] at F
           clear hb
           iterate 5 refine B8 F Aa Aa Aa Aa Aa Aa Aa fun a F => ?_
           refine ls F W Aa (Al F Aa Aa Aa).q fun a w F W => ?_
           refine ls F W Aa (Ag F Aa).q fun a w F W => ?_
           refine Af (Ad ?_)
           have W := W.frontM (i := 1) Aa Aa
           have W := W.frontM (i := 1) Aa Aa
           exact ⟨_, H, F.re ⟨rfl, trivial⟩, W⟩
          have H := AV (BG hb) H
          rw [hb] at F
          clear hb
          iterate 5 refine B8 F Aa Aa Aa Aa Aa Aa Aa fun a F => ?_
          refine ls F W Aa (Al F Aa Aa Aa).q fun a w F W => ?_
          refine ls F W Aa (Ae F Aa).q fun a w F W => ?_
          iterate 5 refine B8 F Aa Aa Aa Aa Aa Aa Aa fun a F => ?_
          refine ls F W Aa (Al F Aa Aa Aa).q fun a w F W => ?_
          refine ls F W Aa (Ag F Aa).q fun a w F W => ?_
          refine Af (Ad ?_)
          have W := W.frontM (i := 1) Aa Aa
          have W := W.frontM (i := 1) Aa Aa
          exact ⟨_, H, F.re ⟨rfl, trivial⟩, W⟩
         have H := AV (BG hb) H
         rw [hb] at F
         clear hb
         iterate 5 refine B8 F Aa Aa Aa Aa Aa Aa Aa fun a F => ?_
         refine ls F W Aa (Al F Aa Aa Aa).q fun a w F W => ?_
         refine ls F W Aa (Ae F Aa).q fun a w F W => ?_
         iterate 5 refine B8 F Aa Aa Aa Aa Aa Aa Aa fun a F => ?_
         refine ls F W Aa (Al F Aa Aa Aa).q fun a w F W => ?_
         refine ls F W Aa (Ae F Aa).q fun a w F W => ?_
         iterate 5 refine B8 F Aa Aa Aa Aa Aa Aa Aa fun a F => ?_
         refine ls F W Aa (Al F Aa Aa Aa).q fun a w F W => ?_
         refine ls F W Aa (Ag F Aa).q fun a w F W => ?_
         refine Af (Ad ?_)
         have W := W.frontM (i := 1) Aa Aa
         have W := W.frontM (i := 1) Aa Aa
         exact ⟨_, H, F.re ⟨rfl, trivial⟩, W⟩
        have H := AV (BG hb) H
        rw [hb] at F
        clear hb
        iterate 5 refine B8 F Aa Aa Aa Aa Aa Aa Aa fun a F => ?_
        refine ls F W Aa (Al F Aa Aa Aa).q fun a w F W => ?_
        refine ls F W Aa (Ae F Aa).q fun a w F W => ?_
        iterate 5 refine B8 F Aa Aa Aa Aa Aa Aa Aa fun a F => ?_
        refine ls F W Aa (Al F Aa Aa Aa).q fun a w F W => ?_
        refine ls F W Aa (Ae F Aa).q fun a w F W => ?_
        iterate 5 refine B8 F Aa Aa Aa Aa Aa Aa Aa fun a F => ?_
        refine ls F W Aa (Al F Aa Aa Aa).q fun a w F W => ?_
        refine ls F W Aa (Ae F Aa).q fun a w F W => ?_
        iterate 5 refine B8 F Aa Aa Aa Aa Aa Aa Aa fun a F => ?_
        refine ls F W Aa (Al F Aa Aa Aa).q fun a w F W => ?_
        refine ls F W Aa (Ag F Aa).q fun a w F W => ?_
        refine Af (Ad ?_)
        have W := W.frontM (i := 1) Aa Aa
        have W := W.frontM (i := 1) Aa Aa
        exact ⟨_, H, F.re ⟨rfl, trivial⟩, W⟩
       have H := AV (BG hb) H
       rw [hb] at F
       clear hb
       iterate 5 refine B8 F Aa Aa Aa Aa Aa Aa Aa fun a F => ?_
       refine ls F W Aa (Al F Aa Aa Aa).q fun a w F W => ?_
       refine ls F W Aa (Ae F Aa).q fun a w F W => ?_
       iterate 5 refine B8 F Aa Aa Aa Aa Aa Aa Aa fun a F => ?_
       refine ls F W Aa (Al F Aa Aa Aa).q fun a w F W => ?_
       refine ls F W Aa (Ae F Aa).q fun a w F W => ?_
       iterate 5 refine B8 F Aa Aa Aa Aa Aa Aa Aa fun a F => ?_
       refine ls F W Aa (Al F Aa Aa Aa).q fun a w F W => ?_
       refine ls F W Aa (Ae F Aa).q fun a w F W => ?_
       iterate 5 refine B8 F Aa Aa Aa Aa Aa Aa Aa fun a F => ?_
       refine ls F W Aa (Al F Aa Aa Aa).q fun a w F W => ?_
       refine ls F W Aa (Ae F Aa).q fun a w F W => ?_
       iterate 5 refine B8 F Aa Aa Aa Aa Aa Aa Aa fun a F => ?_
       refine ls F W Aa (Al F Aa Aa Aa).q fun a w F W => ?_
       refine ls F W Aa (Ag F Aa).q fun a w F W => ?_
       refine Af (Ad ?_)
       have W := W.frontM (i := 1) Aa Aa
       have W := W.frontM (i := 1) Aa Aa
       exact ⟨_, H, F.re ⟨rfl, trivial⟩, W⟩
      have H := AV (by rw [hb]; decide) H
      rw [hb] at F
      clear hb
      iterate 5 refine B8 F Aa Aa Aa Aa Aa Aa Aa fun a F => ?_
      refine ls F W Aa (Al F Aa Aa Aa).q fun a w F W => ?_
      refine ls F W Aa (Ae F Aa).q fun a w F W => ?_
      iterate 5 refine B8 F Aa Aa Aa Aa Aa Aa Aa fun a F => ?_
      refine ls F W Aa (Al F Aa Aa Aa).q fun a w F W => ?_
      refine ls F W Aa (Ae F Aa).q fun a w F W => ?_
      iterate 5 refine B8 F Aa Aa Aa Aa Aa Aa Aa fun a F => ?_
      refine ls F W Aa (Al F Aa Aa Aa).q fun a w F W => ?_
      refine ls F W Aa (Ae F Aa).q fun a w F W => ?_
      iterate 5 refine B8 F Aa Aa Aa Aa Aa Aa Aa fun a F => ?_
      refine ls F W Aa (Al F Aa Aa Aa).q fun a w F W => ?_
      refine ls F W Aa (Ae F Aa).q fun a w F W => ?_
      iterate 5 refine B8 F Aa Aa Aa Aa Aa Aa Aa fun a F => ?_
      refine ls F W Aa (Al F Aa Aa Aa).q fun a w F W => ?_
      refine ls F W Aa (Ae F Aa).q fun a w F W => ?_
      iterate 5 refine B8 F Aa Aa Aa Aa Aa Aa Aa fun a F => ?_
      refine ls F W Aa (Al F Aa Aa Aa).q fun a w F W => ?_
      refine ls F W Aa (Ag F Aa).q fun a w F W => ?_
      refine Af (Ad ?_)
      have W := W.frontM (i := 1) Aa Aa
      have W := W.frontM (i := 1) Aa Aa
      exact ⟨_, H, F.re ⟨rfl, trivial⟩, W⟩
     have H := AV (by rw [hb]; decide) H
     rw [hb] at F
     clear hb
     iterate 5 refine B8 F Aa Aa Aa Aa Aa Aa Aa fun a F => ?_
     refine ls F W Aa (Al F Aa Aa Aa).q fun a w F W => ?_
     refine ls F W Aa (Ae F Aa).q fun a w F W => ?_
     iterate 5 refine B8 F Aa Aa Aa Aa Aa Aa Aa fun a F => ?_
     refine ls F W Aa (Al F Aa Aa Aa).q fun a w F W => ?_
     refine ls F W Aa (Ae F Aa).q fun a w F W => ?_
     iterate 5 refine B8 F Aa Aa Aa Aa Aa Aa Aa fun a F => ?_
     refine ls F W Aa (Al F Aa Aa Aa).q fun a w F W => ?_
     refine ls F W Aa (Ae F Aa).q fun a w F W => ?_
     iterate 5 refine B8 F Aa Aa Aa Aa Aa Aa Aa fun a F => ?_
     refine ls F W Aa (Al F Aa Aa Aa).q fun a w F W => ?_
     refine ls F W Aa (Ae F Aa).q fun a w F W => ?_
     iterate 5 refine B8 F Aa Aa Aa Aa Aa Aa Aa fun a F => ?_
     refine ls F W Aa (Al F Aa Aa Aa).q fun a w F W => ?_
     refine ls F W Aa (Ae F Aa).q fun a w F W => ?_
     iterate 5 refine B8 F Aa Aa Aa Aa Aa Aa Aa fun a F => ?_
     refine ls F W Aa (Al F Aa Aa Aa).q fun a w F W => ?_
     refine ls F W Aa (Ae F Aa).q fun a w F W => ?_
     iterate 5 refine B8 F Aa Aa Aa Aa Aa Aa Aa fun a F => ?_
     refine ls F W Aa (Al F Aa Aa Aa).q fun a w F W => ?_
     refine ls F W Aa (Ag F Aa).q fun a w F W => ?_
     refine Af (Ad ?_)
     have W := W.frontM (i := 1) Aa Aa
     have W := W.frontM (i := 1) Aa Aa
     exact ⟨_, H, F.re ⟨rfl, trivial⟩, W⟩
    have H := AV (by rw [hb]; decide) H
    rw [hb] at F
    clear hb
    iterate 5 refine B8 F Aa Aa Aa Aa Aa Aa Aa fun a F => ?_
    refine ls F W Aa (Al F Aa Aa Aa).q fun a w F W => ?_
    refine ls F W Aa (Ae F Aa).q fun a w F W => ?_
    iterate 5 refine B8 F Aa Aa Aa Aa Aa Aa Aa fun a F => ?_
    refine ls F W Aa (Al F Aa Aa Aa).q fun a w F W => ?_
    refine ls F W Aa (Ae F Aa).q fun a w F W => ?_
    iterate 5 refine B8 F Aa Aa Aa Aa Aa Aa Aa fun a F => ?_
    refine ls F W Aa (Al F Aa Aa Aa).q fun a w F W => ?_
    refine ls F W Aa (Ae F Aa).q fun a w F W => ?_
    iterate 5 refine B8 F Aa Aa Aa Aa Aa Aa Aa fun a F => ?_
    refine ls F W Aa (Al F Aa Aa Aa).q fun a w F W => ?_
    refine ls F W Aa (Ae F Aa).q fun a w F W => ?_
    iterate 5 refine B8 F Aa Aa Aa Aa Aa Aa Aa fun a F => ?_
    refine ls F W Aa (Al F Aa Aa Aa).q fun a w F W => ?_
    refine ls F W Aa (Ae F Aa).q fun a w F W => ?_
    iterate 5 refine B8 F Aa Aa Aa Aa Aa Aa Aa fun a F => ?_
    refine ls F W Aa (Al F Aa Aa Aa).q fun a w F W => ?_
    refine ls F W Aa (Ae F Aa).q fun a w F W => ?_
    iterate 5 refine B8 F Aa Aa Aa Aa Aa Aa Aa fun a F => ?_
    refine ls F W Aa (Al F Aa Aa Aa).q fun a w F W => ?_
    refine ls F W Aa (Ae F Aa).q fun a w F W => ?_
    iterate 5 refine B8 F Aa Aa Aa Aa Aa Aa Aa fun a F => ?_
    refine ls F W Aa (Al F Aa Aa Aa).q fun a w F W => ?_
    refine ls F W Aa (Ag F Aa).q fun a w F W => ?_
    refine Af (Ad ?_)
    have W := W.frontM (i := 1) Aa Aa
    have W := W.frontM (i := 1) Aa Aa
    exact ⟨_, H, F.re ⟨rfl, trivial⟩, W⟩
   have H := AV (by rw [hb]; decide) H
   rw [hb] at F
   clear hb
   iterate 7 refine B8 F Aa Aa Aa Aa Aa Aa Aa fun a F => ?_
   refine ls F W Aa (Al F Aa Aa Aa).q fun a w F W => ?_
   refine ls F W Aa (Ae F Aa).q fun a w F W => ?_
   iterate 5 refine B8 F Aa Aa Aa Aa Aa Aa Aa fun a F => ?_
   refine ls F W Aa (Al F Aa Aa Aa).q fun a w F W => ?_
   refine ls F W Aa (Ae F Aa).q fun a w F W => ?_
   iterate 5 refine B8 F Aa Aa Aa Aa Aa Aa Aa fun a F => ?_
   refine ls F W Aa (Al F Aa Aa Aa).q fun a w F W => ?_
   refine ls F W Aa (Ae F Aa).q fun a w F W => ?_
   iterate 5 refine B8 F Aa Aa Aa Aa Aa Aa Aa fun a F => ?_
   refine ls F W Aa (Al F Aa Aa Aa).q fun a w F W => ?_
   refine ls F W Aa (Ae F Aa).q fun a w F W => ?_
   iterate 5 refine B8 F Aa Aa Aa Aa Aa Aa Aa fun a F => ?_
   refine ls F W Aa (Al F Aa Aa Aa).q fun a w F W => ?_
   refine ls F W Aa (Ae F Aa).q fun a w F W => ?_
   iterate 5 refine B8 F Aa Aa Aa Aa Aa Aa Aa fun a F => ?_
   refine ls F W Aa (Al F Aa Aa Aa).q fun a w F W => ?_
   refine ls F W Aa (Ae F Aa).q fun a w F W => ?_
   iterate 5 refine B8 F Aa Aa Aa Aa Aa Aa Aa fun a F => ?_
   refine ls F W Aa (Al F Aa Aa Aa).q fun a w F W => ?_
   refine ls F W Aa (Ae F Aa).q fun a w F W => ?_
   iterate 5 refine B8 F Aa Aa Aa Aa Aa Aa Aa fun a F => ?_
   refine ls F W Aa (Al F Aa Aa Aa).q fun a w F W => ?_
   refine ls F W Aa (Ae F Aa).q fun a w F W => ?_
   iterate 5 refine B8 F Aa Aa Aa Aa Aa Aa Aa fun a F => ?_
   refine ls F W Aa (Al F Aa Aa Aa).q fun a w F W => ?_
   refine ls F W Aa (Ag F Aa).q fun a w F W => ?_
   refine Af (Ad ?_)
   have W := W.frontM (i := 1) Aa Aa
   have W := W.frontM (i := 1) Aa Aa
   exact ⟨_, H, F.re ⟨rfl, trivial⟩, W⟩
  have H := AV (BG hb) H
  rw [hb] at F
  clear hb
  iterate 7 refine B8 F Aa Aa Aa Aa Aa Aa Aa fun a F => ?_
  refine ls F W Aa (Al F Aa Aa Aa).q fun a w F W => ?_
  refine ls F W Aa (Ae F Aa).q fun a w F W => ?_
  iterate 7 refine B8 F Aa Aa Aa Aa Aa Aa Aa fun a F => ?_
  refine ls F W Aa (Al F Aa Aa Aa).q fun a w F W => ?_
  refine ls F W Aa (Ae F Aa).q fun a w F W => ?_
  iterate 5 refine B8 F Aa Aa Aa Aa Aa Aa Aa fun a F => ?_
  refine ls F W Aa (Al F Aa Aa Aa).q fun a w F W => ?_
  refine ls F W Aa (Ae F Aa).q fun a w F W => ?_
  iterate 5 refine B8 F Aa Aa Aa Aa Aa Aa Aa fun a F => ?_
  refine ls F W Aa (Al F Aa Aa Aa).q fun a w F W => ?_
  refine ls F W Aa (Ae F Aa).q fun a w F W => ?_
  iterate 5 refine B8 F Aa Aa Aa Aa Aa Aa Aa fun a F => ?_
  refine ls F W Aa (Al F Aa Aa Aa).q fun a w F W => ?_
  refine ls F W Aa (Ae F Aa).q fun a w F W => ?_
  iterate 5 refine B8 F Aa Aa Aa Aa Aa Aa Aa fun a F => ?_
  refine ls F W Aa (Al F Aa Aa Aa).q fun a w F W => ?_
  refine ls F W Aa (Ae F Aa).q fun a w F W => ?_
  iterate 5 refine B8 F Aa Aa Aa Aa Aa Aa Aa fun a F => ?_
  refine ls F W Aa (Al F Aa Aa Aa).q fun a w F W => ?_
  refine ls F W Aa (Ae F Aa).q fun a w F W => ?_
  iterate 5 refine B8 F Aa Aa Aa Aa Aa Aa Aa fun a F => ?_
  refine ls F W Aa (Al F Aa Aa Aa).q fun a w F W => ?_
  refine ls F W Aa (Ae F Aa).q fun a w F W => ?_
  iterate 5 refine B8 F Aa Aa Aa Aa Aa Aa Aa fun a F => ?_
  refine ls F W Aa (Al F Aa Aa Aa).q fun a w F W => ?_
  refine ls F W Aa (Ae F Aa).q fun a w F W => ?_
  iterate 5 refine B8 F Aa Aa Aa Aa Aa Aa Aa fun a F => ?_
  refine ls F W Aa (Al F Aa Aa Aa).q fun a w F W => ?_
  refine ls F W Aa (Ag F Aa).q fun a w F W => ?_
  refine Af (Ad ?_)
  have W := W.frontM (i := 1) Aa Aa
  have W := W.frontM (i := 1) Aa Aa
  exact ⟨_, H, F.re ⟨rfl, trivial⟩, W⟩
 rintro a w ⟨x1, hj, F, W⟩
 have hj := Ba hj
 subst hj
 have H := K1
 clear G1 K1
 refine AP ?_
 have H := Ba H
 subst H
 refine BM (.inl Aa) F W Aa (AG F Aa) ?_
 exact ⟨rfl, W.done⟩
theorem Qs : Has Tryd.prog 11 := ⟨fun args w => Am Tryd.func11 rfl (by decide) args w⟩
abbrev NE (a0 : Nat) (a1 : Value) (a2 : Value) : List (Nat × List Value) := [(a0, [.int .i64 2, .slice none 0 0, .slice none 0 0, a1, a2, .int .i64 0, .int .i64 0, .int .i64 0, .int .i64 0, .int .i64 0, .int .i64 1])]
abbrev Ei (a0 : ((Int × (List (Int × Int × Int × Int × Int × Int)) × (List (Int × Int))) × List (List Int) × List Int × Int × Int × Int × Int × Int × Int) × Int × Int) (a1 : Value) (a2 : Value) (a3 : Value) (a4 : Value) : List Value := [.int .i64 a0.1.1.1, a1, a2, a3, a4, .int .i64 a0.1.2.2.2.1, .int .i64 a0.1.2.2.2.2.1, .int .i64 a0.1.2.2.2.2.2.1, .int .i64 a0.1.2.2.2.2.2.2.1, .int .i64 a0.1.2.2.2.2.2.2.2.1, .int .i64 a0.1.2.2.2.2.2.2.2.2]
abbrev JC (a0 : Nat) (a1 : ((Int × (List (Int × Int × Int × Int × Int × Int)) × (List (Int × Int))) × List (List Int) × List Int × Int × Int × Int × Int × Int × Int) × Int × Int) (a2 : Value) (a3 : Value) (a4 : Value) (a5 : Value) (a6 : Nat) (a7 : Value) (a8 : Value) : List (Nat × List Value) := [(a0, [.int .i64 a1.1.1.1, a2, a3, a4, a5, .int .i64 a1.1.2.2.2.1, .int .i64 a1.1.2.2.2.2.1, .int .i64 a1.1.2.2.2.2.2.1, .int .i64 a1.1.2.2.2.2.2.2.1, .int .i64 a1.1.2.2.2.2.2.2.2.1, .int .i64 a1.1.2.2.2.2.2.2.2.2]), (a6, [.int .i64 2, .slice none 0 0, .slice none 0 0, a7, a8, .int .i64 0, .int .i64 0, .int .i64 0, .int .i64 0, .int .i64 0, .int .i64 1])]
noncomputable def Es  : Option Bool := (DC ((2, ([] : List (Int × Int × Int × Int × Int × Int)), ([] : List (Int × Int))), ([([4607182418800017408] : List Int)] : List (List Int)), ([0, (-4)] : List Int), 0, 0, 0, 0, 0, 1)).bind fun x1 => (Ca x1).bind fun x2 => (if x1 = ([115, 119, 105, 116, 99, 104, 101, 115, 32, 50, 10, 119, 101, 105, 103, 104, 116, 115, 32, 51, 102, 102, 48, 48, 48, 48, 48, 48, 48, 48, 48, 48, 48, 48, 48, 10, 115, 116, 97, 114, 116, 115, 32, 48, 32, 45, 52, 10, 114, 97, 116, 101, 32, 48, 10, 114, 111, 111, 109, 32, 48, 10, 119, 105, 100, 101, 32, 48, 10, 108, 101, 97, 100, 32, 48, 10, 109, 97, 114, 103, 105, 110, 32, 48, 10, 114, 101, 116, 114, 121, 32, 49, 10] : List UInt8) then (if x2.2.1 = 0 then (if x2.2.2 = 0 then (Fs ((2, ([] : List (Int × Int × Int × Int × Int × Int)), ([] : List (Int × Int))), ([([4607182418800017408] : List Int)] : List (List Int)), ([0, (-4)] : List Int), 0, 0, 0, 0, 0, 1) x2.1).bind fun x4 => some x4 else some false) else some false) else some false).bind fun x3 => some x3
theorem HP (Y : Nat → Prop) (w0 : World)   (r : Bool) (H : Es  = some r) (hG : Gk [] w0) :
    Calls Tryd.prog 7 #[] w0 fun e w' => e = .returned (.bool r) ∧ Below w0.heap.size w0 w' := by
 refine enter Tryd.func7 Aa Tryd.ntmps7 Aa fun a F => ?_
 have W := Stw.start Y w0
 unfold Es at H
 refine Ak (Ac ?_)
 refine ls F W Aa (Ag F Aa).q fun a w F W => ?_
 refine Af (Ad (Ak (Ac ?_)))
 refine ls F W Aa (F9 (v := Value.agg #[.int .i64 2, .slice none 0 0, .slice none 0 0]) Q2 F Aa Aa Aa).q fun a w F W => ?_
 refine DS (z := Value.int .u64 0) (cs := [.int .u64 4607182418800017408]) (Rp.int .u64) ([4607182418800017408] : List Int) F W Aa Oh P4 Aa Aa Aa Aa Aa Aa (Fl.int.repL _ _ ([4607182418800017408] : List Int)) fun v1 a w F W => ?_
 have W := W.freeze
 refine DS (z := Value.slice none 0 0) (cs := [v1]) (Rp.slice (Rp.int .u64)) ([([4607182418800017408] : List Int)] : List (List Int)) F W Aa Od Qm Aa Aa Aa (Fc Aa (FS (W.oneF (k := 0) Aa)) Aa Ix) Aa Aa ⟨[v1], _, Aa, ⟨_, Aa, (W.item (i := 0) Aa)⟩, Aa⟩ fun v2 a w F W => ?_
 refine DS (z := Value.int .i64 0) (cs := [.int .i64 0, .int .i64 (-4)]) (Rp.int .i64) ([0, (-4)] : List Int) F W Aa GH Z3 Aa Aa Aa Aa Aa Aa (Fl.int.repL _ _ ([0, (-4)] : List Int)) fun v3 a w F W => ?_
 refine ls F W Aa (F9 (v := Value.agg #[.int .i64 2, .slice none 0 0, .slice none 0 0, v2, v3, .int .i64 0, .int .i64 0, .int .i64 0, .int .i64 0, .int .i64 0, .int .i64 1]) P2 F Aa (Fc Aa Aa Aa (Fc Aa (FS (W.one (k := 1) Aa)) Aa (Fc Aa (FS (W.one (k := 0) Aa)) Aa (Fc Aa Aa Aa Ix)))) Aa).q fun a w F W => ?_
 refine DX (cs := (FQ)) F W Aa O5 Aa fun b1 a w F W => ?_
 refine Co (vs := [.int .i64 2, .slice none 0 0, .slice none 0 0, v2, v3, .int .i64 0, .int .i64 0, .int .i64 0, .int .i64 0, .int .i64 0, .int .i64 1]) (M' := (NE b1 v2 v3)) 0 F W Aa Aa Aa GI Aa Aa Aa (Av Aa (Av Aa (Av Aa (Av (W.one (k := 1) Aa) (Av (W.one (k := 0) Aa) (Av Aa (Av Aa (Av Aa (Av Aa (Av Aa (Av Aa GC))))))))))) Aa fun w W => ?_
 refine Af (Ad (Ak (Ac ?_)))
 refine ls F W Aa (Az (v := Value.agg #[.int .i64 2, .slice none 0 0, .slice none 0 0, v2, v3, .int .i64 0, .int .i64 0, .int .i64 0, .int .i64 0, .int .i64 0, .int .i64 1]) 0 F Aa Aa GI Aa).q fun a w F W => ?_
 obtain ⟨x1, h1, H⟩ := An H
 refine ls F W Aa (Bj (v := Value.string (bs x1)) F H8 Aa (fun w W => Ho any w (Value.slice none 0 0) (Value.slice none 0 0) (v2) (v3) ((2, ([] : List (Int × Int × Int × Int × Int × Int)), ([] : List (Int × Int))), ([([4607182418800017408] : List Int)] : List (List Int)), ([0, (-4)] : List Int), 0, 0, 0, 0, 0, 1) _ h1 Sl.nil Sl.nil (((A3 1 Aa) : DK _ _ _ _ _ _) w W).nx (((A3 0 Aa) : DK _ _ _ _ _ _) w W).nx (hG.go0 W))) fun a w F W => ?_
 refine ls F W Aa (Ag F Aa).q fun a w F W => ?_
 refine Af (Ad (Ak (Ac ?_)))
 refine ls F W Aa (Ae F Aa).q fun a w F W => ?_
 obtain ⟨x2, h2, H⟩ := An H
 refine AO (Ml := []) (Zl := []) (M := (NE b1 v2 v3)) (Z := [row v3 3 (Rp.int .i64) ([0, (-4)] : List Int), row v2 39 (Rp.slice (Rp.int .u64)) ([([4607182418800017408] : List Int)] : List (List Int)), J2 v1 (Rp.int .u64) ([4607182418800017408] : List Int)]) (β := Value × Value × Value × Value) (rv := fun x => .tuple #[.agg #[.int .i64 x2.1.1.1, x.1, x.2.1, x.2.2.1, x.2.2.2, .int .i64 x2.1.2.2.2.1, .int .i64 x2.1.2.2.2.2.1, .int .i64 x2.1.2.2.2.2.2.1, .int .i64 x2.1.2.2.2.2.2.2.1, .int .i64 x2.1.2.2.2.2.2.2.2.1, .int .i64 x2.1.2.2.2.2.2.2.2.2], .int .i64 x2.2.1, .int .i64 x2.2.2]) (MM := fun x => []) (ZZ := fun x => [row x.1 41 Bn x2.1.1.2.1, row x.2.1 43 Br x2.1.1.2.2, row x.2.2.1 39 (Rp.slice (Rp.int .u64)) x2.1.2.1, row x.2.2.2 3 (Rp.int .i64) x2.1.2.2.1]) F W H9 Aa Aa (fun hL => EG _ w x1 _ h2 (hG.go0 W)) fun x a w F W => ?_
 obtain ⟨v4, v5, v6, v7⟩ := x
 have W : Stw ⟨Y, [], w0⟩ (NE b1 v2 v3) [row v4 41 Bn x2.1.1.2.1, row v5 43 Br x2.1.1.2.2, row v6 39 (Rp.slice (Rp.int .u64)) x2.1.2.1, row v7 3 (Rp.int .i64) x2.1.2.2.1, row v3 3 (Rp.int .i64) ([0, (-4)] : List Int), row v2 39 (Rp.slice (Rp.int .u64)) ([([4607182418800017408] : List Int)] : List (List Int)), J2 v1 (Rp.int .u64) ([4607182418800017408] : List Int)] w := W
 refine ls F W Aa (Ae F Aa).q fun a w F W => ?_
 refine ls F W Aa (AU (v := Value.agg #[.int .i64 x2.1.1.1, v4, v5, v6, v7, .int .i64 x2.1.2.2.2.1, .int .i64 x2.1.2.2.2.2.1, .int .i64 x2.1.2.2.2.2.2.1, .int .i64 x2.1.2.2.2.2.2.2.1, .int .i64 x2.1.2.2.2.2.2.2.2.1, .int .i64 x2.1.2.2.2.2.2.2.2.2]) F Aa Aa).q fun a w F W => ?_
 refine ls F W Aa (AU (v := Value.int .i64 x2.2.1) F Aa Aa).q fun a w F W => ?_
 refine ls F W Aa (AU (v := Value.int .i64 x2.2.2) F Aa Aa).q fun a w F W => ?_
 refine DX (cs := (FQ)) F W Aa O5 Aa fun b2 a w F W => ?_
 refine Co (vs := (Ei x2 v4 v5 v6 v7)) (M' := (JC b2 x2 v4 v5 v6 v7 b1 v2 v3)) 0 F W Aa Aa Aa GI Aa Aa Aa (Av Aa (Av (W.one (k := 0) Aa) (Av (W.one (k := 1) Aa) (Av (W.one (k := 2) Aa) (Av (W.one (k := 3) Aa) (Av Aa (Av Aa (Av Aa (Av Aa (Av Aa (Av Aa GC))))))))))) Aa fun w W => ?_
 iterate 2 refine ls F W Aa (Ag F Aa).q fun a w F W => ?_
 refine Af (Ad ?_)
 obtain ⟨o1, G1, K1⟩ := An H
 refine AX (fun a w => ∃ x3 : Bool, some (x3) = some o1 ∧ Fr 34 [] [(0, .bool x3)] a ∧ Stw ⟨Y, [], w0⟩ (JC b2 x2 v4 v5 v6 v7 b1 v2 v3) [row v4 41 Bn x2.1.1.2.1, row v5 43 Br x2.1.1.2.2, row v6 39 (Rp.slice (Rp.int .u64)) x2.1.2.1, row v7 3 (Rp.int .i64) x2.1.2.2.1, row v2 39 (Rp.slice (Rp.int .u64)) ([([4607182418800017408] : List Int)] : List (List Int)), row v3 3 (Rp.int .i64) ([0, (-4)] : List Int)] w) ?_ ?_
 ·
  have H := G1
  clear G1 K1
  refine Ac ?_
  refine ls F W Aa (Ae F Aa).q fun a w F W => ?_
  refine ls F W Aa (MV (l := x1) (m := ([115, 119, 105, 116, 99, 104, 101, 115, 32, 50, 10, 119, 101, 105, 103, 104, 116, 115, 32, 51, 102, 102, 48, 48, 48, 48, 48, 48, 48, 48, 48, 48, 48, 48, 48, 10, 115, 116, 97, 114, 116, 115, 32, 48, 32, 45, 52, 10, 114, 97, 116, 101, 32, 48, 10, 114, 111, 111, 109, 32, 48, 10, 119, 105, 100, 101, 32, 48, 10, 108, 101, 97, 100, 32, 48, 10, 109, 97, 114, 103, 105, 110, 32, 48, 10, 114, 101, 116, 114, 121, 32, 49, 10] : List UInt8)) F Aa Aa).q fun a w F W => ?_
  refine ls F W Aa (Ae F Aa).q fun a w F W => ?_
  rcases Bool.eq_false_or_eq_true (decide (x1 = ([115, 119, 105, 116, 99, 104, 101, 115, 32, 50, 10, 119, 101, 105, 103, 104, 116, 115, 32, 51, 102, 102, 48, 48, 48, 48, 48, 48, 48, 48, 48, 48, 48, 48, 48, 10, 115, 116, 97, 114, 116, 115, 32, 48, 32, 45, 52, 10, 114, 97, 116, 101, 32, 48, 10, 114, 111, 111, 109, 32, 48, 10, 119, 105, 100, 101, 32, 48, 10, 108, 101, 97, 100, 32, 48, 10, 109, 97, 114, 103, 105, 110, 32, 48, 10, 114, 101, 116, 114, 121, 32, 49, 10] : List UInt8))) with hb | hb
  ·
   have H := AW (BI hb) H
   rw [hb] at F
   clear hb
   refine AB F W (Ah F Aa Aa Aa Aa) Aa (Ap Aa) (Ae F Aa).q fun a w F W => ?_
   refine AB F W (Ah F Aa Aa Aa Aa) Aa (Ap Aa) (CM F Aa Aa).q fun a w F W => ?_
   refine ls F W Aa (As F Aa Aa Aa).q fun a w F W => ?_
   refine ls F W Aa (Ae F Aa).q fun a w F W => ?_
   rcases Bool.eq_false_or_eq_true (decide (x2.2.1 = 0)) with hb | hb
   ·
    have H := AW (BI hb) H
    rw [hb] at F
    clear hb
    refine AB F W (Ah F Aa Aa Aa Aa) Aa (Ap Aa) (Ae F Aa).q fun a w F W => ?_
    refine AB F W (Ah F Aa Aa Aa Aa) Aa (Ap Aa) (CM F Aa Aa).q fun a w F W => ?_
    refine ls F W Aa (As F Aa Aa Aa).q fun a w F W => ?_
    refine ls F W Aa (Ae F Aa).q fun a w F W => ?_
    rcases Bool.eq_false_or_eq_true (decide (x2.2.2 = 0)) with hb | hb
    ·
     have H := AW (BI hb) H
     rw [hb] at F
     clear hb
     refine AB F W (Ah F Aa Aa Aa Aa) Aa (Ap Aa) (Az (v := Value.agg #[.int .i64 2, .slice none 0 0, .slice none 0 0, v2, v3, .int .i64 0, .int .i64 0, .int .i64 0, .int .i64 0, .int .i64 0, .int .i64 1]) 1 F Aa Aa GI Aa).q fun a w F W => ?_
     refine AB F W (Ah F Aa Aa Aa Aa) Aa (Ap Aa) (Az (v := Value.agg #[.int .i64 x2.1.1.1, v4, v5, v6, v7, .int .i64 x2.1.2.2.2.1, .int .i64 x2.1.2.2.2.2.1, .int .i64 x2.1.2.2.2.2.2.1, .int .i64 x2.1.2.2.2.2.2.2.1, .int .i64 x2.1.2.2.2.2.2.2.2.1, .int .i64 x2.1.2.2.2.2.2.2.2.2]) 0 F Aa Aa GI Aa).q fun a w F W => ?_
     refine ES (Ah F Aa Aa Aa Aa) ?_
     obtain ⟨x4, h3, H⟩ := An H
     refine ls F W Aa (Bj (v := Value.bool x4) F Qs Aa (fun w W => J4 any w (Value.slice none 0 0) (Value.slice none 0 0) (v2) (v3) (v4) (v5) (v6) (v7) ((2, ([] : List (Int × Int × Int × Int × Int × Int)), ([] : List (Int × Int))), ([([4607182418800017408] : List Int)] : List (List Int)), ([0, (-4)] : List Int), 0, 0, 0, 0, 0, 1) x2.1 _ h3 Sl.nil Sl.nil (((A3 5 Aa) : DK _ _ _ _ _ _) w W).nx (((A3 4 Aa) : DK _ _ _ _ _ _) w W).nx (((A3 0 Aa) : DK _ _ _ _ _ _) w W).nx (((A3 1 Aa) : DK _ _ _ _ _ _) w W).nx (((A3 2 Aa) : DK _ _ _ _ _ _) w W).nx (((A3 3 Aa) : DK _ _ _ _ _ _) w W).nx)) fun a w F W => ?_
     refine ls F W Aa (As F Aa Aa Aa).q fun a w F W => ?_
     refine ls F W Aa (Ag F Aa).q fun a w F W => ?_
     refine Af (Ad ?_)
     have W := W.frontZ (i := 4) Aa Aa
     have W := W.frontZ (i := 5) Aa Aa
     have W := W.frontZ (i := 5) Aa Aa
     have W := W.frontZ (i := 5) Aa Aa
     have W := W.frontZ (i := 5) Aa Aa
     have W := W.frontZ (i := 5) Aa Aa
     have W := W.frontM (i := 1) Aa Aa
     have W := W.frontM (i := 1) Aa Aa
     have W := W.sub (M' := (JC b2 x2 v4 v5 v6 v7 b1 v2 v3)) (Z' := [row v4 41 Bn x2.1.1.2.1, row v5 43 Br x2.1.1.2.2, row v6 39 (Rp.slice (Rp.int .u64)) x2.1.2.1, row v7 3 (Rp.int .i64) x2.1.2.2.1, row v2 39 (Rp.slice (Rp.int .u64)) ([([4607182418800017408] : List Int)] : List (List Int)), row v3 3 (Rp.int .i64) ([0, (-4)] : List Int)]) (List.Sublist.refl _) (List.Sublist.cons_cons _ (List.Sublist.cons_cons _ (List.Sublist.cons_cons _ (List.Sublist.cons_cons _ (List.Sublist.cons_cons _ (List.Sublist.cons_cons _ (List.nil_sublist _)))))))
     exact ⟨_, H, F.re ⟨rfl, trivial⟩, W⟩
    have H := AV (BG hb) H
    rw [hb] at F
    clear hb
    iterate 3 refine B8 F Aa Aa Aa Aa Aa Aa Aa fun a F => ?_
    refine ls F W Aa (Al F Aa Aa Aa).q fun a w F W => ?_
    refine ls F W Aa (Ag F Aa).q fun a w F W => ?_
    refine Af (Ad ?_)
    have W := W.frontZ (i := 4) Aa Aa
    have W := W.frontZ (i := 5) Aa Aa
    have W := W.frontZ (i := 5) Aa Aa
    have W := W.frontZ (i := 5) Aa Aa
    have W := W.frontZ (i := 5) Aa Aa
    have W := W.frontZ (i := 5) Aa Aa
    have W := W.frontM (i := 1) Aa Aa
    have W := W.frontM (i := 1) Aa Aa
    have W := W.sub (M' := (JC b2 x2 v4 v5 v6 v7 b1 v2 v3)) (Z' := [row v4 41 Bn x2.1.1.2.1, row v5 43 Br x2.1.1.2.2, row v6 39 (Rp.slice (Rp.int .u64)) x2.1.2.1, row v7 3 (Rp.int .i64) x2.1.2.2.1, row v2 39 (Rp.slice (Rp.int .u64)) ([([4607182418800017408] : List Int)] : List (List Int)), row v3 3 (Rp.int .i64) ([0, (-4)] : List Int)]) (List.Sublist.refl _) (List.Sublist.cons_cons _ (List.Sublist.cons_cons _ (List.Sublist.cons_cons _ (List.Sublist.cons_cons _ (List.Sublist.cons_cons _ (List.Sublist.cons_cons _ (List.nil_sublist _)))))))
    exact ⟨_, H, F.re ⟨rfl, trivial⟩, W⟩
   have H := AV (BG hb) H
   rw [hb] at F
   clear hb
   iterate 2 refine B8 F Aa Aa Aa Aa Aa Aa Aa fun a F => ?_
   refine ls F W Aa (Al F Aa Aa Aa).q fun a w F W => ?_
   refine ls F W Aa (Ae F Aa).q fun a w F W => ?_
   iterate 3 refine B8 F Aa Aa Aa Aa Aa Aa Aa fun a F => ?_
   refine ls F W Aa (Al F Aa Aa Aa).q fun a w F W => ?_
   refine ls F W Aa (Ag F Aa).q fun a w F W => ?_
   refine Af (Ad ?_)
   have W := W.frontZ (i := 4) Aa Aa
   have W := W.frontZ (i := 5) Aa Aa
   have W := W.frontZ (i := 5) Aa Aa
   have W := W.frontZ (i := 5) Aa Aa
   have W := W.frontZ (i := 5) Aa Aa
   have W := W.frontZ (i := 5) Aa Aa
   have W := W.frontM (i := 1) Aa Aa
   have W := W.frontM (i := 1) Aa Aa
   have W := W.sub (M' := (JC b2 x2 v4 v5 v6 v7 b1 v2 v3)) (Z' := [row v4 41 Bn x2.1.1.2.1, row v5 43 Br x2.1.1.2.2, row v6 39 (Rp.slice (Rp.int .u64)) x2.1.2.1, row v7 3 (Rp.int .i64) x2.1.2.2.1, row v2 39 (Rp.slice (Rp.int .u64)) ([([4607182418800017408] : List Int)] : List (List Int)), row v3 3 (Rp.int .i64) ([0, (-4)] : List Int)]) (List.Sublist.refl _) (List.Sublist.cons_cons _ (List.Sublist.cons_cons _ (List.Sublist.cons_cons _ (List.Sublist.cons_cons _ (List.Sublist.cons_cons _ (List.Sublist.cons_cons _ (List.nil_sublist _)))))))
   exact ⟨_, H, F.re ⟨rfl, trivial⟩, W⟩
  have H := AV (BG hb) H
  rw [hb] at F
  clear hb
  iterate 2 refine B8 F Aa Aa Aa Aa Aa Aa Aa fun a F => ?_
  refine ls F W Aa (Al F Aa Aa Aa).q fun a w F W => ?_
  refine ls F W Aa (Ae F Aa).q fun a w F W => ?_
  iterate 2 refine B8 F Aa Aa Aa Aa Aa Aa Aa fun a F => ?_
  refine ls F W Aa (Al F Aa Aa Aa).q fun a w F W => ?_
  refine ls F W Aa (Ae F Aa).q fun a w F W => ?_
  iterate 3 refine B8 F Aa Aa Aa Aa Aa Aa Aa fun a F => ?_
  refine ls F W Aa (Al F Aa Aa Aa).q fun a w F W => ?_
  refine ls F W Aa (Ag F Aa).q fun a w F W => ?_
  refine Af (Ad ?_)
  have W := W.frontZ (i := 4) Aa Aa
  have W := W.frontZ (i := 5) Aa Aa
  have W := W.frontZ (i := 5) Aa Aa
  have W := W.frontZ (i := 5) Aa Aa
  have W := W.frontZ (i := 5) Aa Aa
  have W := W.frontZ (i := 5) Aa Aa
  have W := W.frontM (i := 1) Aa Aa
  have W := W.frontM (i := 1) Aa Aa
  have W := W.sub (M' := (JC b2 x2 v4 v5 v6 v7 b1 v2 v3)) (Z' := [row v4 41 Bn x2.1.1.2.1, row v5 43 Br x2.1.1.2.2, row v6 39 (Rp.slice (Rp.int .u64)) x2.1.2.1, row v7 3 (Rp.int .i64) x2.1.2.2.1, row v2 39 (Rp.slice (Rp.int .u64)) ([([4607182418800017408] : List Int)] : List (List Int)), row v3 3 (Rp.int .i64) ([0, (-4)] : List Int)]) (List.Sublist.refl _) (List.Sublist.cons_cons _ (List.Sublist.cons_cons _ (List.Sublist.cons_cons _ (List.Sublist.cons_cons _ (List.Sublist.cons_cons _ (List.Sublist.cons_cons _ (List.nil_sublist _)))))))
  exact ⟨_, H, F.re ⟨rfl, trivial⟩, W⟩
 rintro a w ⟨x3, hj, F, W⟩
 have hj := Ba hj
 subst hj
 have H := K1
 clear G1 K1
 refine AP ?_
 have H := Ba H
 subst H
 refine BM (.inl Aa) F W Aa (AG F Aa) ?_
 exact ⟨rfl, W.done⟩
theorem H7 : Has Tryd.prog 7 := ⟨fun args w => Am Tryd.func7 rfl (by decide) args w⟩
noncomputable def EQ (p0 : List Int) (p1 : List Int) : Int → Option (Int ⊕ (Unit ⊕ Bool))
  | x1 => (if x1 < (p0.length : Int) then (ix p0 x1).bind fun x2 => (ix p1 x1).bind fun x3 => (if x2 ≠ x3 then some (.inr (.inr false)) else some (.inl (CD (x1 + 1)))) else some (.inr (.inl ())))
noncomputable def FT (p0 : List Int) (p1 : List Int) : Option Bool := (if (p0.length : Int) ≠ (p1.length : Int) then some false else D6 (Bf (EQ p0 p1) 0) fun _ => some true)
theorem Iz (Y : Nat → Prop) (w0 : World) (v1 : Value) (v2 : Value) (p0 : List Int) (p1 : List Int) (r : Bool) (H : FT p0 p1 = some r) (h_v1 : Sl w0 (NX []) (Rp.int .i64) v1 p0) (h_v2 : Sl w0 (NX []) (Rp.int .i64) v2 p1) :
    Calls Tryd.prog 24 #[v1, v2] w0 fun e w' => e = .returned (.bool r) ∧ Below w0.heap.size w0 w' := by
 refine enter Tryd.func24 Aa Tryd.ntmps24 Aa fun a F => ?_
 have W := Stw.start Y w0
 unfold FT at H
 refine Ak (Ac ?_)
 refine ls F W Aa (Ag F Aa).q fun a w F W => ?_
 refine Af (Ad (Ak (Ak (Ac ?_))))
 refine ls F W Aa (Ae F Aa).q fun a w F W => ?_
 refine ls F W Aa (B4 (r := (Rp.int .i64)) (l := p0) Ir Aa F Aa (Ao h_v1)).q fun a w F W => ?_
 refine ls F W Aa (Ae F Aa).q fun a w F W => ?_
 refine ls F W Aa (B4 (r := (Rp.int .i64)) (l := p1) Ir Aa F Aa (Ao h_v2)).q fun a w F W => ?_
 refine ls F W Aa (Eg F Aa Aa).q fun a w F W => ?_
 refine Af (Ad ?_)
 refine AD F Aa (fun hb => ?_) fun hb => ?_
 ·
  have H := AW (BI hb) H
  rw [hb] at F
  clear hb
  refine Ak (Ac ?_)
  refine ls F W Aa (Ag F Aa).q fun a w F W => ?_
  refine Af (Ad (AP (Be ?_)))
  have H := Ba H
  subst H
  refine BM (.inl Aa) F W Aa (AG F Aa) ?_
  exact ⟨rfl, W.done⟩
 have H := AV (BG hb) H
 rw [hb] at F
 clear hb
 refine Aw (Ad ?_)
 obtain ⟨o1, G1, K1, L1⟩ := Ib H
 refine AX (fun a w => some (Sum.inl ()) = some o1 ∧ Fr 26 [] [(4, .bool false)] a ∧ Stw ⟨Y, [], w0⟩ [] [] w) ?_ ?_
 ·
  have H := G1
  clear G1 K1
  refine Ak (Ac ?_)
  refine ls F W Aa (Ag F Aa).q fun a w F W => ?_
  refine Af (Ad (AC ?_))
  refine B9 H (fun s a w => Fr 26 [] [(0, v1), (1, v2), (4, .bool false), (5, .int .i64 s)] a ∧ Stw ⟨Y, [], w0⟩ [] [] w) ⟨F.re ⟨rfl, Aa, Aa, Aa, trivial⟩, W⟩ fun s o a w H L2 hR => ?_
  obtain ⟨x1, rfl⟩ : ∃ x, x = s := ⟨s, rfl⟩
  obtain ⟨F, W⟩ := hR
  have F : Fr 26 [] [(0, v1), (1, v2), (4, .bool false), (5, .int .i64 x1)] a := F
  have W : Stw ⟨Y, [], w0⟩ [] [] w := W
  rw [EQ] at H
  refine Ak (Ak (Ac ?_))
  iterate 2 refine ls F W Aa (Ae F Aa).q fun a w F W => ?_
  refine ls F W Aa (B4 (r := (Rp.int .i64)) (l := p0) Ir Aa F Aa (Ao h_v1)).q fun a w F W => ?_
  refine ls F W Aa (Dk F Aa Aa).q fun a w F W => ?_
  refine Af (Ad ?_)
  refine AD F Aa (fun hb => ?_) fun hb => ?_
  ·
   have H := AW (BI hb) H
   rw [hb] at F
   clear hb
   refine Aw (Ad (Ak (AC (Ak ?_))))
   refine DH W MO (by kernel_rfl) ?_
   iterate 2 refine qs F Aa (Ae F Aa).q fun a F => ?_
   obtain ⟨x2, h1, H⟩ := An H
   refine qs F Aa (Bz (r := (Rp.int .i64)) GH F Aa Aa (Ao h_v1) h1).q fun a F => ?_
   refine qs F Aa (AH (y := Value.int .i64 x2) (j := 0) (i := x1) F Aa Aa (Ao h_v1) h1 Fl.int.to T3 Aa).q fun a F => ?_
   iterate 2 refine qs F Aa (Ae F Aa).q fun a F => ?_
   obtain ⟨x3, h2, H⟩ := An H
   refine qs F Aa (Bz (r := (Rp.int .i64)) GH F Aa Aa (Ao h_v2) h2).q fun a F => ?_
   refine qs F Aa (AH (y := Value.int .i64 x3) (j := 0) (i := x1) F Aa Aa (Ao h_v2) h2 Fl.int.to T3 Aa).q fun a F => ?_
   refine qs F Aa (Eg F Aa Aa).q fun a F => ?_
   refine DI fun w W => ?_
   refine Ad ?_
   refine AD F Aa (fun hb => ?_) fun hb => ?_
   ·
    have H := AW (BI hb) H
    rw [hb] at F
    clear hb
    refine Ak (Ac ?_)
    refine ls F W Aa (Ag F Aa).q fun a w F W => ?_
    refine Af (Ad (AP (Bo ?_)))
    iterate 2 refine Be ?_
    refine Bo (Be ?_)
    have H := L2 _ H
    have H := L1 _ H
    have H := Ba H
    subst H
    refine BM (.inl Aa) F W Aa (AG F Aa) ?_
    exact ⟨rfl, W.done⟩
   have H := AV (BG hb) H
   rw [hb] at F
   clear hb
   refine Aw (Bb (Ad (Ac ?_)))
   refine ls F W Aa (Ae F Aa).q fun a w F W => ?_
   refine ls F W Aa (Dj F Aa Aa Aa).q fun a w F W => ?_
   refine ls F W Aa (Ag F Aa).q fun a w F W => ?_
   refine Af (Ad ?_)
   exact ⟨_, H, F.re ⟨rfl, Aa, Aa, Aa, trivial⟩, W⟩
  have H := AV (BG hb) H
  rw [hb] at F
  clear hb
  refine BR ?_
  iterate 2 refine Cr ?_
  refine BQ (Ad ?_)
  have H := L2 _ H
  exact ⟨H, F.re ⟨rfl, trivial⟩, W⟩
 rintro a w ⟨hj, F, W⟩
 have H := K1 _ hj
 clear hj G1 K1 L1
 refine Ak (Ac ?_)
 refine ls F W Aa (Ag F Aa).q fun a w F W => ?_
 refine Af (Ad (AP ?_))
 have H := Ba H
 subst H
 refine BM (.inl Aa) F W Aa (AG F Aa) ?_
 exact ⟨rfl, W.done⟩
theorem Qb : Has Tryd.prog 24 := ⟨fun args w => Am Tryd.func24 rfl (by decide) args w⟩
def Dm (p0 : (Int × (List (Int × Int × Int × Int × Int × Int)) × (List (Int × Int))) × List (List Int) × List Int × Int × Int × Int × Int × Int × Int) : List Int := ([p0.2.2.2.1, p0.2.2.2.2.1, p0.2.2.2.2.2.1, p0.2.2.2.2.2.2.1, p0.2.2.2.2.2.2.2.1, p0.2.2.2.2.2.2.2.2] : List Int)
theorem Jh (Y : Nat → Prop) (w0 : World) (v1 : Value) (v2 : Value) (v3 : Value) (v4 : Value) (p0 : (Int × (List (Int × Int × Int × Int × Int × Int)) × (List (Int × Int))) × List (List Int) × List Int × Int × Int × Int × Int × Int × Int) (r : List Int) (H : Dm p0 = r) (h_v1 : Sl w0 (NX []) Bn v1 p0.1.2.1) (h_v2 : Sl w0 (NX []) Br v2 p0.1.2.2) (h_v3 : Sl w0 (NX []) (Rp.slice (Rp.int .u64)) v3 p0.2.1) (h_v4 : Sl w0 (NX []) (Rp.int .i64) v4 p0.2.2.1) :
    Calls Tryd.prog 25 #[.agg #[.int .i64 p0.1.1, v1, v2, v3, v4, .int .i64 p0.2.2.2.1, .int .i64 p0.2.2.2.2.1, .int .i64 p0.2.2.2.2.2.1, .int .i64 p0.2.2.2.2.2.2.1, .int .i64 p0.2.2.2.2.2.2.2.1, .int .i64 p0.2.2.2.2.2.2.2.2]] w0 fun e w' => ∃ x : Value, e = .returned (x) ∧ Stw ⟨Y, [], w0⟩ [] [row (x) 3 (Rp.int .i64) r] w' := by
 refine enter Tryd.func25 Aa Tryd.ntmps25 Aa fun a F => ?_
 have W := Stw.start Y w0
 obtain ⟨v5, h1, h_v3⟩ := h_v3.ex Eo
 unfold Dm at H
 refine Ak (Ac ?_)
 refine GU (cs := (B3 p0 v1 v2 v3 v4)) F W Aa Aa Aa fun b1 a w F W => ?_
 refine ls F W Aa (Ag F Aa).q fun a w F W => ?_
 refine Af (Ad (Ak (Ac ?_)))
 refine ls F W Aa (Ai Bw Aa Aa Aa T3 F Aa 5 Aa).q fun a w F W => ?_
 refine ls F W Aa (Az (v := Value.int .i64 p0.2.2.2.1) 0 F Aa Aa T3 Aa).q fun a w F W => ?_
 refine ls F W Aa (Ai Bw Aa Aa Aa T3 F Aa 6 Aa).q fun a w F W => ?_
 refine ls F W Aa (Az (v := Value.int .i64 p0.2.2.2.2.1) 0 F Aa Aa T3 Aa).q fun a w F W => ?_
 refine ls F W Aa (Ai Bw Aa Aa Aa T3 F Aa 7 Aa).q fun a w F W => ?_
 refine ls F W Aa (Az (v := Value.int .i64 p0.2.2.2.2.2.1) 0 F Aa Aa T3 Aa).q fun a w F W => ?_
 refine ls F W Aa (Ai Bw Aa Aa Aa T3 F Aa 8 Aa).q fun a w F W => ?_
 refine ls F W Aa (Az (v := Value.int .i64 p0.2.2.2.2.2.2.1) 0 F Aa Aa T3 Aa).q fun a w F W => ?_
 refine ls F W Aa (Ai Bw Aa Aa Aa T3 F Aa 9 Aa).q fun a w F W => ?_
 refine ls F W Aa (Az (v := Value.int .i64 p0.2.2.2.2.2.2.2.1) 0 F Aa Aa T3 Aa).q fun a w F W => ?_
 refine ls F W Aa (Ai Bw Aa Aa Aa T3 F Aa 10 Aa).q fun a w F W => ?_
 refine ls F W Aa (Az (v := Value.int .i64 p0.2.2.2.2.2.2.2.2) 0 F Aa Aa T3 Aa).q fun a w F W => ?_
 refine DS (z := Value.int .i64 0) (cs := [.int .i64 p0.2.2.2.1, .int .i64 p0.2.2.2.2.1, .int .i64 p0.2.2.2.2.2.1, .int .i64 p0.2.2.2.2.2.2.1, .int .i64 p0.2.2.2.2.2.2.2.1, .int .i64 p0.2.2.2.2.2.2.2.2]) (Rp.int .i64) ([p0.2.2.2.1, p0.2.2.2.2.1, p0.2.2.2.2.2.1, p0.2.2.2.2.2.2.1, p0.2.2.2.2.2.2.2.1, p0.2.2.2.2.2.2.2.2] : List Int) F W Aa GH Z3 Aa Aa Aa Aa Aa Aa (Fl.int.repL _ _ ([p0.2.2.2.1, p0.2.2.2.2.1, p0.2.2.2.2.2.1, p0.2.2.2.2.2.2.1, p0.2.2.2.2.2.2.2.1, p0.2.2.2.2.2.2.2.2] : List Int)) fun v6 a w F W => ?_
 refine ls F W Aa (Ag F Aa).q fun a w F W => ?_
 refine Af (Ad (AP ?_))
 subst H
 refine BM (.inl Aa) F W Aa (AG F Aa) ?_
 have W := W.sub (M' := []) (Z' := [row v6 3 (Rp.int .i64) ([p0.2.2.2.1, p0.2.2.2.2.1, p0.2.2.2.2.2.1, p0.2.2.2.2.2.2.1, p0.2.2.2.2.2.2.2.1, p0.2.2.2.2.2.2.2.2] : List Int)]) (List.nil_sublist _) (List.Sublist.refl _)
 exact ⟨(v6), Aa, W⟩
theorem P8 : Has Tryd.prog 25 := ⟨fun args w => Am Tryd.func25 rfl (by decide) args w⟩
noncomputable def EW (p0 : List Int) (p1 : List Int) : Int → Option (Int ⊕ (Unit ⊕ Bool))
  | x1 => (if x1 < (p0.length : Int) then (ix p0 x1).bind fun x2 => (ix p1 x1).bind fun x3 => (if x2 ≠ x3 then some (.inr (.inr false)) else some (.inl (CD (x1 + 1)))) else some (.inr (.inl ())))
noncomputable def Gy (p0 : List Int) (p1 : List Int) : Option Bool := (if (p0.length : Int) ≠ (p1.length : Int) then some false else D6 (Bf (EW p0 p1) 0) fun _ => some true)
theorem KP (Y : Nat → Prop) (w0 : World) (v1 : Value) (v2 : Value) (p0 : List Int) (p1 : List Int) (r : Bool) (H : Gy p0 p1 = some r) (h_v1 : Sl w0 (NX []) (Rp.int .u64) v1 p0) (h_v2 : Sl w0 (NX []) (Rp.int .u64) v2 p1) :
    Calls Tryd.prog 26 #[v1, v2] w0 fun e w' => e = .returned (.bool r) ∧ Below w0.heap.size w0 w' := by
 refine enter Tryd.func26 Aa Tryd.ntmps26 Aa fun a F => ?_
 have W := Stw.start Y w0
 unfold Gy at H
 refine Ak (Ac ?_)
 refine ls F W Aa (Ag F Aa).q fun a w F W => ?_
 refine Af (Ad (Ak (Ak (Ac ?_))))
 refine ls F W Aa (Ae F Aa).q fun a w F W => ?_
 refine ls F W Aa (B4 (r := (Rp.int .u64)) (l := p0) JU Aa F Aa (Ao h_v1)).q fun a w F W => ?_
 refine ls F W Aa (Ae F Aa).q fun a w F W => ?_
 refine ls F W Aa (B4 (r := (Rp.int .u64)) (l := p1) JU Aa F Aa (Ao h_v2)).q fun a w F W => ?_
 refine ls F W Aa (Eg F Aa Aa).q fun a w F W => ?_
 refine Af (Ad ?_)
 refine AD F Aa (fun hb => ?_) fun hb => ?_
 ·
  have H := AW (BI hb) H
  rw [hb] at F
  clear hb
  refine Ak (Ac ?_)
  refine ls F W Aa (Ag F Aa).q fun a w F W => ?_
  refine Af (Ad (AP (Be ?_)))
  have H := Ba H
  subst H
  refine BM (.inl Aa) F W Aa (AG F Aa) ?_
  exact ⟨rfl, W.done⟩
 have H := AV (BG hb) H
 rw [hb] at F
 clear hb
 refine Aw (Ad ?_)
 obtain ⟨o1, G1, K1, L1⟩ := Ib H
 refine AX (fun a w => some (Sum.inl ()) = some o1 ∧ Fr 26 [] [(4, .bool false)] a ∧ Stw ⟨Y, [], w0⟩ [] [] w) ?_ ?_
 ·
  have H := G1
  clear G1 K1
  refine Ak (Ac ?_)
  refine ls F W Aa (Ag F Aa).q fun a w F W => ?_
  refine Af (Ad (AC ?_))
  refine B9 H (fun s a w => Fr 26 [] [(0, v1), (1, v2), (4, .bool false), (5, .int .i64 s)] a ∧ Stw ⟨Y, [], w0⟩ [] [] w) ⟨F.re ⟨rfl, Aa, Aa, Aa, trivial⟩, W⟩ fun s o a w H L2 hR => ?_
  obtain ⟨x1, rfl⟩ : ∃ x, x = s := ⟨s, rfl⟩
  obtain ⟨F, W⟩ := hR
  have F : Fr 26 [] [(0, v1), (1, v2), (4, .bool false), (5, .int .i64 x1)] a := F
  have W : Stw ⟨Y, [], w0⟩ [] [] w := W
  rw [EW] at H
  refine Ak (Ak (Ac ?_))
  iterate 2 refine ls F W Aa (Ae F Aa).q fun a w F W => ?_
  refine ls F W Aa (B4 (r := (Rp.int .u64)) (l := p0) JU Aa F Aa (Ao h_v1)).q fun a w F W => ?_
  refine ls F W Aa (Dk F Aa Aa).q fun a w F W => ?_
  refine Af (Ad ?_)
  refine AD F Aa (fun hb => ?_) fun hb => ?_
  ·
   have H := AW (BI hb) H
   rw [hb] at F
   clear hb
   refine Aw (Ad (Ak (AC (Ak ?_))))
   refine DH W MO (by kernel_rfl) ?_
   iterate 2 refine qs F Aa (Ae F Aa).q fun a F => ?_
   obtain ⟨x2, h1, H⟩ := An H
   refine qs F Aa (Bz (r := (Rp.int .u64)) Oh F Aa Aa (Ao h_v1) h1).q fun a F => ?_
   refine qs F Aa (AH (y := Value.int .u64 x2) (j := 0) (i := x1) F Aa Aa (Ao h_v1) h1 Fl.int.to O9 Aa).q fun a F => ?_
   iterate 2 refine qs F Aa (Ae F Aa).q fun a F => ?_
   obtain ⟨x3, h2, H⟩ := An H
   refine qs F Aa (Bz (r := (Rp.int .u64)) Oh F Aa Aa (Ao h_v2) h2).q fun a F => ?_
   refine qs F Aa (AH (y := Value.int .u64 x3) (j := 0) (i := x1) F Aa Aa (Ao h_v2) h2 Fl.int.to O9 Aa).q fun a F => ?_
   refine qs F Aa (Eg F Aa Aa).q fun a F => ?_
   refine DI fun w W => ?_
   refine Ad ?_
   refine AD F Aa (fun hb => ?_) fun hb => ?_
   ·
    have H := AW (BI hb) H
    rw [hb] at F
    clear hb
    refine Ak (Ac ?_)
    refine ls F W Aa (Ag F Aa).q fun a w F W => ?_
    refine Af (Ad (AP (Bo ?_)))
    iterate 2 refine Be ?_
    refine Bo (Be ?_)
    have H := L2 _ H
    have H := L1 _ H
    have H := Ba H
    subst H
    refine BM (.inl Aa) F W Aa (AG F Aa) ?_
    exact ⟨rfl, W.done⟩
   have H := AV (BG hb) H
   rw [hb] at F
   clear hb
   refine Aw (Bb (Ad (Ac ?_)))
   refine ls F W Aa (Ae F Aa).q fun a w F W => ?_
   refine ls F W Aa (Dj F Aa Aa Aa).q fun a w F W => ?_
   refine ls F W Aa (Ag F Aa).q fun a w F W => ?_
   refine Af (Ad ?_)
   exact ⟨_, H, F.re ⟨rfl, Aa, Aa, Aa, trivial⟩, W⟩
  have H := AV (BG hb) H
  rw [hb] at F
  clear hb
  refine BR ?_
  iterate 2 refine Cr ?_
  refine BQ (Ad ?_)
  have H := L2 _ H
  exact ⟨H, F.re ⟨rfl, trivial⟩, W⟩
 rintro a w ⟨hj, F, W⟩
 have H := K1 _ hj
 clear hj G1 K1 L1
 refine Ak (Ac ?_)
 refine ls F W Aa (Ag F Aa).q fun a w F W => ?_
 refine Af (Ad (AP ?_))
 have H := Ba H
 subst H
 refine BM (.inl Aa) F W Aa (AG F Aa) ?_
 exact ⟨rfl, W.done⟩
end Go.Proofs.YthmkgdnnocemmaaDoor
