/- The functions of layer 26, Gx. Conditions: none. -/
import Derived.Test.YtepfcpffbabgmaaDoorcA3
namespace Go.Proofs.YtepfcpffbabgmaaDoor
open Go Go.RowKit
set_option linter.unusedVariables false
set_option linter.unusedSimpArgs false
set_option maxRecDepth 20000
theorem SM : Has Tryd.prog 18 := ⟨fun args w => Ao Tryd.func18 rfl (by decide) args w⟩
noncomputable def FE (p0 : Tr31) : Option Bool := (if p0.un.1 = 3 then (if (CE p0.un.2.1) = true then (if 0 ≤ p0.un.2.2.1 then (F0 p0.un.2.1).bind fun x2 => (if p0.un.2.2.1 ≤ x2 then some (decide ((p0.un.2.2.2.length : Int) = 0)) else some false) else some false) else some false).bind fun x1 => some x1 else (if (decide (p0.un.2.1 ≠ 0) || decide (p0.un.2.2.1 ≠ 0)) = true then some false else (if p0.un.1 = 1 then some true else some (decide (p0.un.1 = 2))).bind fun x3 => (if x3 = true then some (decide ((p0.un.2.2.2.length : Int) = 0)) else (if p0.un.1 = 4 then some (decide ((p0.un.2.2.2.length : Int) = 1)) else (if p0.un.1 = 5 then some true else some (decide (p0.un.1 = 6))).bind fun x4 => (if x4 = true then some (decide (2 ≤ (p0.un.2.2.2.length : Int)) && decide ((p0.un.2.2.2.length : Int) ≤ 8)) else some false)))))
theorem NJ (Y : Nat → Prop) (w0 : World) (v1 : Value) (p0 : Tr31) (r : Bool) (H : FE p0 = some r) (h_v1 : Sl w0 (NX []) BJ v1 p0.un.2.2.2) :
    Calls Tryd.prog 50 #[.agg #[.int .i64 p0.un.1, .int .i64 p0.un.2.1, .int .i64 p0.un.2.2.1, v1]] w0 fun e w' => e = .returned (.bool r) ∧ Below w0.heap.size w0 w' := by
 refine enter Tryd.func50 Aa Tryd.ntmps50 Aa fun a F => ?_
 have W := Stw.start Y w0
 obtain ⟨v2, h1, h_v1⟩ := h_v1.ex CB
 unfold FE at H
 refine Aj (Ae ?_)
 refine C5 (cs := [.int .i64 p0.un.1, .int .i64 p0.un.2.1, .int .i64 p0.un.2.2.1, v1]) F W Aa Aa Aa fun b1 a w F W => ?_
 refine ls F W Aa (Ah F Aa).q fun a w F W => ?_
 refine Ag (Ad (Aj (Aj (Ae ?_))))
 refine ls F W Aa (Ak CM Aa Aa Aa T3 F Aa 0 Aa).q fun a w F W => ?_
 refine ls F W Aa (Aq (v := Value.int .i64 p0.un.1) 0 F Aa Aa T3 Aa).q fun a w F W => ?_
 refine ls F W Aa (Bq F Aa Aa).q fun a w F W => ?_
 refine Ag (Ad ?_)
 refine Ay F Aa (fun hb => ?_) fun hb => ?_
 ·
  have H := AW (Bm hb) H
  rw [hb] at F
  clear hb
  obtain ⟨o1, G1, K1⟩ := Am H
  refine AO (fun a w => ∃ x1 : Bool, some (x1) = some o1 ∧ Fr 64 [] [(1, .pointer (some ⟨b1, 0, none⟩)), (2, .bool x1)] a ∧ Stw ⟨Y, [], w0⟩ [(b1, [.int .i64 p0.un.1, .int .i64 p0.un.2.1, .int .i64 p0.un.2.2.1, v1])] [] w) ?_ ?_
  ·
   have H := G1
   clear G1 K1
   refine BS W MO (by kernel_rfl) ?_
   refine qs F Aa (Ak CM Aa Aa Aa T3 F Aa 1 Aa).q fun a F => ?_
   refine qs F Aa (Aq (v := Value.int .i64 p0.un.2.1) 0 F Aa Aa T3 Aa).q fun a F => ?_
   refine qs F Aa (AU (v := Value.bool (CE p0.un.2.1)) F Su Aa (fun w W => Hp any w p0.un.2.1 _ Aa)) fun a F => ?_
   refine qs F Aa (Ai F Aa).q fun a F => ?_
   rcases Bool.eq_false_or_eq_true (CE p0.un.2.1) with hb | hb
   ·
    have H := AW hb H
    rw [hb] at F
    clear hb
    refine Bi F (Af F Aa Aa Aa Aa) Aa (An Aa) (Ak CM Aa Aa Aa T3 F Aa 2 Aa).q fun a F => ?_
    refine Bi F (Af F Aa Aa Aa Aa) Aa (An Aa) (Aq (v := Value.int .i64 p0.un.2.2.1) 0 F Aa Aa T3 Aa).q fun a F => ?_
    refine Bi F (Af F Aa Aa Aa Aa) Aa (An Aa) (D6 F Aa Aa).q fun a F => ?_
    refine qs F Aa (Au F Aa Aa Aa).q fun a F => ?_
    refine qs F Aa (Ai F Aa).q fun a F => ?_
    rcases Bool.eq_false_or_eq_true (decide (0 ≤ p0.un.2.2.1)) with hb | hb
    ·
     have H := AW (Bm hb) H
     rw [hb] at F
     clear hb
     refine Bi F (Af F Aa Aa Aa Aa) Aa (An Aa) (Ak CM Aa Aa Aa T3 F Aa 2 Aa).q fun a F => ?_
     refine Bi F (Af F Aa Aa Aa Aa) Aa (An Aa) (Aq (v := Value.int .i64 p0.un.2.2.1) 0 F Aa Aa T3 Aa).q fun a F => ?_
     refine Bi F (Af F Aa Aa Aa Aa) Aa (An Aa) (Ak CM Aa Aa Aa T3 F Aa 1 Aa).q fun a F => ?_
     refine Bi F (Af F Aa Aa Aa Aa) Aa (An Aa) (Aq (v := Value.int .i64 p0.un.2.1) 0 F Aa Aa T3 Aa).q fun a F => ?_
     obtain ⟨x2, h2, H⟩ := Am H
     refine Bi F (Af F Aa Aa Aa Aa) Aa (An Aa) (AU (v := Value.int .i64 x2) F SM Aa (fun w W => Lb any w p0.un.2.1 _ h2)) fun a F => ?_
     refine Bi F (Af F Aa Aa Aa Aa) Aa (An Aa) (F9 F Aa Aa).q fun a F => ?_
     refine qs F Aa (Au F Aa Aa Aa).q fun a F => ?_
     refine qs F Aa (Ai F Aa).q fun a F => ?_
     rcases Bool.eq_false_or_eq_true (decide (p0.un.2.2.1 ≤ x2)) with hb | hb
     ·
      have H := AW (Bm hb) H
      rw [hb] at F
      clear hb
      refine Bi F (Af F Aa Aa Aa Aa) Aa (An Aa) (Ak CM Aa Aa Aa Fp F Aa 3 Aa).q fun a F => ?_
      refine Bi F (Af F Aa Aa Aa Aa) Aa (An Aa) (Aq (v := v1) 0 F Aa Aa Fp Aa).q fun a F => ?_
      refine Bi F (Af F Aa Aa Aa Aa) Aa (An Aa) (CT (r := BJ) (l := p0.un.2.2.2) GA Aa F Aa (AP CB h1 (Av h_v1))).q fun a F => ?_
      refine Bi F (Af F Aa Aa Aa Aa) Aa (An Aa) (Bq F Aa Aa).q fun a F => ?_
      refine qs F Aa (Au F Aa Aa Aa).q fun a F => ?_
      refine qs F Aa (Ah F Aa).q fun a F => ?_
      refine A2 fun w W => ?_
      refine Ad ?_
      exact ⟨_, H, F.re ⟨rfl, Aa, trivial⟩, W⟩
     have H := AX (Bl hb) H
     rw [hb] at F
     clear hb
     iterate 4 refine Ca F (AH F Aa Aa Aa Aa Aa) Aa Aa fun a F => ?_
     refine qs F Aa (As F Aa Aa Aa).q fun a F => ?_
     refine qs F Aa (Ah F Aa).q fun a F => ?_
     refine A2 fun w W => ?_
     refine Ad ?_
     exact ⟨_, H, F.re ⟨rfl, Aa, trivial⟩, W⟩
    have H := AX (Bl hb) H
    rw [hb] at F
    clear hb
    iterate 6 refine Ca F (AH F Aa Aa Aa Aa Aa) Aa Aa fun a F => ?_
    refine qs F Aa (As F Aa Aa Aa).q fun a F => ?_
    refine qs F Aa (Ai F Aa).q fun a F => ?_
    iterate 4 refine Ca F (AH F Aa Aa Aa Aa Aa) Aa Aa fun a F => ?_
    refine qs F Aa (As F Aa Aa Aa).q fun a F => ?_
    refine qs F Aa (Ah F Aa).q fun a F => ?_
    refine A2 fun w W => ?_
    refine Ad ?_
    exact ⟨_, H, F.re ⟨rfl, Aa, trivial⟩, W⟩
   have H := AX (by rw [hb]; decide) H
   rw [hb] at F
   clear hb
   iterate 3 refine Ca F (AH F Aa Aa Aa Aa Aa) Aa Aa fun a F => ?_
   refine qs F Aa (As F Aa Aa Aa).q fun a F => ?_
   refine qs F Aa (Ai F Aa).q fun a F => ?_
   iterate 6 refine Ca F (AH F Aa Aa Aa Aa Aa) Aa Aa fun a F => ?_
   refine qs F Aa (As F Aa Aa Aa).q fun a F => ?_
   refine qs F Aa (Ai F Aa).q fun a F => ?_
   iterate 4 refine Ca F (AH F Aa Aa Aa Aa Aa) Aa Aa fun a F => ?_
   refine qs F Aa (As F Aa Aa Aa).q fun a F => ?_
   refine qs F Aa (Ah F Aa).q fun a F => ?_
   refine A2 fun w W => ?_
   refine Ad ?_
   exact ⟨_, H, F.re ⟨rfl, Aa, trivial⟩, W⟩
  rintro a w ⟨x1, hj, F, W⟩
  have hj := AM hj
  subst hj
  have H := K1
  clear G1 K1
  refine Az (AR ?_)
  have H := AM H
  subst H
  refine AQ (.inl Aa) F W Aa (AD F Aa) ?_
  exact ⟨rfl, W.done⟩
 have H := AX (Bl hb) H
 rw [hb] at F
 clear hb
 refine Aw (Ad (Aj ?_))
 refine AO (fun a w => Fr 64 [] [(1, .pointer (some ⟨b1, 0, none⟩)), (2, .bool false), (35, .bool (decide (p0.un.2.1 ≠ 0) || decide (p0.un.2.2.1 ≠ 0)))] a ∧ Stw ⟨Y, [], w0⟩ [(b1, [.int .i64 p0.un.1, .int .i64 p0.un.2.1, .int .i64 p0.un.2.2.1, v1])] [] w) ?_ ?_
 ·
  refine Ae ?_
  refine ls F W Aa (Ak CM Aa Aa Aa T3 F Aa 1 Aa).q fun a w F W => ?_
  refine ls F W Aa (Aq (v := Value.int .i64 p0.un.2.1) 0 F Aa Aa T3 Aa).q fun a w F W => ?_
  refine ls F W Aa (E7 F Aa Aa).q fun a w F W => ?_
  refine ls F W Aa (Ai F Aa).q fun a w F W => ?_
  rcases Bool.eq_false_or_eq_true (decide (p0.un.2.1 ≠ 0)) with hb0 | hb0
  ·
   rw [hb0] at F
   iterate 3 refine CD F Aa Aa Aa Aa Aa Aa Aa fun a F => ?_
   refine ls F W Aa (Au F Aa Aa Aa).q fun a w F W => ?_
   refine Ag (Ad ?_)
   exact ⟨F.re ⟨rfl, Aa, (by show some (Value.bool true) = some (Value.bool (decide (p0.un.2.1 ≠ 0) || decide (p0.un.2.2.1 ≠ 0))); try rw [hb0]; all_goals simp only [Bool.not_true, Bool.not_false, Bool.true_and, Bool.false_and, Bool.true_or, Bool.false_or, Bool.and_true, Bool.or_false, cond_true, cond_false]), trivial⟩, W⟩
  rw [hb0] at F
  refine AL F W (Af F Aa Aa Aa Aa) Aa (An Aa) (Ak CM Aa Aa Aa T3 F Aa 2 Aa).q fun a w F W => ?_
  refine AL F W (Af F Aa Aa Aa Aa) Aa (An Aa) (Aq (v := Value.int .i64 p0.un.2.2.1) 0 F Aa Aa T3 Aa).q fun a w F W => ?_
  refine AL F W (Af F Aa Aa Aa Aa) Aa (An Aa) (E7 F Aa Aa).q fun a w F W => ?_
  refine ls F W Aa (As F Aa Aa Aa).q fun a w F W => ?_
  refine Ag (Ad ?_)
  exact ⟨F.re ⟨rfl, Aa, (by show some (Value.bool (decide (p0.un.2.2.1 ≠ 0))) = some (Value.bool (decide (p0.un.2.1 ≠ 0) || decide (p0.un.2.2.1 ≠ 0))); try rw [hb0]; all_goals simp only [Bool.not_true, Bool.not_false, Bool.true_and, Bool.false_and, Bool.true_or, Bool.false_or, Bool.and_true, Bool.or_false, cond_true, cond_false]), trivial⟩, W⟩
 rintro a w ⟨F, W⟩
 refine Ay F Aa (fun hb => ?_) fun hb => ?_
 ·
  have H := AW hb H
  rw [hb] at F
  clear hb
  refine Aj (Ae ?_)
  refine ls F W Aa (Ah F Aa).q fun a w F W => ?_
  refine Ag (Ad (Az (AR ?_)))
  have H := AM H
  subst H
  refine AQ (.inl Aa) F W Aa (AD F Aa) ?_
  exact ⟨rfl, W.done⟩
 have H := AX (by rw [hb]; decide) H
 rw [hb] at F
 clear hb
 refine Aw (Ad (Aj (Aj (Ae ?_))))
 refine ls F W Aa (Ak CM Aa Aa Aa T3 F Aa 0 Aa).q fun a w F W => ?_
 refine ls F W Aa (Aq (v := Value.int .i64 p0.un.1) 0 F Aa Aa T3 Aa).q fun a w F W => ?_
 refine Ag (Ad (AA ?_))
 obtain ⟨o2, G2, K2⟩ := Am H
 refine AO (fun a w => ∃ x3 : Bool, some (x3) = some o2 ∧ Fr 64 [] [(1, .pointer (some ⟨b1, 0, none⟩)), (2, .bool false), (37, .int .i64 p0.un.1), (38, .bool x3)] a ∧ Stw ⟨Y, [], w0⟩ [(b1, [.int .i64 p0.un.1, .int .i64 p0.un.2.1, .int .i64 p0.un.2.2.1, v1])] [] w) ?_ ?_
 ·
  have H := G2
  clear G2 K2
  refine Aj (Ae ?_)
  refine ls F W Aa (Bq F Aa Aa).q fun a w F W => ?_
  refine ls F W Aa (Ah F Aa).q fun a w F W => ?_
  refine Ag (Ad ?_)
  refine Ay F Aa (fun hb => ?_) fun hb => ?_
  ·
   have H := AW (Bm hb) H
   rw [hb] at F
   clear hb
   refine Aw (Ad ?_)
   exact ⟨_, H, F.re ⟨rfl, Aa, Aa, Aa, trivial⟩, W⟩
  have H := AX (Bl hb) H
  rw [hb] at F
  clear hb
  refine Ae ?_
  refine ls F W Aa (Bq F Aa Aa).q fun a w F W => ?_
  refine ls F W Aa (Ah F Aa).q fun a w F W => ?_
  refine Ag (Ad ?_)
  exact ⟨_, H, F.re ⟨rfl, Aa, Aa, Aa, trivial⟩, W⟩
 rintro a w ⟨x3, hj, F, W⟩
 have hj := AM hj
 subst hj
 have H := K2
 clear G2 K2
 refine Ay F Aa (fun hb => ?_) fun hb => ?_
 ·
  have H := AW hb H
  rw [hb] at F
  clear hb
  refine Aj (Ae ?_)
  refine ls F W Aa (Ak CM Aa Aa Aa Fp F Aa 3 Aa).q fun a w F W => ?_
  refine ls F W Aa (Aq (v := v1) 0 F Aa Aa Fp Aa).q fun a w F W => ?_
  refine ls F W Aa (CT (r := BJ) (l := p0.un.2.2.2) GA Aa F Aa (AP CB h1 (Av h_v1))).q fun a w F W => ?_
  refine ls F W Aa (Bq F Aa Aa).q fun a w F W => ?_
  refine ls F W Aa (Ah F Aa).q fun a w F W => ?_
  refine Ag (Ad (Az (Bk (AR ?_))))
  have H := AM H
  subst H
  refine AQ (.inl Aa) F W Aa (AD F Aa) ?_
  exact ⟨rfl, W.done⟩
 have H := AX (by rw [hb]; decide) H
 rw [hb] at F
 clear hb
 refine Aj (Ae ?_)
 refine ls F W Aa (Bq F Aa Aa).q fun a w F W => ?_
 refine ls F W Aa (Ah F Aa).q fun a w F W => ?_
 refine Ag (Ad ?_)
 refine Ay F Aa (fun hb => ?_) fun hb => ?_
 ·
  have H := AW (Bm hb) H
  rw [hb] at F
  clear hb
  refine Aj (Ae ?_)
  refine ls F W Aa (Ak CM Aa Aa Aa Fp F Aa 3 Aa).q fun a w F W => ?_
  refine ls F W Aa (Aq (v := v1) 0 F Aa Aa Fp Aa).q fun a w F W => ?_
  refine ls F W Aa (CT (r := BJ) (l := p0.un.2.2.2) GA Aa F Aa (AP CB h1 (Av h_v1))).q fun a w F W => ?_
  refine ls F W Aa (Bq F Aa Aa).q fun a w F W => ?_
  refine ls F W Aa (Ah F Aa).q fun a w F W => ?_
  refine Ag (Ad (Az (Bk (AR ?_))))
  have H := AM H
  subst H
  refine AQ (.inl Aa) F W Aa (AD F Aa) ?_
  exact ⟨rfl, W.done⟩
 have H := AX (Bl hb) H
 rw [hb] at F
 clear hb
 obtain ⟨o3, G3, K3⟩ := Am H
 refine AO (fun a w => ∃ x4 : Bool, some (x4) = some o3 ∧ Fr 64 [] [(1, .pointer (some ⟨b1, 0, none⟩)), (2, .bool false), (51, .bool x4)] a ∧ Stw ⟨Y, [], w0⟩ [(b1, [.int .i64 p0.un.1, .int .i64 p0.un.2.1, .int .i64 p0.un.2.2.1, v1])] [] w) ?_ ?_
 ·
  have H := G3
  clear G3 K3
  refine Aj (Ae ?_)
  refine ls F W Aa (Bq F Aa Aa).q fun a w F W => ?_
  refine ls F W Aa (Ah F Aa).q fun a w F W => ?_
  refine Ag (Ad ?_)
  refine Ay F Aa (fun hb => ?_) fun hb => ?_
  ·
   have H := AW (Bm hb) H
   rw [hb] at F
   clear hb
   refine Aw (Ad ?_)
   exact ⟨_, H, F.re ⟨rfl, Aa, Aa, trivial⟩, W⟩
  have H := AX (Bl hb) H
  rw [hb] at F
  clear hb
  refine Ae ?_
  refine ls F W Aa (Bq F Aa Aa).q fun a w F W => ?_
  refine ls F W Aa (Ah F Aa).q fun a w F W => ?_
  refine Ag (Ad ?_)
  exact ⟨_, H, F.re ⟨rfl, Aa, Aa, trivial⟩, W⟩
 rintro a w ⟨x4, hj, F, W⟩
 have hj := AM hj
 subst hj
 have H := K3
 clear G3 K3
 refine Ay F Aa (fun hb => ?_) fun hb => ?_
 ·
  have H := AW hb H
  rw [hb] at F
  clear hb
  refine AO (fun a w => Fr 64 [] [(2, .bool (decide (2 ≤ (p0.un.2.2.2.length : Int)) && decide ((p0.un.2.2.2.length : Int) ≤ 8)))] a ∧ Stw ⟨Y, [], w0⟩ [(b1, [.int .i64 p0.un.1, .int .i64 p0.un.2.1, .int .i64 p0.un.2.2.1, v1])] [] w) ?_ ?_
  ·
   refine Ae ?_
   refine ls F W Aa (Ak CM Aa Aa Aa Fp F Aa 3 Aa).q fun a w F W => ?_
   refine ls F W Aa (Aq (v := v1) 0 F Aa Aa Fp Aa).q fun a w F W => ?_
   refine ls F W Aa (CT (r := BJ) (l := p0.un.2.2.2) GA Aa F Aa (AP CB h1 (Av h_v1))).q fun a w F W => ?_
   refine ls F W Aa (D6 F Aa Aa).q fun a w F W => ?_
   refine ls F W Aa (Ai F Aa).q fun a w F W => ?_
   rcases Bool.eq_false_or_eq_true (decide (2 ≤ (p0.un.2.2.2.length : Int))) with hb0 | hb0
   ·
    rw [hb0] at F
    refine AL F W (Af F Aa Aa Aa Aa) Aa (An Aa) (Ak CM Aa Aa Aa Fp F Aa 3 Aa).q fun a w F W => ?_
    refine AL F W (Af F Aa Aa Aa Aa) Aa (An Aa) (Aq (v := v1) 0 F Aa Aa Fp Aa).q fun a w F W => ?_
    refine AL F W (Af F Aa Aa Aa Aa) Aa (An Aa) (CT (r := BJ) (l := p0.un.2.2.2) GA Aa F Aa (AP CB h1 (Av h_v1))).q fun a w F W => ?_
    refine AL F W (Af F Aa Aa Aa Aa) Aa (An Aa) (F9 F Aa Aa).q fun a w F W => ?_
    refine ls F W Aa (Au F Aa Aa Aa).q fun a w F W => ?_
    refine ls F W Aa (Ah F Aa).q fun a w F W => ?_
    refine Ag (Ad ?_)
    exact ⟨F.re ⟨(by show some (Value.bool (decide ((p0.un.2.2.2.length : Int) ≤ 8))) = some (Value.bool (decide (2 ≤ (p0.un.2.2.2.length : Int)) && decide ((p0.un.2.2.2.length : Int) ≤ 8))); try rw [hb0]; all_goals simp only [Bool.not_true, Bool.not_false, Bool.true_and, Bool.false_and, Bool.true_or, Bool.false_or, Bool.and_true, Bool.or_false, cond_true, cond_false]), trivial⟩, W⟩
   rw [hb0] at F
   iterate 4 refine CD F Aa Aa Aa Aa Aa Aa Aa fun a F => ?_
   refine ls F W Aa (As F Aa Aa Aa).q fun a w F W => ?_
   refine ls F W Aa (Ah F Aa).q fun a w F W => ?_
   refine Ag (Ad ?_)
   exact ⟨F.re ⟨(by show some (Value.bool false) = some (Value.bool (decide (2 ≤ (p0.un.2.2.2.length : Int)) && decide ((p0.un.2.2.2.length : Int) ≤ 8))); try rw [hb0]; all_goals simp only [Bool.not_true, Bool.not_false, Bool.true_and, Bool.false_and, Bool.true_or, Bool.false_or, Bool.and_true, Bool.or_false, cond_true, cond_false]), trivial⟩, W⟩
  rintro a w ⟨F, W⟩
  refine Az (Bk (AR ?_))
  have H := AM H
  subst H
  refine AQ (.inl Aa) F W Aa (AD F Aa) ?_
  exact ⟨rfl, W.done⟩
 have H := AX (by rw [hb]; decide) H
 rw [hb] at F
 clear hb
 refine Aw (A8 (Ad (Aj (Ae ?_))))
 refine ls F W Aa (Ah F Aa).q fun a w F W => ?_
 refine Ag (Ad (Az ?_))
 have H := AM H
 subst H
 refine AQ (.inl Aa) F W Aa (AD F Aa) ?_
 exact ⟨rfl, W.done⟩
theorem Tq : Has Tryd.prog 50 := ⟨fun args w => Ao Tryd.func50 rfl (by decide) args w⟩
theorem SI : Has Tryd.prog 31 := ⟨fun args w => Ao Tryd.func31 rfl (by decide) args w⟩
noncomputable def Bj (fRec : Int → Tr31 → Int → Option (Bool × Int)) (p1 : Tr31) (p2 : Int) : (Int × Int) → Option ((Int × Int) ⊕ (Int ⊕ (Bool × Int)))
  | (x4, x5) => (if x4 < (p1.un.2.2.2.length : Int) then (ix p1.un.2.2.2 x4).bind fun x6 => (fRec x5 x6 (A1 (p2 - 1))).bind fun x7 => (if (!x7.1) = true then some (.inr (.inr (false, x7.2))) else some (.inl (A1 (x4 + 1), x7.2))) else some (.inr (.inl x5)))
noncomputable def BP (fRec : Int → Tr31 → Int → Option (Bool × Int)) (p0 : Int) (p1 : Tr31) (p2 : Int) : Option (Bool × Int) := (if (A1 (p0 - 1)) < 0 then some true else (if p2 < 1 then some true else (FE p1).bind fun x2 => some (!x2))).bind fun x1 => (if x1 = true then some (false, A1 (p0 - 1)) else IX (A3 (Bj fRec p1 p2) (0, A1 (p0 - 1))) fun x3 => some (true, x3))
noncomputable def Bb : Nat → Int → Tr31 → Int → Option (Bool × Int)
  | 0 => fun _ _ _ => none
  | n + 1 => BP (Bb n)
noncomputable def DI (p0 : Int) (p1 : Tr31) (p2 : Int) : Option (Bool × Int) := Fx fun n => Bb n p0 p1 p2
theorem Hf (fRec : Int → Tr31 → Int → Option (Bool × Int)) (ih : ∀ (Y : Nat → Prop) (X : List Nat) (w0 : World) (q_p0 : Nat) (v1 : Value) (p0 : Int) (p1 : Tr31) (p2 : Int) (r : Bool × Int) (H : fRec p0 p1 p2 = some r) (h_v1 : Sl w0 (NX X) BJ v1 p1.un.2.2.2) (hL : Stw ⟨Y, X, w0⟩ [(q_p0, [.int .i64 p0])] [] w0), Calls Tryd.prog 31 #[.pointer (some ⟨q_p0, 0, none⟩), .agg #[.int .i64 p1.un.1, .int .i64 p1.un.2.1, .int .i64 p1.un.2.2.1, v1], .int .i64 p2] w0 fun e w' => ∃ x : Unit, e = .returned (.bool r.1) ∧ Stw ⟨Y, X, w0⟩ [(q_p0, [.int .i64 r.2])] [] w') (Y : Nat → Prop) (X : List Nat) (w0 : World) (q_p0 : Nat) (v1 : Value) (p0 : Int) (p1 : Tr31) (p2 : Int) (r : Bool × Int) (H : BP fRec p0 p1 p2 = some r) (h_v1 : Sl w0 (NX X) BJ v1 p1.un.2.2.2) (hL : Stw ⟨Y, X, w0⟩ [(q_p0, [.int .i64 p0])] [] w0) :
    Calls Tryd.prog 31 #[.pointer (some ⟨q_p0, 0, none⟩), .agg #[.int .i64 p1.un.1, .int .i64 p1.un.2.1, .int .i64 p1.un.2.2.1, v1], .int .i64 p2] w0 fun e w' => ∃ x : Unit, e = .returned (.bool r.1) ∧ Stw ⟨Y, X, w0⟩ [(q_p0, [.int .i64 r.2])] [] w' := by
 refine enter Tryd.func31 Aa Tryd.ntmps31 Aa fun a F => ?_
 have W := hL
 obtain ⟨v2, h1, h_v1⟩ := h_v1.ex CB
 unfold BP at H
 refine Aj (Ae ?_)
 refine C5 (cs := [.int .i64 p1.un.1, .int .i64 p1.un.2.1, .int .i64 p1.un.2.2.1, v1]) F W Aa Aa Aa fun b1 a w F W => ?_
 refine ls F W Aa (Ah F Aa).q fun a w F W => ?_
 refine Ag (Ad (Aj (Ae ?_)))
 refine ls F W Aa (Ai F Aa).q fun a w F W => ?_
 refine ls F W Aa (CU F Aa).q fun a w F W => ?_
 refine ls F W Aa (Ak QV Aa Aa Aa T3 F Aa 0 Aa).q fun a w F W => ?_
 refine ls F W Aa (Aq (v := Value.int .i64 p0) 1 F Aa Aa T3 Aa).q fun a w F W => ?_
 refine ls F W Aa (Cn F Aa Aa Aa).q fun a w F W => ?_
 refine ls F W Aa (CU F Aa).q fun a w F W => ?_
 refine ls F W Aa (Ak QV Aa Aa Aa T3 F Aa 0 Aa).q fun a w F W => ?_
 refine BN (vs := [.int .i64 (A1 (p0 - 1))]) (M' := [(b1, [.int .i64 p1.un.1, .int .i64 p1.un.2.1, .int .i64 p1.un.2.2.1, v1]), (q_p0, [.int .i64 (A1 (p0 - 1))])]) 1 F W Aa Aa Aa T3 Aa Aa Aa Aa Aa fun w W => ?_
 refine Ag (Ad (Aj ?_))
 obtain ⟨o1, G1, K1⟩ := Am H
 refine AO (fun a w => ∃ x1 : Bool, some (x1) = some o1 ∧ Fr 44 [] [(0, .pointer (some ⟨q_p0, 0, none⟩)), (2, .int .i64 p2), (4, .pointer (some ⟨b1, 0, none⟩)), (6, .bool false), (29, .bool x1)] a ∧ Stw ⟨Y, X, w0⟩ [(b1, [.int .i64 p1.un.1, .int .i64 p1.un.2.1, .int .i64 p1.un.2.2.1, v1]), (q_p0, [.int .i64 (A1 (p0 - 1))])] [] w) ?_ ?_
 ·
  have H := G1
  clear G1 K1
  refine Ae ?_
  refine ls F W Aa (Ai F Aa).q fun a w F W => ?_
  refine ls F W Aa (CU F Aa).q fun a w F W => ?_
  refine ls F W Aa (Ak QV Aa Aa Aa T3 F Aa 0 Aa).q fun a w F W => ?_
  refine ls F W Aa (Aq (v := Value.int .i64 (A1 (p0 - 1))) 1 F Aa Aa T3 Aa).q fun a w F W => ?_
  refine ls F W Aa (Cy F Aa Aa).q fun a w F W => ?_
  refine ls F W Aa (Ai F Aa).q fun a w F W => ?_
  rcases Bool.eq_false_or_eq_true (decide ((A1 (p0 - 1)) < 0)) with hb | hb
  ·
   have H := AW (Bm hb) H
   rw [hb] at F
   clear hb
   iterate 2 refine CD F Aa Aa Aa Aa Aa Aa Aa fun a F => ?_
   refine ls F W Aa (Au F Aa Aa Aa).q fun a w F W => ?_
   refine ls F W Aa (Ai F Aa).q fun a w F W => ?_
   iterate 3 refine CD F Aa Aa Aa Aa Aa Aa Aa fun a F => ?_
   refine ls F W Aa (Au F Aa Aa Aa).q fun a w F W => ?_
   refine Ag (Ad ?_)
   have W := W.frontM (i := 1) Aa Aa
   have W := W.frontM (i := 1) Aa Aa
   exact ⟨_, H, F.re ⟨rfl, Aa, Aa, Aa, Aa, trivial⟩, W⟩
  have H := AX (Bl hb) H
  rw [hb] at F
  clear hb
  refine AL F W (Af F Aa Aa Aa Aa) Aa (An Aa) (Ai F Aa).q fun a w F W => ?_
  refine AL F W (Af F Aa Aa Aa Aa) Aa (An Aa) (Cy F Aa Aa).q fun a w F W => ?_
  refine ls F W Aa (As F Aa Aa Aa).q fun a w F W => ?_
  refine ls F W Aa (Ai F Aa).q fun a w F W => ?_
  rcases Bool.eq_false_or_eq_true (decide (p2 < 1)) with hb | hb
  ·
   have H := AW (Bm hb) H
   rw [hb] at F
   clear hb
   iterate 3 refine CD F Aa Aa Aa Aa Aa Aa Aa fun a F => ?_
   refine ls F W Aa (Au F Aa Aa Aa).q fun a w F W => ?_
   refine Ag (Ad ?_)
   have W := W.frontM (i := 1) Aa Aa
   have W := W.frontM (i := 1) Aa Aa
   exact ⟨_, H, F.re ⟨rfl, Aa, Aa, Aa, Aa, trivial⟩, W⟩
  have H := AX (Bl hb) H
  rw [hb] at F
  clear hb
  refine AL F W (Af F Aa Aa Aa Aa) Aa (An Aa) (Aq (v := Value.agg #[.int .i64 p1.un.1, .int .i64 p1.un.2.1, .int .i64 p1.un.2.2.1, v1]) 0 F Aa Aa EA Aa).q fun a w F W => ?_
  refine Fv (Af F Aa Aa Aa Aa) ?_
  obtain ⟨x2, h2, H⟩ := Am H
  refine ls F W Aa (AU (v := Value.bool x2) F Tq Aa (fun w W => NJ any w (v1) p1 _ h2 (((AP CB h1 (Av h_v1)) : EC _ _ _ _ _ _) w W).nx)) fun a w F W => ?_
  refine AL F W (Af F Aa Aa Aa Aa) Aa (An Aa) (ET F Aa).q fun a w F W => ?_
  refine ls F W Aa (As F Aa Aa Aa).q fun a w F W => ?_
  refine Ag (Ad ?_)
  have W := W.frontM (i := 1) Aa Aa
  have W := W.frontM (i := 1) Aa Aa
  exact ⟨_, H, F.re ⟨rfl, Aa, Aa, Aa, Aa, trivial⟩, W⟩
 rintro a w ⟨x1, hj, F, W⟩
 have hj := AM hj
 subst hj
 have H := K1
 clear G1 K1
 refine Ay F Aa (fun hb => ?_) fun hb => ?_
 ·
  have H := AW hb H
  rw [hb] at F
  clear hb
  refine Aj (Ae ?_)
  refine ls F W Aa (Ah F Aa).q fun a w F W => ?_
  refine Ag (Ad (Az (AR ?_)))
  have H := AM H
  subst H
  refine AQ (.inl Aa) F W Aa (AD F Aa) ?_
  have W := W.frontM (i := 1) Aa Aa
  have W := W.sub (M' := [(q_p0, [.int .i64 (A1 (p0 - 1))])]) (Z' := []) (List.Sublist.cons_cons _ (List.nil_sublist _)) (List.Sublist.refl _)
  exact ⟨(), Aa, W⟩
 have H := AX (by rw [hb]; decide) H
 rw [hb] at F
 clear hb
 refine Aw (Ad ?_)
 obtain ⟨o2, G2, K2, L2⟩ := OP H
 refine AO (fun a w => ∃ x3 : Int, some (Sum.inl x3) = some o2 ∧ Fr 44 [] [(6, .bool false)] a ∧ Stw ⟨Y, X, w0⟩ [(b1, [.int .i64 p1.un.1, .int .i64 p1.un.2.1, .int .i64 p1.un.2.2.1, v1]), (q_p0, [.int .i64 x3])] [] w) ?_ ?_
 ·
  have H := G2
  clear G2 K2
  refine Aj (Ae ?_)
  refine ls F W Aa (Ak CM Aa Aa Aa Fp F Aa 3 Aa).q fun a w F W => ?_
  refine ls F W Aa (Aq (v := v1) 0 F Aa Aa Fp Aa).q fun a w F W => ?_
  refine ls F W Aa (CT (r := BJ) (l := p1.un.2.2.2) GA Aa F Aa (AP CB h1 (Av h_v1))).q fun a w F W => ?_
  refine ls F W Aa (Ai F Aa).q fun a w F W => ?_
  refine Ag (Ad (AA ?_))
  have W := W.frontM (i := 1) Aa Aa
  have W := W.frontM (i := 1) Aa Aa
  refine BI H (fun s a w => Fr 44 [] [(0, .pointer (some ⟨q_p0, 0, none⟩)), (2, .int .i64 p2), (6, .bool false), (31, v1), (32, .int .i64 (p1.un.2.2.2.length : Int)), (33, .int .i64 s.1)] a ∧ Stw ⟨Y, X, w0⟩ [(b1, [.int .i64 p1.un.1, .int .i64 p1.un.2.1, .int .i64 p1.un.2.2.1, v1]), (q_p0, [.int .i64 s.2])] [] w) ⟨F.re ⟨rfl, Aa, Aa, Aa, Aa, Aa, trivial⟩, W⟩ fun s o a w H L3 hR => ?_
  obtain ⟨x4, x5⟩ := s
  obtain ⟨F, W⟩ := hR
  have F : Fr 44 [] [(0, .pointer (some ⟨q_p0, 0, none⟩)), (2, .int .i64 p2), (6, .bool false), (31, v1), (32, .int .i64 (p1.un.2.2.2.length : Int)), (33, .int .i64 x4)] a := F
  have W : Stw ⟨Y, X, w0⟩ [(b1, [.int .i64 p1.un.1, .int .i64 p1.un.2.1, .int .i64 p1.un.2.2.1, v1]), (q_p0, [.int .i64 x5])] [] w := W
  rw [Bj] at H
  refine Aj (Ae ?_)
  refine ls F W Aa (Cy F Aa Aa).q fun a w F W => ?_
  refine Ag (Ad (Aj ?_))
  refine Ay F Aa (fun hb => ?_) fun hb => ?_
  ·
   have H := AW (Bm hb) H
   rw [hb] at F
   clear hb
   refine Aw (Ad (Aj (AA (Aj (Ae ?_)))))
   obtain ⟨x6, h3, H⟩ := Am H
   obtain ⟨v3, h4, h5⟩ := DL h1 h3
   have h6 : Fd v3 = [.int .i64 x6.un.1, .int .i64 x6.un.2.1, .int .i64 x6.un.2.2.1, (v3.2.2.2.1)] := congrArg (fun q : Tr31 => ([.int .i64 q.un.1, .int .i64 q.un.2.1, .int .i64 q.un.2.2.1, (v3.2.2.2.1)] : List Value)) h5
   refine ls F W Aa (AG (r := Gm) Ke F Aa Aa (Av h_v1) h4).q fun a w F W => ?_
   refine ls F W Aa (Ax (y := Value.agg #[.int .i64 x6.un.1, .int .i64 x6.un.2.1, .int .i64 x6.un.2.2.1, (v3.2.2.2.1)]) (j := 0) (i := x4) (enc := Fd) F Aa Aa (Av h_v1) h4 IH EA (by rw [h6]; rfl)).q fun a w F W => ?_
   refine CK (cs := [.int .i64 0, .int .i64 0, .int .i64 0, .slice none 0 0]) F W Aa KD Aa fun b2 a w F W => ?_
   refine BN (vs := [.int .i64 x6.un.1, .int .i64 x6.un.2.1, .int .i64 x6.un.2.2.1, (v3.2.2.2.1)]) (M' := [(b2, [.int .i64 x6.un.1, .int .i64 x6.un.2.1, .int .i64 x6.un.2.2.1, (v3.2.2.2.1)]), (b1, [.int .i64 p1.un.1, .int .i64 p1.un.2.1, .int .i64 p1.un.2.2.1, v1]), (q_p0, [.int .i64 x5])]) 0 F W Aa Aa Aa EA Aa Aa Aa (AB Aa (AB Aa (AB Aa (AB ((CG (Av h_v1) h4 (A5.snd (A5.snd (A5.snd A5.here))) (congrArg (fun q : Tr31 => q.un.2.2.2) h5)) _ W).one CZ)))) Aa fun w W => ?_
   refine Ag (Ad (Aj (Ae ?_)))
   refine ls F W Aa (Ai F Aa).q fun a w F W => ?_
   refine ls F W Aa (Aq (v := Value.agg #[.int .i64 x6.un.1, .int .i64 x6.un.2.1, .int .i64 x6.un.2.2.1, (v3.2.2.2.1)]) 0 F Aa Aa EA Aa).q fun a w F W => ?_
   refine ls F W Aa (Ai F Aa).q fun a w F W => ?_
   refine ls F W Aa (Cn F Aa Aa Aa).q fun a w F W => ?_
   obtain ⟨x7, h7, H⟩ := Am H
   have W := W.frontM (i := 2) Aa Aa
   refine BD (Ml := [(q_p0, [.int .i64 x5])]) (Zl := []) (M := [(b2, [.int .i64 x6.un.1, .int .i64 x6.un.2.1, .int .i64 x6.un.2.2.1, (v3.2.2.2.1)]), (b1, [.int .i64 p1.un.1, .int .i64 p1.un.2.1, .int .i64 p1.un.2.2.1, v1])]) (Z := []) (β := Unit) (rv := fun x => .bool x7.1) (MM := fun x => [(q_p0, [.int .i64 x7.2])]) (ZZ := fun x => []) F W SI Aa Aa (fun hL => ih _ _ w q_p0 ((v3.2.2.2.1)) x5 x6 (A1 (p2 - 1)) _ h7 (Sl.at_ (W.roX h_v1 (fun g hg => FM hg)) h4 (A5.snd (A5.snd (A5.snd A5.here))) (congrArg (fun q : Tr31 => q.un.2.2.2) h5)) hL) fun x a w F W => ?_
   have W : Stw ⟨Y, X, w0⟩ [(q_p0, [.int .i64 x7.2]), (b2, [.int .i64 x6.un.1, .int .i64 x6.un.2.1, .int .i64 x6.un.2.2.1, (v3.2.2.2.1)]), (b1, [.int .i64 p1.un.1, .int .i64 p1.un.2.1, .int .i64 p1.un.2.2.1, v1])] [] w := W
   refine ls F W Aa (ET F Aa).q fun a w F W => ?_
   refine Ag (Ad ?_)
   refine Ay F Aa (fun hb => ?_) fun hb => ?_
   ·
    have H := AW hb H
    rw [hb] at F
    clear hb
    refine Aj (Ae ?_)
    refine ls F W Aa (Ah F Aa).q fun a w F W => ?_
    refine Ag (Ad (Az (Bk ?_)))
    iterate 2 refine AR ?_
    refine Bk (AR ?_)
    have H := L3 _ H
    have H := L2 _ H
    have H := AM H
    subst H
    refine AQ (.inl Aa) F W Aa (AD F Aa) ?_
    have W := W.sub (M' := [(q_p0, [.int .i64 x7.2])]) (Z' := []) (List.Sublist.cons_cons _ (List.nil_sublist _)) (List.Sublist.refl _)
    exact ⟨(), Aa, W⟩
   have H := AX (by rw [hb]; decide) H
   rw [hb] at F
   clear hb
   refine Aw (A8 (Ad (Ae ?_)))
   refine ls F W Aa (BC F Aa Aa Aa).q fun a w F W => ?_
   refine ls F W Aa (Ai F Aa).q fun a w F W => ?_
   refine Ag (Ad ?_)
   have W := W.frontM (i := 2) Aa Aa
   have W := W.sub (M' := [(b1, [.int .i64 p1.un.1, .int .i64 p1.un.2.1, .int .i64 p1.un.2.2.1, v1]), (q_p0, [.int .i64 x7.2])]) (Z' := []) (List.Sublist.cons_cons _ (List.Sublist.cons_cons _ (List.nil_sublist _))) (List.Sublist.refl _)
   exact ⟨_, H, F.re ⟨rfl, Aa, Aa, Aa, Aa, Aa, trivial⟩, W⟩
  have H := AX (Bl hb) H
  rw [hb] at F
  clear hb
  refine Bx ?_
  iterate 2 refine BO ?_
  refine Bz (Ad ?_)
  have W := W.frontM (i := 1) Aa Aa
  have W := W.frontM (i := 1) Aa Aa
  have H := L3 _ H
  exact ⟨_, H, F.re ⟨rfl, trivial⟩, W⟩
 rintro a w ⟨x3, hj, F, W⟩
 have H := K2 _ hj
 clear hj G2 K2 L2
 refine Aj (Ae ?_)
 refine ls F W Aa (Ah F Aa).q fun a w F W => ?_
 refine Ag (Ad (Az ?_))
 have H := AM H
 subst H
 refine AQ (.inl Aa) F W Aa (AD F Aa) ?_
 have W := W.frontM (i := 1) Aa Aa
 have W := W.sub (M' := [(q_p0, [.int .i64 x3])]) (Z' := []) (List.Sublist.cons_cons _ (List.nil_sublist _)) (List.Sublist.refl _)
 exact ⟨(), Aa, W⟩
theorem Hy : ∀ (n : Nat) (Y : Nat → Prop) (X : List Nat) (w0 : World) (q_p0 : Nat) (v1 : Value) (p0 : Int) (p1 : Tr31) (p2 : Int) (r : Bool × Int) (H : Bb n p0 p1 p2 = some r) (h_v1 : Sl w0 (NX X) BJ v1 p1.un.2.2.2) (hL : Stw ⟨Y, X, w0⟩ [(q_p0, [.int .i64 p0])] [] w0), Calls Tryd.prog 31 #[.pointer (some ⟨q_p0, 0, none⟩), .agg #[.int .i64 p1.un.1, .int .i64 p1.un.2.1, .int .i64 p1.un.2.2.1, v1], .int .i64 p2] w0 fun e w' => ∃ x : Unit, e = .returned (.bool r.1) ∧ Stw ⟨Y, X, w0⟩ [(q_p0, [.int .i64 r.2])] [] w' := by
  intro n
  induction n with
  | zero => intro Y X w0 q_p0 v1 p0 p1 p2 r H; exact nomatch H
  | succ n ih => intro Y X w0 q_p0 v1 p0 p1 p2 r H h_v1 hL; exact Hf (Bb n) ih Y X w0 q_p0 v1 p0 p1 p2 r H h_v1 hL
theorem H1 (Y : Nat → Prop) (X : List Nat) (w0 : World) (q_p0 : Nat) (v1 : Value) (p0 : Int) (p1 : Tr31) (p2 : Int) (r : Bool × Int) (H : DI p0 p1 p2 = some r) (h_v1 : Sl w0 (NX X) BJ v1 p1.un.2.2.2) (hL : Stw ⟨Y, X, w0⟩ [(q_p0, [.int .i64 p0])] [] w0) :
    Calls Tryd.prog 31 #[.pointer (some ⟨q_p0, 0, none⟩), .agg #[.int .i64 p1.un.1, .int .i64 p1.un.2.1, .int .i64 p1.un.2.2.1, v1], .int .i64 p2] w0 fun e w' => ∃ x : Unit, e = .returned (.bool r.1) ∧ Stw ⟨Y, X, w0⟩ [(q_p0, [.int .i64 r.2])] [] w' := by
  obtain ⟨n, H⟩ := Cs H
  exact Hy n Y X w0 q_p0 v1 p0 p1 p2 r H h_v1 hL
noncomputable def EV (p0 : Tr31) : Option Bool := (DI 64 p0 8).bind fun x1 => some x1.1
theorem IZ (Y : Nat → Prop) (w0 : World) (v1 : Value) (p0 : Tr31) (r : Bool) (H : EV p0 = some r) (h_v1 : Sl w0 (NX []) BJ v1 p0.un.2.2.2) :
    Calls Tryd.prog 8 #[.agg #[.int .i64 p0.un.1, .int .i64 p0.un.2.1, .int .i64 p0.un.2.2.1, v1]] w0 fun e w' => e = .returned (.bool r) ∧ Below w0.heap.size w0 w' := by
 refine enter Tryd.func8 Aa Tryd.ntmps8 Aa fun a F => ?_
 have W := Stw.start Y w0
 obtain ⟨v2, h1, h_v1⟩ := h_v1.ex CB
 unfold EV at H
 refine Aj (Ae ?_)
 refine C5 (cs := [.int .i64 p0.un.1, .int .i64 p0.un.2.1, .int .i64 p0.un.2.2.1, v1]) F W Aa Aa Aa fun b1 a w F W => ?_
 refine ls F W Aa (Ah F Aa).q fun a w F W => ?_
 refine Ag (Ad (Aj (Ae ?_)))
 refine ls F W Aa (DQ (v := Value.agg #[.int .i64 64]) Tn F Aa Aa Aa).q fun a w F W => ?_
 refine CK (cs := [.int .i64 0]) F W Aa Tt Aa fun b2 a w F W => ?_
 refine BN (vs := [.int .i64 64]) (M' := [(b2, [.int .i64 64]), (b1, [.int .i64 p0.un.1, .int .i64 p0.un.2.1, .int .i64 p0.un.2.2.1, v1])]) 0 F W Aa Aa Aa Ta Aa Aa Aa Aa Aa fun w W => ?_
 refine Ag (Ad (Aj (Ae ?_)))
 refine ls F W Aa (Aq (v := Value.agg #[.int .i64 p0.un.1, .int .i64 p0.un.2.1, .int .i64 p0.un.2.2.1, v1]) 1 F Aa Aa EA Aa).q fun a w F W => ?_
 obtain ⟨x1, h2, H⟩ := Am H
 refine BD (Ml := [(b2, [.int .i64 64])]) (Zl := []) (M := [(b1, [.int .i64 p0.un.1, .int .i64 p0.un.2.1, .int .i64 p0.un.2.2.1, v1])]) (Z := []) (β := Unit) (rv := fun x => .bool x1.1) (MM := fun x => [(b2, [.int .i64 x1.2])]) (ZZ := fun x => []) F W SI Aa Aa (fun hL => H1 _ _ w b2 (v1) 64 p0 8 _ h2 (Sl.hide CB h1 (W.roX h_v1 (fun g hg => FM hg))) hL) fun x a w F W => ?_
 have W : Stw ⟨Y, [], w0⟩ [(b2, [.int .i64 x1.2]), (b1, [.int .i64 p0.un.1, .int .i64 p0.un.2.1, .int .i64 p0.un.2.2.1, v1])] [] w := W
 refine ls F W Aa (Ah F Aa).q fun a w F W => ?_
 refine Ag (Ad (Az ?_))
 have H := AM H
 subst H
 refine AQ (.inl Aa) F W Aa (AD F Aa) ?_
 exact ⟨rfl, W.done⟩
theorem H8 : Has Tryd.prog 8 := ⟨fun args w => Ao Tryd.func8 rfl (by decide) args w⟩
noncomputable def Fj  : Option Bool := ((GY (Tr31.of (4, 0, 0, ([Tr31.of (6, 0, 0, ([Tr31.of (3, 1, 1, ([] : List Tr31)), Tr31.of (3, 1, 2, ([] : List Tr31))] : List Tr31))] : List Tr31)))).bind fun x2 => (Gg x2).bind fun x3 => (if x3 = ([110, 111, 116, 32, 100, 115, 116, 32, 61, 32, 49, 32, 97, 110, 100, 32, 110, 111, 116, 32, 100, 115, 116, 32, 61, 32, 50] : List UInt8) then (Gg (Tr31.of (4, 0, 0, ([Tr31.of (6, 0, 0, ([Tr31.of (3, 1, 1, ([] : List Tr31)), Tr31.of (3, 1, 2, ([] : List Tr31))] : List Tr31))] : List Tr31)))).bind fun x4 => (if x4 = ([110, 111, 116, 32, 40, 100, 115, 116, 32, 61, 32, 49, 32, 111, 114, 32, 100, 115, 116, 32, 61, 32, 50, 41] : List UInt8) then (EY (Tr31.of (4, 0, 0, ([Tr31.of (6, 0, 0, ([Tr31.of (3, 1, 1, ([] : List Tr31)), Tr31.of (3, 1, 2, ([] : List Tr31))] : List Tr31))] : List Tr31))) 0 0 (0, 3, 0, 0)).bind fun x5 => (if x5 = true then (EY (Tr31.of (4, 0, 0, ([Tr31.of (6, 0, 0, ([Tr31.of (3, 1, 1, ([] : List Tr31)), Tr31.of (3, 1, 2, ([] : List Tr31))] : List Tr31))] : List Tr31))) 0 0 (0, 2, 0, 0)).bind fun x6 => (if (!x6) = true then (EV (Tr31.of (4, 0, 0, ([Tr31.of (6, 0, 0, ([Tr31.of (3, 1, 1, ([] : List Tr31)), Tr31.of (3, 1, 2, ([] : List Tr31))] : List Tr31))] : List Tr31)))).bind fun x7 => some x7 else some false) else some false) else some false) else some false)).bind fun x1 => some x1
theorem HG (Y : Nat → Prop) (w0 : World)   (r : Bool) (H : Fj  = some r) (hG : Gk [] w0) :
    Calls Tryd.prog 6 #[] w0 fun e w' => e = .returned (.bool r) ∧ Below w0.heap.size w0 w' := by
 refine enter Tryd.func6 Aa Tryd.ntmps6 Aa fun a F => ?_
 have W := Stw.start Y w0
 unfold Fj at H
 refine Aj (Ae ?_)
 refine ls F W Aa (Ah F Aa).q fun a w F W => ?_
 refine Ag (Ad (Aj (Ae ?_)))
 refine ls F W Aa (DQ (v := Value.agg #[.int .i64 3, .int .i64 1, .int .i64 1, .slice none 0 0]) Qs F Aa Aa Aa).q fun a w F W => ?_
 refine ls F W Aa (DQ (v := Value.agg #[.int .i64 3, .int .i64 1, .int .i64 2, .slice none 0 0]) Qs F Aa Aa Aa).q fun a w F W => ?_
 refine CK (cs := [.int .i64 0, .int .i64 0, .int .i64 0, .slice none 0 0]) F W Aa KD Aa fun b1 a w F W => ?_
 refine CK (cs := [.int .i64 0, .int .i64 0, .int .i64 0, .slice none 0 0]) F W Aa KD Aa fun b2 a w F W => ?_
 refine BN (vs := [.int .i64 3, .int .i64 1, .int .i64 1, .slice none 0 0]) (M' := [(b2, [.int .i64 0, .int .i64 0, .int .i64 0, .slice none 0 0]), (b1, [.int .i64 3, .int .i64 1, .int .i64 1, .slice none 0 0])]) 1 F W Aa Aa Aa EA Aa Aa Aa Aa Aa fun w W => ?_
 refine BN (vs := [.int .i64 3, .int .i64 1, .int .i64 2, .slice none 0 0]) (M' := [(b2, [.int .i64 3, .int .i64 1, .int .i64 2, .slice none 0 0]), (b1, [.int .i64 3, .int .i64 1, .int .i64 1, .slice none 0 0])]) 0 F W Aa Aa Aa EA Aa Aa Aa Aa Aa fun w W => ?_
 refine Ag (Ad (Aj (Ae ?_)))
 refine ls F W Aa (Aq (v := Value.agg #[.int .i64 3, .int .i64 1, .int .i64 1, .slice none 0 0]) 1 F Aa Aa EA Aa).q fun a w F W => ?_
 refine ls F W Aa (Aq (v := Value.agg #[.int .i64 3, .int .i64 1, .int .i64 2, .slice none 0 0]) 0 F Aa Aa EA Aa).q fun a w F W => ?_
 refine GE (z := Value.agg #[.int .i64 0, .int .i64 0, .int .i64 0, .slice none 0 0]) (cs := [.int .i64 3, .int .i64 1, .int .i64 1, .slice none 0 0, .int .i64 3, .int .i64 1, .int .i64 2, .slice none 0 0]) BJ ([Tr31.of (3, 1, 1, ([] : List Tr31)), Tr31.of (3, 1, 2, ([] : List Tr31))] : List Tr31) F W Aa Ke KD Aa Aa Aa (Cl Aa Aa Aa (Cl Aa Aa Aa Dx)) Aa Aa ⟨[Value.int .i64 3, Value.int .i64 1, Value.int .i64 1, Value.slice none 0 0], _, Aa, (N4.2 ⟨[Value.int .i64 3], [Value.int .i64 1, Value.int .i64 1, Value.slice none 0 0], Aa, Aa, ⟨[Value.int .i64 1], [Value.int .i64 1, Value.slice none 0 0], Aa, Aa, ⟨[Value.int .i64 1], [Value.slice none 0 0], Aa, Aa, ⟨_, Aa, (Sl.nil (r := BJ))⟩⟩⟩⟩), ⟨[Value.int .i64 3, Value.int .i64 1, Value.int .i64 2, Value.slice none 0 0], _, Aa, (N4.2 ⟨[Value.int .i64 3], [Value.int .i64 1, Value.int .i64 2, Value.slice none 0 0], Aa, Aa, ⟨[Value.int .i64 1], [Value.int .i64 2, Value.slice none 0 0], Aa, Aa, ⟨[Value.int .i64 2], [Value.slice none 0 0], Aa, Aa, ⟨_, Aa, (Sl.nil (r := BJ))⟩⟩⟩⟩), Aa⟩⟩ fun v1 a w F W => ?_
 refine ls F W Aa (DQ (v := Value.agg #[.int .i64 6, .int .i64 0, .int .i64 0, v1]) Qs F Aa (Cl Aa Aa Aa (Cl Aa (FG (W.one (k := 0) Aa)) Aa Dx)) Aa).q fun a w F W => ?_
 have W := W.freeze
 refine GE (z := Value.agg #[.int .i64 0, .int .i64 0, .int .i64 0, .slice none 0 0]) (cs := [.int .i64 6, .int .i64 0, .int .i64 0, v1]) BJ ([Tr31.of (6, 0, 0, ([Tr31.of (3, 1, 1, ([] : List Tr31)), Tr31.of (3, 1, 2, ([] : List Tr31))] : List Tr31))] : List Tr31) F W Aa Ke KD Aa Aa Aa (Cl Aa Aa Aa Dx) Aa Aa ⟨[Value.int .i64 6, Value.int .i64 0, Value.int .i64 0, v1], _, Aa, (N4.2 ⟨[Value.int .i64 6], [Value.int .i64 0, Value.int .i64 0, v1], Aa, Aa, ⟨[Value.int .i64 0], [Value.int .i64 0, v1], Aa, Aa, ⟨[Value.int .i64 0], [v1], Aa, Aa, ⟨_, Aa, (W.item (i := 0) Aa)⟩⟩⟩⟩), Aa⟩ fun v2 a w F W => ?_
 refine ls F W Aa (DQ (v := Value.agg #[.int .i64 4, .int .i64 0, .int .i64 0, v2]) Qs F Aa (Cl Aa Aa Aa (Cl Aa (FG (W.one (k := 0) Aa)) Aa Dx)) Aa).q fun a w F W => ?_
 refine CK (cs := [.int .i64 0, .int .i64 0, .int .i64 0, .slice none 0 0]) F W Aa KD Aa fun b3 a w F W => ?_
 refine BN (vs := [.int .i64 4, .int .i64 0, .int .i64 0, v2]) (M' := [(b3, [.int .i64 4, .int .i64 0, .int .i64 0, v2]), (b2, [.int .i64 3, .int .i64 1, .int .i64 2, .slice none 0 0]), (b1, [.int .i64 3, .int .i64 1, .int .i64 1, .slice none 0 0])]) 0 F W Aa Aa Aa EA Aa Aa Aa (AB Aa (AB Aa (AB Aa (AB (W.one (k := 0) Aa) CZ)))) Aa fun w W => ?_
 refine Ag (Ad ?_)
 obtain ⟨o1, G1, K1⟩ := Am H
 refine AO (fun a w => ∃ x1 : Bool, some (x1) = some o1 ∧ Fr 36 [] [(0, .bool x1)] a ∧ Stw ⟨Y, [], w0⟩ [(b3, [.int .i64 4, .int .i64 0, .int .i64 0, v2]), (b2, [.int .i64 3, .int .i64 1, .int .i64 2, .slice none 0 0]), (b1, [.int .i64 3, .int .i64 1, .int .i64 1, .slice none 0 0])] [row v2 31 BJ ([Tr31.of (6, 0, 0, ([Tr31.of (3, 1, 1, ([] : List Tr31)), Tr31.of (3, 1, 2, ([] : List Tr31))] : List Tr31))] : List Tr31)] w) ?_ ?_
 ·
  have H := G1
  clear G1 K1
  refine Ae ?_
  refine ls F W Aa (Aq (v := Value.agg #[.int .i64 4, .int .i64 0, .int .i64 0, v2]) 0 F Aa Aa EA Aa).q fun a w F W => ?_
  obtain ⟨x2, h1, H⟩ := Am H
  refine BD (Ml := []) (Zl := []) (M := [(b3, [.int .i64 4, .int .i64 0, .int .i64 0, v2]), (b2, [.int .i64 3, .int .i64 1, .int .i64 2, .slice none 0 0]), (b1, [.int .i64 3, .int .i64 1, .int .i64 1, .slice none 0 0])]) (Z := [row v2 31 BJ ([Tr31.of (6, 0, 0, ([Tr31.of (3, 1, 1, ([] : List Tr31)), Tr31.of (3, 1, 2, ([] : List Tr31))] : List Tr31))] : List Tr31), Hi v1 BJ ([Tr31.of (3, 1, 1, ([] : List Tr31)), Tr31.of (3, 1, 2, ([] : List Tr31))] : List Tr31)]) (β := Value) (rv := fun x => .agg #[.int .i64 x2.un.1, .int .i64 x2.un.2.1, .int .i64 x2.un.2.2.1, x]) (MM := fun x => []) (ZZ := fun x => [row x 31 BJ x2.un.2.2.2]) F W RP Aa Aa (fun hL => JB _ w (v2) (Tr31.of (4, 0, 0, ([Tr31.of (6, 0, 0, ([Tr31.of (3, 1, 1, ([] : List Tr31)), Tr31.of (3, 1, 2, ([] : List Tr31))] : List Tr31))] : List Tr31))) _ h1 ((Ap 0 Aa) w W).nx) fun x a w F W => ?_
  obtain ⟨v3, rfl⟩ : ∃ y, y = x := ⟨x, rfl⟩
  have W : Stw ⟨Y, [], w0⟩ [(b3, [.int .i64 4, .int .i64 0, .int .i64 0, v2]), (b2, [.int .i64 3, .int .i64 1, .int .i64 2, .slice none 0 0]), (b1, [.int .i64 3, .int .i64 1, .int .i64 1, .slice none 0 0])] [row v3 31 BJ x2.un.2.2.2, row v2 31 BJ ([Tr31.of (6, 0, 0, ([Tr31.of (3, 1, 1, ([] : List Tr31)), Tr31.of (3, 1, 2, ([] : List Tr31))] : List Tr31))] : List Tr31), Hi v1 BJ ([Tr31.of (3, 1, 1, ([] : List Tr31)), Tr31.of (3, 1, 2, ([] : List Tr31))] : List Tr31)] w := W
  obtain ⟨x3, h2, H⟩ := Am H
  refine ls F W Aa (AU (v := Value.string (bs x3)) F R5 Aa (fun w W => HV any w (v3) x2 _ h2 (((Ap 0 Aa) : EC _ _ _ _ _ _) w W).nx (hG.go0 W))) fun a w F W => ?_
  refine ls F W Aa (P1 (l := x3) (m := ([110, 111, 116, 32, 100, 115, 116, 32, 61, 32, 49, 32, 97, 110, 100, 32, 110, 111, 116, 32, 100, 115, 116, 32, 61, 32, 50] : List UInt8)) F Aa Aa).q fun a w F W => ?_
  refine ls F W Aa (Ai F Aa).q fun a w F W => ?_
  rcases Bool.eq_false_or_eq_true (decide (x3 = ([110, 111, 116, 32, 100, 115, 116, 32, 61, 32, 49, 32, 97, 110, 100, 32, 110, 111, 116, 32, 100, 115, 116, 32, 61, 32, 50] : List UInt8))) with hb | hb
  ·
   have H := AW (Bm hb) H
   rw [hb] at F
   clear hb
   refine AL F W (Af F Aa Aa Aa Aa) Aa (An Aa) (Aq (v := Value.agg #[.int .i64 4, .int .i64 0, .int .i64 0, v2]) 0 F Aa Aa EA Aa).q fun a w F W => ?_
   refine Fv (Af F Aa Aa Aa Aa) ?_
   obtain ⟨x4, h3, H⟩ := Am H
   refine ls F W Aa (AU (v := Value.string (bs x4)) F R5 Aa (fun w W => HV any w (v2) (Tr31.of (4, 0, 0, ([Tr31.of (6, 0, 0, ([Tr31.of (3, 1, 1, ([] : List Tr31)), Tr31.of (3, 1, 2, ([] : List Tr31))] : List Tr31))] : List Tr31))) _ h3 (((Ap 1 Aa) : EC _ _ _ _ _ _) w W).nx (hG.go0 W))) fun a w F W => ?_
   refine AL F W (Af F Aa Aa Aa Aa) Aa (An Aa) (P1 (l := x4) (m := ([110, 111, 116, 32, 40, 100, 115, 116, 32, 61, 32, 49, 32, 111, 114, 32, 100, 115, 116, 32, 61, 32, 50, 41] : List UInt8)) F Aa Aa).q fun a w F W => ?_
   refine ls F W Aa (Au F Aa Aa Aa).q fun a w F W => ?_
   refine ls F W Aa (Ai F Aa).q fun a w F W => ?_
   rcases Bool.eq_false_or_eq_true (decide (x4 = ([110, 111, 116, 32, 40, 100, 115, 116, 32, 61, 32, 49, 32, 111, 114, 32, 100, 115, 116, 32, 61, 32, 50, 41] : List UInt8))) with hb | hb
   ·
    have H := AW (Bm hb) H
    rw [hb] at F
    clear hb
    refine AL F W (Af F Aa Aa Aa Aa) Aa (An Aa) (Aq (v := Value.agg #[.int .i64 4, .int .i64 0, .int .i64 0, v2]) 0 F Aa Aa EA Aa).q fun a w F W => ?_
    refine AL F W (Af F Aa Aa Aa Aa) Aa (An Aa) (Nt (v := Value.agg #[.int .i64 0, .int .i64 3, .int .i64 0, .int .i64 0]) QM R0 F Aa Aa Aa).q fun a w F W => ?_
    refine Fv (Af F Aa Aa Aa Aa) ?_
    obtain ⟨x5, h4, H⟩ := Am H
    refine ls F W Aa (AU (v := Value.bool x5) F Sf Aa (fun w W => HM any w (v2) (Tr31.of (4, 0, 0, ([Tr31.of (6, 0, 0, ([Tr31.of (3, 1, 1, ([] : List Tr31)), Tr31.of (3, 1, 2, ([] : List Tr31))] : List Tr31))] : List Tr31))) 0 0 (0, 3, 0, 0) _ h4 (((Ap 1 Aa) : EC _ _ _ _ _ _) w W).nx)) fun a w F W => ?_
    refine ls F W Aa (Au F Aa Aa Aa).q fun a w F W => ?_
    refine ls F W Aa (Ai F Aa).q fun a w F W => ?_
    rcases Bool.eq_false_or_eq_true x5 with hb | hb
    ·
     have H := AW hb H
     rw [hb] at F
     clear hb
     refine AL F W (Af F Aa Aa Aa Aa) Aa (An Aa) (Aq (v := Value.agg #[.int .i64 4, .int .i64 0, .int .i64 0, v2]) 0 F Aa Aa EA Aa).q fun a w F W => ?_
     refine AL F W (Af F Aa Aa Aa Aa) Aa (An Aa) (Nt (v := Value.agg #[.int .i64 0, .int .i64 2, .int .i64 0, .int .i64 0]) QM R0 F Aa Aa Aa).q fun a w F W => ?_
     refine Fv (Af F Aa Aa Aa Aa) ?_
     obtain ⟨x6, h5, H⟩ := Am H
     refine ls F W Aa (AU (v := Value.bool x6) F Sf Aa (fun w W => HM any w (v2) (Tr31.of (4, 0, 0, ([Tr31.of (6, 0, 0, ([Tr31.of (3, 1, 1, ([] : List Tr31)), Tr31.of (3, 1, 2, ([] : List Tr31))] : List Tr31))] : List Tr31))) 0 0 (0, 2, 0, 0) _ h5 (((Ap 1 Aa) : EC _ _ _ _ _ _) w W).nx)) fun a w F W => ?_
     refine AL F W (Af F Aa Aa Aa Aa) Aa (An Aa) (ET F Aa).q fun a w F W => ?_
     refine ls F W Aa (Au F Aa Aa Aa).q fun a w F W => ?_
     refine ls F W Aa (Ai F Aa).q fun a w F W => ?_
     rcases Bool.eq_false_or_eq_true (!x6) with hb | hb
     ·
      have H := AW hb H
      rw [hb] at F
      clear hb
      refine AL F W (Af F Aa Aa Aa Aa) Aa (An Aa) (Aq (v := Value.agg #[.int .i64 4, .int .i64 0, .int .i64 0, v2]) 0 F Aa Aa EA Aa).q fun a w F W => ?_
      refine Fv (Af F Aa Aa Aa Aa) ?_
      obtain ⟨x7, h6, H⟩ := Am H
      refine ls F W Aa (AU (v := Value.bool x7) F H8 Aa (fun w W => IZ any w (v2) (Tr31.of (4, 0, 0, ([Tr31.of (6, 0, 0, ([Tr31.of (3, 1, 1, ([] : List Tr31)), Tr31.of (3, 1, 2, ([] : List Tr31))] : List Tr31))] : List Tr31))) _ h6 (((Ap 1 Aa) : EC _ _ _ _ _ _) w W).nx)) fun a w F W => ?_
      refine ls F W Aa (Au F Aa Aa Aa).q fun a w F W => ?_
      refine ls F W Aa (Ah F Aa).q fun a w F W => ?_
      refine Ag (Ad ?_)
      have W := W.frontZ (i := 1) Aa Aa
      have W := W.frontM (i := 2) Aa Aa
      have W := W.frontM (i := 2) Aa Aa
      have W := W.frontM (i := 2) Aa Aa
      have W := W.sub (M' := [(b3, [.int .i64 4, .int .i64 0, .int .i64 0, v2]), (b2, [.int .i64 3, .int .i64 1, .int .i64 2, .slice none 0 0]), (b1, [.int .i64 3, .int .i64 1, .int .i64 1, .slice none 0 0])]) (Z' := [row v2 31 BJ ([Tr31.of (6, 0, 0, ([Tr31.of (3, 1, 1, ([] : List Tr31)), Tr31.of (3, 1, 2, ([] : List Tr31))] : List Tr31))] : List Tr31)]) (List.Sublist.refl _) (List.Sublist.cons_cons _ (List.nil_sublist _))
      exact ⟨_, H, F.re ⟨rfl, trivial⟩, W⟩
     have H := AX (by rw [hb]; decide) H
     rw [hb] at F
     clear hb
     iterate 2 refine CD F Aa Aa Aa Aa Aa Aa Aa fun a F => ?_
     refine ls F W Aa (As F Aa Aa Aa).q fun a w F W => ?_
     refine ls F W Aa (Ah F Aa).q fun a w F W => ?_
     refine Ag (Ad ?_)
     have W := W.frontZ (i := 1) Aa Aa
     have W := W.frontM (i := 2) Aa Aa
     have W := W.frontM (i := 2) Aa Aa
     have W := W.frontM (i := 2) Aa Aa
     have W := W.sub (M' := [(b3, [.int .i64 4, .int .i64 0, .int .i64 0, v2]), (b2, [.int .i64 3, .int .i64 1, .int .i64 2, .slice none 0 0]), (b1, [.int .i64 3, .int .i64 1, .int .i64 1, .slice none 0 0])]) (Z' := [row v2 31 BJ ([Tr31.of (6, 0, 0, ([Tr31.of (3, 1, 1, ([] : List Tr31)), Tr31.of (3, 1, 2, ([] : List Tr31))] : List Tr31))] : List Tr31)]) (List.Sublist.refl _) (List.Sublist.cons_cons _ (List.nil_sublist _))
     exact ⟨_, H, F.re ⟨rfl, trivial⟩, W⟩
    have H := AX (by rw [hb]; decide) H
    rw [hb] at F
    clear hb
    iterate 4 refine CD F Aa Aa Aa Aa Aa Aa Aa fun a F => ?_
    refine ls F W Aa (As F Aa Aa Aa).q fun a w F W => ?_
    refine ls F W Aa (Ai F Aa).q fun a w F W => ?_
    iterate 2 refine CD F Aa Aa Aa Aa Aa Aa Aa fun a F => ?_
    refine ls F W Aa (As F Aa Aa Aa).q fun a w F W => ?_
    refine ls F W Aa (Ah F Aa).q fun a w F W => ?_
    refine Ag (Ad ?_)
    have W := W.frontZ (i := 1) Aa Aa
    have W := W.frontM (i := 2) Aa Aa
    have W := W.frontM (i := 2) Aa Aa
    have W := W.frontM (i := 2) Aa Aa
    have W := W.sub (M' := [(b3, [.int .i64 4, .int .i64 0, .int .i64 0, v2]), (b2, [.int .i64 3, .int .i64 1, .int .i64 2, .slice none 0 0]), (b1, [.int .i64 3, .int .i64 1, .int .i64 1, .slice none 0 0])]) (Z' := [row v2 31 BJ ([Tr31.of (6, 0, 0, ([Tr31.of (3, 1, 1, ([] : List Tr31)), Tr31.of (3, 1, 2, ([] : List Tr31))] : List Tr31))] : List Tr31)]) (List.Sublist.refl _) (List.Sublist.cons_cons _ (List.nil_sublist _))
    exact ⟨_, H, F.re ⟨rfl, trivial⟩, W⟩
   have H := AX (Bl hb) H
   rw [hb] at F
   clear hb
   iterate 3 refine CD F Aa Aa Aa Aa Aa Aa Aa fun a F => ?_
   refine ls F W Aa (As F Aa Aa Aa).q fun a w F W => ?_
   refine ls F W Aa (Ai F Aa).q fun a w F W => ?_
   iterate 4 refine CD F Aa Aa Aa Aa Aa Aa Aa fun a F => ?_
   refine ls F W Aa (As F Aa Aa Aa).q fun a w F W => ?_
   refine ls F W Aa (Ai F Aa).q fun a w F W => ?_
   iterate 2 refine CD F Aa Aa Aa Aa Aa Aa Aa fun a F => ?_
   refine ls F W Aa (As F Aa Aa Aa).q fun a w F W => ?_
   refine ls F W Aa (Ah F Aa).q fun a w F W => ?_
   refine Ag (Ad ?_)
   have W := W.frontZ (i := 1) Aa Aa
   have W := W.frontM (i := 2) Aa Aa
   have W := W.frontM (i := 2) Aa Aa
   have W := W.frontM (i := 2) Aa Aa
   have W := W.sub (M' := [(b3, [.int .i64 4, .int .i64 0, .int .i64 0, v2]), (b2, [.int .i64 3, .int .i64 1, .int .i64 2, .slice none 0 0]), (b1, [.int .i64 3, .int .i64 1, .int .i64 1, .slice none 0 0])]) (Z' := [row v2 31 BJ ([Tr31.of (6, 0, 0, ([Tr31.of (3, 1, 1, ([] : List Tr31)), Tr31.of (3, 1, 2, ([] : List Tr31))] : List Tr31))] : List Tr31)]) (List.Sublist.refl _) (List.Sublist.cons_cons _ (List.nil_sublist _))
   exact ⟨_, H, F.re ⟨rfl, trivial⟩, W⟩
  have H := AX (Bl hb) H
  rw [hb] at F
  clear hb
  iterate 3 refine CD F Aa Aa Aa Aa Aa Aa Aa fun a F => ?_
  refine ls F W Aa (As F Aa Aa Aa).q fun a w F W => ?_
  refine ls F W Aa (Ai F Aa).q fun a w F W => ?_
  iterate 3 refine CD F Aa Aa Aa Aa Aa Aa Aa fun a F => ?_
  refine ls F W Aa (As F Aa Aa Aa).q fun a w F W => ?_
  refine ls F W Aa (Ai F Aa).q fun a w F W => ?_
  iterate 4 refine CD F Aa Aa Aa Aa Aa Aa Aa fun a F => ?_
  refine ls F W Aa (As F Aa Aa Aa).q fun a w F W => ?_
  refine ls F W Aa (Ai F Aa).q fun a w F W => ?_
  iterate 2 refine CD F Aa Aa Aa Aa Aa Aa Aa fun a F => ?_
  refine ls F W Aa (As F Aa Aa Aa).q fun a w F W => ?_
  refine ls F W Aa (Ah F Aa).q fun a w F W => ?_
  refine Ag (Ad ?_)
  have W := W.frontZ (i := 1) Aa Aa
  have W := W.frontM (i := 2) Aa Aa
  have W := W.frontM (i := 2) Aa Aa
  have W := W.frontM (i := 2) Aa Aa
  have W := W.sub (M' := [(b3, [.int .i64 4, .int .i64 0, .int .i64 0, v2]), (b2, [.int .i64 3, .int .i64 1, .int .i64 2, .slice none 0 0]), (b1, [.int .i64 3, .int .i64 1, .int .i64 1, .slice none 0 0])]) (Z' := [row v2 31 BJ ([Tr31.of (6, 0, 0, ([Tr31.of (3, 1, 1, ([] : List Tr31)), Tr31.of (3, 1, 2, ([] : List Tr31))] : List Tr31))] : List Tr31)]) (List.Sublist.refl _) (List.Sublist.cons_cons _ (List.nil_sublist _))
  exact ⟨_, H, F.re ⟨rfl, trivial⟩, W⟩
 rintro a w ⟨x1, hj, F, W⟩
 have hj := AM hj
 subst hj
 have H := K1
 clear G1 K1
 refine Az ?_
 have H := AM H
 subst H
 refine AQ (.inl Aa) F W Aa (AD F Aa) ?_
 exact ⟨rfl, W.done⟩
theorem Se : type_of% Tryd.underlying4 := Tryd.underlying4
theorem H6 : Has Tryd.prog 6 := ⟨fun args w => Ao Tryd.func6 rfl (by decide) args w⟩
def Ia (p0 : Int) : Int := (if p0 = 2 then 15 else (if (decide (p0 = 0) || (decide (p0 = 1) || decide (p0 = 3))) = true then 255 else 0))
theorem Pf (Y : Nat → Prop) (w0 : World)  (p0 : Int) (r : Int) (H : Ia p0 = r)  :
    Calls Tryd.prog 36 #[.int .i64 p0] w0 fun e w' => e = .returned (.int .i64 r) ∧ Below w0.heap.size w0 w' := by
 refine enter Tryd.func36 Aa Tryd.ntmps36 Aa fun a F => ?_
 have W := Stw.start Y w0
 unfold Ia at H
 refine Aj (Ae ?_)
 refine ls F W Aa (Ah F Aa).q fun a w F W => ?_
 refine Ag (Ad (Aj (Aj (Ae ?_))))
 refine ls F W Aa (Ai F Aa).q fun a w F W => ?_
 refine ls F W Aa (Bq F Aa Aa).q fun a w F W => ?_
 refine Ag (Ad ?_)
 refine Ay F Aa (fun hb => ?_) fun hb => ?_
 ·
  have H := AW (Bm hb) H
  rw [hb] at F
  clear hb
  refine Aj (Ae ?_)
  refine ls F W Aa (Ah F Aa).q fun a w F W => ?_
  refine Ag (Ad (Az (AR ?_)))
  subst H
  refine AQ (.inl Aa) F W Aa (AD F Aa) ?_
  exact ⟨rfl, W.done⟩
 have H := AX (Bl hb) H
 rw [hb] at F
 clear hb
 refine Aw (Ad (Aj ?_))
 refine AO (fun a w => Fr 15 [] [(2, .int .i64 0), (14, .bool (decide (p0 = 0) || (decide (p0 = 1) || decide (p0 = 3))))] a ∧ Stw ⟨Y, [], w0⟩ [] [] w) ?_ ?_
 ·
  refine Ae ?_
  refine ls F W Aa (Ai F Aa).q fun a w F W => ?_
  refine ls F W Aa (Bq F Aa Aa).q fun a w F W => ?_
  refine ls F W Aa (Ai F Aa).q fun a w F W => ?_
  rcases Bool.eq_false_or_eq_true (decide (p0 = 0)) with hb0 | hb0
  ·
   rw [hb0] at F
   iterate 2 refine CD F Aa Aa Aa Aa Aa Aa Aa fun a F => ?_
   refine ls F W Aa (Au F Aa Aa Aa).q fun a w F W => ?_
   refine ls F W Aa (Ai F Aa).q fun a w F W => ?_
   iterate 2 refine CD F Aa Aa Aa Aa Aa Aa Aa fun a F => ?_
   refine ls F W Aa (Au F Aa Aa Aa).q fun a w F W => ?_
   refine Ag (Ad ?_)
   exact ⟨F.re ⟨rfl, (by show some (Value.bool true) = some (Value.bool (decide (p0 = 0) || (decide (p0 = 1) || decide (p0 = 3)))); try rw [hb0]; all_goals simp only [Bool.not_true, Bool.not_false, Bool.true_and, Bool.false_and, Bool.true_or, Bool.false_or, Bool.and_true, Bool.or_false, cond_true, cond_false]), trivial⟩, W⟩
  rw [hb0] at F
  refine AL F W (Af F Aa Aa Aa Aa) Aa (An Aa) (Ai F Aa).q fun a w F W => ?_
  refine AL F W (Af F Aa Aa Aa Aa) Aa (An Aa) (Bq F Aa Aa).q fun a w F W => ?_
  refine ls F W Aa (As F Aa Aa Aa).q fun a w F W => ?_
  refine ls F W Aa (Ai F Aa).q fun a w F W => ?_
  rcases Bool.eq_false_or_eq_true (decide (p0 = 1)) with hb1 | hb1
  ·
   rw [hb1] at F
   iterate 2 refine CD F Aa Aa Aa Aa Aa Aa Aa fun a F => ?_
   refine ls F W Aa (Au F Aa Aa Aa).q fun a w F W => ?_
   refine Ag (Ad ?_)
   exact ⟨F.re ⟨rfl, (by show some (Value.bool true) = some (Value.bool (decide (p0 = 0) || (decide (p0 = 1) || decide (p0 = 3)))); try rw [hb0]; try rw [hb1]; all_goals simp only [Bool.not_true, Bool.not_false, Bool.true_and, Bool.false_and, Bool.true_or, Bool.false_or, Bool.and_true, Bool.or_false, cond_true, cond_false]), trivial⟩, W⟩
  rw [hb1] at F
  refine AL F W (Af F Aa Aa Aa Aa) Aa (An Aa) (Ai F Aa).q fun a w F W => ?_
  refine AL F W (Af F Aa Aa Aa Aa) Aa (An Aa) (Bq F Aa Aa).q fun a w F W => ?_
  refine ls F W Aa (As F Aa Aa Aa).q fun a w F W => ?_
  refine Ag (Ad ?_)
  exact ⟨F.re ⟨rfl, (by show some (Value.bool (decide (p0 = 3))) = some (Value.bool (decide (p0 = 0) || (decide (p0 = 1) || decide (p0 = 3)))); try rw [hb0]; try rw [hb1]; all_goals simp only [Bool.not_true, Bool.not_false, Bool.true_and, Bool.false_and, Bool.true_or, Bool.false_or, Bool.and_true, Bool.or_false, cond_true, cond_false]), trivial⟩, W⟩
 rintro a w ⟨F, W⟩
 refine Ay F Aa (fun hb => ?_) fun hb => ?_
 ·
  have H := AW hb H
  rw [hb] at F
  clear hb
  refine Aj (Ae ?_)
  refine ls F W Aa (Ah F Aa).q fun a w F W => ?_
  refine Ag (Ad (Az (AR ?_)))
  subst H
  refine AQ (.inl Aa) F W Aa (AD F Aa) ?_
  exact ⟨rfl, W.done⟩
 have H := AX (by rw [hb]; decide) H
 rw [hb] at F
 clear hb
 refine Aw (Ad (Aj (Ae ?_)))
 refine ls F W Aa (Ah F Aa).q fun a w F W => ?_
 refine Ag (Ad (Az ?_))
 subst H
 refine AQ (.inl Aa) F W Aa (AD F Aa) ?_
 exact ⟨rfl, W.done⟩
theorem S4 : Has Tryd.prog 36 := ⟨fun args w => Ao Tryd.func36 rfl (by decide) args w⟩
def CC (p0 : Int) : Int := (if (decide (p0 = 4) || decide (p0 = 5)) = true then 7 else (Ia p0))
theorem Ju (Y : Nat → Prop) (w0 : World)  (p0 : Int) (r : Int) (H : CC p0 = r)  :
    Calls Tryd.prog 19 #[.int .i64 p0] w0 fun e w' => e = .returned (.int .i64 r) ∧ Below w0.heap.size w0 w' := by
 refine enter Tryd.func19 Aa Tryd.ntmps19 Aa fun a F => ?_
 have W := Stw.start Y w0
 unfold CC at H
 refine Aj (Ae ?_)
 refine ls F W Aa (Ah F Aa).q fun a w F W => ?_
 refine Ag (Ad (Aj ?_))
 refine AO (fun a w => Fr 11 [] [(0, .int .i64 p0), (2, .int .i64 0), (8, .bool (decide (p0 = 4) || decide (p0 = 5)))] a ∧ Stw ⟨Y, [], w0⟩ [] [] w) ?_ ?_
 ·
  refine Ae ?_
  refine ls F W Aa (Ai F Aa).q fun a w F W => ?_
  refine ls F W Aa (Bq F Aa Aa).q fun a w F W => ?_
  refine ls F W Aa (Ai F Aa).q fun a w F W => ?_
  rcases Bool.eq_false_or_eq_true (decide (p0 = 4)) with hb0 | hb0
  ·
   rw [hb0] at F
   iterate 2 refine CD F Aa Aa Aa Aa Aa Aa Aa fun a F => ?_
   refine ls F W Aa (Au F Aa Aa Aa).q fun a w F W => ?_
   refine Ag (Ad ?_)
   exact ⟨F.re ⟨rfl, Aa, (by show some (Value.bool true) = some (Value.bool (decide (p0 = 4) || decide (p0 = 5))); try rw [hb0]; all_goals simp only [Bool.not_true, Bool.not_false, Bool.true_and, Bool.false_and, Bool.true_or, Bool.false_or, Bool.and_true, Bool.or_false, cond_true, cond_false]), trivial⟩, W⟩
  rw [hb0] at F
  refine AL F W (Af F Aa Aa Aa Aa) Aa (An Aa) (Ai F Aa).q fun a w F W => ?_
  refine AL F W (Af F Aa Aa Aa Aa) Aa (An Aa) (Bq F Aa Aa).q fun a w F W => ?_
  refine ls F W Aa (As F Aa Aa Aa).q fun a w F W => ?_
  refine Ag (Ad ?_)
  exact ⟨F.re ⟨rfl, Aa, (by show some (Value.bool (decide (p0 = 5))) = some (Value.bool (decide (p0 = 4) || decide (p0 = 5))); try rw [hb0]; all_goals simp only [Bool.not_true, Bool.not_false, Bool.true_and, Bool.false_and, Bool.true_or, Bool.false_or, Bool.and_true, Bool.or_false, cond_true, cond_false]), trivial⟩, W⟩
 rintro a w ⟨F, W⟩
 refine Ay F Aa (fun hb => ?_) fun hb => ?_
 ·
  have H := AW hb H
  rw [hb] at F
  clear hb
  refine Aj (Ae ?_)
  refine ls F W Aa (Ah F Aa).q fun a w F W => ?_
  refine Ag (Ad (Az (AR ?_)))
  subst H
  refine AQ (.inl Aa) F W Aa (AD F Aa) ?_
  exact ⟨rfl, W.done⟩
 have H := AX (by rw [hb]; decide) H
 rw [hb] at F
 clear hb
 refine Aw (Ad (Aj (Ae ?_)))
 refine ls F W Aa (Ai F Aa).q fun a w F W => ?_
 refine ls F W Aa (AU (v := Value.int .i64 (Ia p0)) F S4 Aa (fun w W => Pf any w p0 _ Aa)) fun a w F W => ?_
 refine ls F W Aa (Ah F Aa).q fun a w F W => ?_
 refine Ag (Ad (Az ?_))
 subst H
 refine AQ (.inl Aa) F W Aa (AD F Aa) ?_
 exact ⟨rfl, W.done⟩
end Go.Proofs.YtepfcpffbabgmaaDoor
