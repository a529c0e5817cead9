/- The functions of layer 26, EY. Conditions: none. -/
import Derived.Test.YtepfcpffbabgmaaDoorbA3
namespace Go.Proofs.YtepfcpffbabgmaaDoor
open Go Go.RowKit
set_option linter.unusedVariables false
set_option linter.unusedSimpArgs false
set_option maxRecDepth 20000
theorem OK : Has Tryd.prog 18 := ⟨fun args w => Ak Tryd.func18 rfl (by decide) args w⟩
noncomputable def FE (p0 : Tr31) : Option Bool := (if p0.un.1 = 3 then (if (Cn p0.un.2.1) = true then (if 0 ≤ p0.un.2.2.1 then (Gq p0.un.2.1).bind fun x2 => (if p0.un.2.2.1 ≤ x2 then some (decide ((p0.un.2.2.2.length : Int) = 0)) else some false) else some false) else some false).bind fun x1 => some x1 else (if (decide (p0.un.2.1 ≠ 0) || decide (p0.un.2.2.1 ≠ 0)) = true then some false else (if p0.un.1 = 1 then some true else some (decide (p0.un.1 = 2))).bind fun x3 => (if x3 = true then some (decide ((p0.un.2.2.2.length : Int) = 0)) else (if p0.un.1 = 4 then some (decide ((p0.un.2.2.2.length : Int) = 1)) else (if p0.un.1 = 5 then some true else some (decide (p0.un.1 = 6))).bind fun x4 => (if x4 = true then some (decide (2 ≤ (p0.un.2.2.2.length : Int)) && decide ((p0.un.2.2.2.length : Int) ≤ 8)) else some false)))))
theorem JU (Y : Nat → Prop) (w0 : World) (v1 : Value) (p0 : Tr31) (r : Bool) (H : FE p0 = some r) (h_v1 : Sl w0 (NX []) B4 v1 p0.un.2.2.2) :
    Calls Tryd.prog 50 #[.agg #[.int .i64 p0.un.1, .int .i64 p0.un.2.1, .int .i64 p0.un.2.2.1, v1]] w0 fun e w' => e = .returned (.bool r) ∧ Below w0.heap.size w0 w' := by
 refine enter Tryd.func50 Aa Tryd.ntmps50 Aa fun a F => ?_
 have W := Stw.start Y w0
 obtain ⟨v2, h1, h_v1⟩ := h_v1.ex CA
 unfold FE at H
 refine Ag (Ab ?_)
 refine Do (cs := [.int .i64 p0.un.1, .int .i64 p0.un.2.1, .int .i64 p0.un.2.2.1, v1]) F W Aa Aa Aa fun b1 a w F W => ?_
 refine ls F W Aa (Ad F Aa).q fun a w F W => ?_
 refine Ae (Ac (Ag (Ag (Ab ?_))))
 refine ls F W Aa (Al CJ Aa Aa Aa T3 F Aa 0 Aa).q fun a w F W => ?_
 refine ls F W Aa (As (v := Value.int .i64 p0.un.1) 0 F Aa Aa T3 Aa).q fun a w F W => ?_
 refine ls F W Aa (BU F Aa Aa).q fun a w F W => ?_
 refine Ae (Ac ?_)
 refine Ao F Aa (fun hb => ?_) fun hb => ?_
 ·
  have H := A5 (Bv hb) H
  rw [hb] at F
  clear hb
  obtain ⟨o1, G1, K1⟩ := Aj H
  refine AW (fun a w => ∃ x1 : Bool, some (x1) = some o1 ∧ Fr 64 [] [(1, .pointer (some ⟨b1, 0, none⟩)), (2, .bool x1)] a ∧ Stw ⟨Y, [], w0⟩ [(b1, [.int .i64 p0.un.1, .int .i64 p0.un.2.1, .int .i64 p0.un.2.2.1, v1])] [] w) ?_ ?_
  ·
   have H := G1
   clear G1 K1
   refine Cb W MO (by kernel_rfl) ?_
   refine qs F Aa (Al CJ Aa Aa Aa T3 F Aa 1 Aa).q fun a F => ?_
   refine qs F Aa (As (v := Value.int .i64 p0.un.2.1) 0 F Aa Aa T3 Aa).q fun a F => ?_
   refine qs F Aa (Be (v := Value.bool (Cn p0.un.2.1)) F NV Aa (fun w W => FQ any w p0.un.2.1 _ Aa)) fun a F => ?_
   refine qs F Aa (Af F Aa).q fun a F => ?_
   rcases Bool.eq_false_or_eq_true (Cn p0.un.2.1) with hb | hb
   ·
    have H := A5 hb H
    rw [hb] at F
    clear hb
    refine Bj F (Ah F Aa Aa Aa Aa) Aa (An Aa) (Al CJ Aa Aa Aa T3 F Aa 2 Aa).q fun a F => ?_
    refine Bj F (Ah F Aa Aa Aa Aa) Aa (An Aa) (As (v := Value.int .i64 p0.un.2.2.1) 0 F Aa Aa T3 Aa).q fun a F => ?_
    refine Bj F (Ah F Aa Aa Aa Aa) Aa (An Aa) (DT F Aa Aa).q fun a F => ?_
    refine qs F Aa (Bc F Aa Aa Aa).q fun a F => ?_
    refine qs F Aa (Af F Aa).q fun a F => ?_
    rcases Bool.eq_false_or_eq_true (decide (0 ≤ p0.un.2.2.1)) with hb | hb
    ·
     have H := A5 (Bv hb) H
     rw [hb] at F
     clear hb
     refine Bj F (Ah F Aa Aa Aa Aa) Aa (An Aa) (Al CJ Aa Aa Aa T3 F Aa 2 Aa).q fun a F => ?_
     refine Bj F (Ah F Aa Aa Aa Aa) Aa (An Aa) (As (v := Value.int .i64 p0.un.2.2.1) 0 F Aa Aa T3 Aa).q fun a F => ?_
     refine Bj F (Ah F Aa Aa Aa Aa) Aa (An Aa) (Al CJ Aa Aa Aa T3 F Aa 1 Aa).q fun a F => ?_
     refine Bj F (Ah F Aa Aa Aa Aa) Aa (An Aa) (As (v := Value.int .i64 p0.un.2.1) 0 F Aa Aa T3 Aa).q fun a F => ?_
     obtain ⟨x2, h2, H⟩ := Aj H
     refine Bj F (Ah F Aa Aa Aa Aa) Aa (An Aa) (Be (v := Value.int .i64 x2) F OK Aa (fun w W => KF any w p0.un.2.1 _ h2)) fun a F => ?_
     refine Bj F (Ah F Aa Aa Aa Aa) Aa (An Aa) (FC F Aa Aa).q fun a F => ?_
     refine qs F Aa (Bc F Aa Aa Aa).q fun a F => ?_
     refine qs F Aa (Af F Aa).q fun a F => ?_
     rcases Bool.eq_false_or_eq_true (decide (p0.un.2.2.1 ≤ x2)) with hb | hb
     ·
      have H := A5 (Bv hb) H
      rw [hb] at F
      clear hb
      refine Bj F (Ah F Aa Aa Aa Aa) Aa (An Aa) (Al CJ Aa Aa Aa ET F Aa 3 Aa).q fun a F => ?_
      refine Bj F (Ah F Aa Aa Aa Aa) Aa (An Aa) (As (v := v1) 0 F Aa Aa ET Aa).q fun a F => ?_
      refine Bj F (Ah F Aa Aa Aa Aa) Aa (An Aa) (DU (r := B4) (l := p0.un.2.2.2) GC Aa F Aa (Bn CA h1 (AQ h_v1))).q fun a F => ?_
      refine Bj F (Ah F Aa Aa Aa Aa) Aa (An Aa) (BU F Aa Aa).q fun a F => ?_
      refine qs F Aa (Bc F Aa Aa Aa).q fun a F => ?_
      refine qs F Aa (Ad F Aa).q fun a F => ?_
      refine AX fun w W => ?_
      refine Ac ?_
      exact ⟨_, H, F.re ⟨rfl, Aa, trivial⟩, W⟩
     have H := A3 (Bx hb) H
     rw [hb] at F
     clear hb
     iterate 4 refine CS F (Cu F Aa Aa Aa Aa Aa) Aa Aa fun a F => ?_
     refine qs F Aa (AU F Aa Aa Aa).q fun a F => ?_
     refine qs F Aa (Ad F Aa).q fun a F => ?_
     refine AX fun w W => ?_
     refine Ac ?_
     exact ⟨_, H, F.re ⟨rfl, Aa, trivial⟩, W⟩
    have H := A3 (Bx hb) H
    rw [hb] at F
    clear hb
    iterate 6 refine CS F (Cu F Aa Aa Aa Aa Aa) Aa Aa fun a F => ?_
    refine qs F Aa (AU F Aa Aa Aa).q fun a F => ?_
    refine qs F Aa (Af F Aa).q fun a F => ?_
    iterate 4 refine CS F (Cu F Aa Aa Aa Aa Aa) Aa Aa fun a F => ?_
    refine qs F Aa (AU F Aa Aa Aa).q fun a F => ?_
    refine qs F Aa (Ad F Aa).q fun a F => ?_
    refine AX fun w W => ?_
    refine Ac ?_
    exact ⟨_, H, F.re ⟨rfl, Aa, trivial⟩, W⟩
   have H := A3 (by rw [hb]; decide) H
   rw [hb] at F
   clear hb
   iterate 3 refine CS F (Cu F Aa Aa Aa Aa Aa) Aa Aa fun a F => ?_
   refine qs F Aa (AU F Aa Aa Aa).q fun a F => ?_
   refine qs F Aa (Af F Aa).q fun a F => ?_
   iterate 6 refine CS F (Cu F Aa Aa Aa Aa Aa) Aa Aa fun a F => ?_
   refine qs F Aa (AU F Aa Aa Aa).q fun a F => ?_
   refine qs F Aa (Af F Aa).q fun a F => ?_
   iterate 4 refine CS F (Cu F Aa Aa Aa Aa Aa) Aa Aa fun a F => ?_
   refine qs F Aa (AU F Aa Aa Aa).q fun a F => ?_
   refine qs F Aa (Ad F Aa).q fun a F => ?_
   refine AX fun w W => ?_
   refine Ac ?_
   exact ⟨_, H, F.re ⟨rfl, Aa, trivial⟩, W⟩
  rintro a w ⟨x1, hj, F, W⟩
  have hj := AV hj
  subst hj
  have H := K1
  clear G1 K1
  refine Aw (A4 ?_)
  have H := AV H
  subst H
  refine A2 (.inl Aa) F W Aa (AB F Aa) ?_
  exact ⟨rfl, W.done⟩
 have H := A3 (Bx hb) H
 rw [hb] at F
 clear hb
 refine Au (Ac (Ag ?_))
 refine AW (fun a w => Fr 64 [] [(1, .pointer (some ⟨b1, 0, none⟩)), (2, .bool false), (35, .bool (decide (p0.un.2.1 ≠ 0) || decide (p0.un.2.2.1 ≠ 0)))] a ∧ Stw ⟨Y, [], w0⟩ [(b1, [.int .i64 p0.un.1, .int .i64 p0.un.2.1, .int .i64 p0.un.2.2.1, v1])] [] w) ?_ ?_
 ·
  refine Ab ?_
  refine ls F W Aa (Al CJ Aa Aa Aa T3 F Aa 1 Aa).q fun a w F W => ?_
  refine ls F W Aa (As (v := Value.int .i64 p0.un.2.1) 0 F Aa Aa T3 Aa).q fun a w F W => ?_
  refine ls F W Aa (JT F Aa Aa).q fun a w F W => ?_
  refine ls F W Aa (Af F Aa).q fun a w F W => ?_
  rcases Bool.eq_false_or_eq_true (decide (p0.un.2.1 ≠ 0)) with hb0 | hb0
  ·
   rw [hb0] at F
   iterate 3 refine GD F Aa Aa Aa Aa Aa Aa Aa fun a F => ?_
   refine ls F W Aa (Bc F Aa Aa Aa).q fun a w F W => ?_
   refine Ae (Ac ?_)
   exact ⟨F.re ⟨rfl, Aa, (by show some (Value.bool true) = some (Value.bool (decide (p0.un.2.1 ≠ 0) || decide (p0.un.2.2.1 ≠ 0))); try rw [hb0]; all_goals simp only [Bool.not_true, Bool.not_false, Bool.true_and, Bool.false_and, Bool.true_or, Bool.false_or, Bool.and_true, Bool.or_false, cond_true, cond_false]), trivial⟩, W⟩
  rw [hb0] at F
  refine Cm F W (Ah F Aa Aa Aa Aa) Aa (An Aa) (Al CJ Aa Aa Aa T3 F Aa 2 Aa).q fun a w F W => ?_
  refine Cm F W (Ah F Aa Aa Aa Aa) Aa (An Aa) (As (v := Value.int .i64 p0.un.2.2.1) 0 F Aa Aa T3 Aa).q fun a w F W => ?_
  refine Cm F W (Ah F Aa Aa Aa Aa) Aa (An Aa) (JT F Aa Aa).q fun a w F W => ?_
  refine ls F W Aa (AU F Aa Aa Aa).q fun a w F W => ?_
  refine Ae (Ac ?_)
  exact ⟨F.re ⟨rfl, Aa, (by show some (Value.bool (decide (p0.un.2.2.1 ≠ 0))) = some (Value.bool (decide (p0.un.2.1 ≠ 0) || decide (p0.un.2.2.1 ≠ 0))); try rw [hb0]; all_goals simp only [Bool.not_true, Bool.not_false, Bool.true_and, Bool.false_and, Bool.true_or, Bool.false_or, Bool.and_true, Bool.or_false, cond_true, cond_false]), trivial⟩, W⟩
 rintro a w ⟨F, W⟩
 refine Ao F Aa (fun hb => ?_) fun hb => ?_
 ·
  have H := A5 hb H
  rw [hb] at F
  clear hb
  refine Ag (Ab ?_)
  refine ls F W Aa (Ad F Aa).q fun a w F W => ?_
  refine Ae (Ac (Aw (A4 ?_)))
  have H := AV H
  subst H
  refine A2 (.inl Aa) F W Aa (AB F Aa) ?_
  exact ⟨rfl, W.done⟩
 have H := A3 (by rw [hb]; decide) H
 rw [hb] at F
 clear hb
 refine Au (Ac (Ag (Ag (Ab ?_))))
 refine ls F W Aa (Al CJ Aa Aa Aa T3 F Aa 0 Aa).q fun a w F W => ?_
 refine ls F W Aa (As (v := Value.int .i64 p0.un.1) 0 F Aa Aa T3 Aa).q fun a w F W => ?_
 refine Ae (Ac (Ap ?_))
 obtain ⟨o2, G2, K2⟩ := Aj H
 refine AW (fun a w => ∃ x3 : Bool, some (x3) = some o2 ∧ Fr 64 [] [(1, .pointer (some ⟨b1, 0, none⟩)), (2, .bool false), (37, .int .i64 p0.un.1), (38, .bool x3)] a ∧ Stw ⟨Y, [], w0⟩ [(b1, [.int .i64 p0.un.1, .int .i64 p0.un.2.1, .int .i64 p0.un.2.2.1, v1])] [] w) ?_ ?_
 ·
  have H := G2
  clear G2 K2
  refine Ag (Ab ?_)
  refine ls F W Aa (BU F Aa Aa).q fun a w F W => ?_
  refine ls F W Aa (Ad F Aa).q fun a w F W => ?_
  refine Ae (Ac ?_)
  refine Ao F Aa (fun hb => ?_) fun hb => ?_
  ·
   have H := A5 (Bv hb) H
   rw [hb] at F
   clear hb
   refine Au (Ac ?_)
   exact ⟨_, H, F.re ⟨rfl, Aa, Aa, Aa, trivial⟩, W⟩
  have H := A3 (Bx hb) H
  rw [hb] at F
  clear hb
  refine Ab ?_
  refine ls F W Aa (BU F Aa Aa).q fun a w F W => ?_
  refine ls F W Aa (Ad F Aa).q fun a w F W => ?_
  refine Ae (Ac ?_)
  exact ⟨_, H, F.re ⟨rfl, Aa, Aa, Aa, trivial⟩, W⟩
 rintro a w ⟨x3, hj, F, W⟩
 have hj := AV hj
 subst hj
 have H := K2
 clear G2 K2
 refine Ao F Aa (fun hb => ?_) fun hb => ?_
 ·
  have H := A5 hb H
  rw [hb] at F
  clear hb
  refine Ag (Ab ?_)
  refine ls F W Aa (Al CJ Aa Aa Aa ET F Aa 3 Aa).q fun a w F W => ?_
  refine ls F W Aa (As (v := v1) 0 F Aa Aa ET Aa).q fun a w F W => ?_
  refine ls F W Aa (DU (r := B4) (l := p0.un.2.2.2) GC Aa F Aa (Bn CA h1 (AQ h_v1))).q fun a w F W => ?_
  refine ls F W Aa (BU F Aa Aa).q fun a w F W => ?_
  refine ls F W Aa (Ad F Aa).q fun a w F W => ?_
  refine Ae (Ac (Aw (A0 (A4 ?_))))
  have H := AV H
  subst H
  refine A2 (.inl Aa) F W Aa (AB F Aa) ?_
  exact ⟨rfl, W.done⟩
 have H := A3 (by rw [hb]; decide) H
 rw [hb] at F
 clear hb
 refine Ag (Ab ?_)
 refine ls F W Aa (BU F Aa Aa).q fun a w F W => ?_
 refine ls F W Aa (Ad F Aa).q fun a w F W => ?_
 refine Ae (Ac ?_)
 refine Ao F Aa (fun hb => ?_) fun hb => ?_
 ·
  have H := A5 (Bv hb) H
  rw [hb] at F
  clear hb
  refine Ag (Ab ?_)
  refine ls F W Aa (Al CJ Aa Aa Aa ET F Aa 3 Aa).q fun a w F W => ?_
  refine ls F W Aa (As (v := v1) 0 F Aa Aa ET Aa).q fun a w F W => ?_
  refine ls F W Aa (DU (r := B4) (l := p0.un.2.2.2) GC Aa F Aa (Bn CA h1 (AQ h_v1))).q fun a w F W => ?_
  refine ls F W Aa (BU F Aa Aa).q fun a w F W => ?_
  refine ls F W Aa (Ad F Aa).q fun a w F W => ?_
  refine Ae (Ac (Aw (A0 (A4 ?_))))
  have H := AV H
  subst H
  refine A2 (.inl Aa) F W Aa (AB F Aa) ?_
  exact ⟨rfl, W.done⟩
 have H := A3 (Bx hb) H
 rw [hb] at F
 clear hb
 obtain ⟨o3, G3, K3⟩ := Aj H
 refine AW (fun a w => ∃ x4 : Bool, some (x4) = some o3 ∧ Fr 64 [] [(1, .pointer (some ⟨b1, 0, none⟩)), (2, .bool false), (51, .bool x4)] a ∧ Stw ⟨Y, [], w0⟩ [(b1, [.int .i64 p0.un.1, .int .i64 p0.un.2.1, .int .i64 p0.un.2.2.1, v1])] [] w) ?_ ?_
 ·
  have H := G3
  clear G3 K3
  refine Ag (Ab ?_)
  refine ls F W Aa (BU F Aa Aa).q fun a w F W => ?_
  refine ls F W Aa (Ad F Aa).q fun a w F W => ?_
  refine Ae (Ac ?_)
  refine Ao F Aa (fun hb => ?_) fun hb => ?_
  ·
   have H := A5 (Bv hb) H
   rw [hb] at F
   clear hb
   refine Au (Ac ?_)
   exact ⟨_, H, F.re ⟨rfl, Aa, Aa, trivial⟩, W⟩
  have H := A3 (Bx hb) H
  rw [hb] at F
  clear hb
  refine Ab ?_
  refine ls F W Aa (BU F Aa Aa).q fun a w F W => ?_
  refine ls F W Aa (Ad F Aa).q fun a w F W => ?_
  refine Ae (Ac ?_)
  exact ⟨_, H, F.re ⟨rfl, Aa, Aa, trivial⟩, W⟩
 rintro a w ⟨x4, hj, F, W⟩
 have hj := AV hj
 subst hj
 have H := K3
 clear G3 K3
 refine Ao F Aa (fun hb => ?_) fun hb => ?_
 ·
  have H := A5 hb H
  rw [hb] at F
  clear hb
  refine AW (fun a w => Fr 64 [] [(2, .bool (decide (2 ≤ (p0.un.2.2.2.length : Int)) && decide ((p0.un.2.2.2.length : Int) ≤ 8)))] a ∧ Stw ⟨Y, [], w0⟩ [(b1, [.int .i64 p0.un.1, .int .i64 p0.un.2.1, .int .i64 p0.un.2.2.1, v1])] [] w) ?_ ?_
  ·
   refine Ab ?_
   refine ls F W Aa (Al CJ Aa Aa Aa ET F Aa 3 Aa).q fun a w F W => ?_
   refine ls F W Aa (As (v := v1) 0 F Aa Aa ET Aa).q fun a w F W => ?_
   refine ls F W Aa (DU (r := B4) (l := p0.un.2.2.2) GC Aa F Aa (Bn CA h1 (AQ h_v1))).q fun a w F W => ?_
   refine ls F W Aa (DT F Aa Aa).q fun a w F W => ?_
   refine ls F W Aa (Af F Aa).q fun a w F W => ?_
   rcases Bool.eq_false_or_eq_true (decide (2 ≤ (p0.un.2.2.2.length : Int))) with hb0 | hb0
   ·
    rw [hb0] at F
    refine Cm F W (Ah F Aa Aa Aa Aa) Aa (An Aa) (Al CJ Aa Aa Aa ET F Aa 3 Aa).q fun a w F W => ?_
    refine Cm F W (Ah F Aa Aa Aa Aa) Aa (An Aa) (As (v := v1) 0 F Aa Aa ET Aa).q fun a w F W => ?_
    refine Cm F W (Ah F Aa Aa Aa Aa) Aa (An Aa) (DU (r := B4) (l := p0.un.2.2.2) GC Aa F Aa (Bn CA h1 (AQ h_v1))).q fun a w F W => ?_
    refine Cm F W (Ah F Aa Aa Aa Aa) Aa (An Aa) (FC F Aa Aa).q fun a w F W => ?_
    refine ls F W Aa (Bc F Aa Aa Aa).q fun a w F W => ?_
    refine ls F W Aa (Ad F Aa).q fun a w F W => ?_
    refine Ae (Ac ?_)
    exact ⟨F.re ⟨(by show some (Value.bool (decide ((p0.un.2.2.2.length : Int) ≤ 8))) = some (Value.bool (decide (2 ≤ (p0.un.2.2.2.length : Int)) && decide ((p0.un.2.2.2.length : Int) ≤ 8))); try rw [hb0]; all_goals simp only [Bool.not_true, Bool.not_false, Bool.true_and, Bool.false_and, Bool.true_or, Bool.false_or, Bool.and_true, Bool.or_false, cond_true, cond_false]), trivial⟩, W⟩
   rw [hb0] at F
   iterate 4 refine GD F Aa Aa Aa Aa Aa Aa Aa fun a F => ?_
   refine ls F W Aa (AU F Aa Aa Aa).q fun a w F W => ?_
   refine ls F W Aa (Ad F Aa).q fun a w F W => ?_
   refine Ae (Ac ?_)
   exact ⟨F.re ⟨(by show some (Value.bool false) = some (Value.bool (decide (2 ≤ (p0.un.2.2.2.length : Int)) && decide ((p0.un.2.2.2.length : Int) ≤ 8))); try rw [hb0]; all_goals simp only [Bool.not_true, Bool.not_false, Bool.true_and, Bool.false_and, Bool.true_or, Bool.false_or, Bool.and_true, Bool.or_false, cond_true, cond_false]), trivial⟩, W⟩
  rintro a w ⟨F, W⟩
  refine Aw (A0 (A4 ?_))
  have H := AV H
  subst H
  refine A2 (.inl Aa) F W Aa (AB F Aa) ?_
  exact ⟨rfl, W.done⟩
 have H := A3 (by rw [hb]; decide) H
 rw [hb] at F
 clear hb
 refine Au (A6 (Ac (Ag (Ab ?_))))
 refine ls F W Aa (Ad F Aa).q fun a w F W => ?_
 refine Ae (Ac (Aw ?_))
 have H := AV H
 subst H
 refine A2 (.inl Aa) F W Aa (AB F Aa) ?_
 exact ⟨rfl, W.done⟩
theorem Pb : Has Tryd.prog 50 := ⟨fun args w => Ak Tryd.func50 rfl (by decide) args w⟩
theorem Om : Has Tryd.prog 31 := ⟨fun args w => Ak Tryd.func31 rfl (by decide) args w⟩
noncomputable def BD (fRec : Int → Tr31 → Int → Option (Bool × Int)) (p1 : Tr31) (p2 : Int) : (Int × Int) → Option ((Int × Int) ⊕ (Int ⊕ (Bool × Int)))
  | (x4, x5) => (if x4 < (p1.un.2.2.2.length : Int) then (ix p1.un.2.2.2 x4).bind fun x6 => (fRec x5 x6 (AJ (p2 - 1))).bind fun x7 => (if (!x7.1) = true then some (.inr (.inr (false, x7.2))) else some (.inl (AJ (x4 + 1), x7.2))) else some (.inr (.inl x5)))
noncomputable def BT (fRec : Int → Tr31 → Int → Option (Bool × Int)) (p0 : Int) (p1 : Tr31) (p2 : Int) : Option (Bool × Int) := (if (AJ (p0 - 1)) < 0 then some true else (if p2 < 1 then some true else (FE p1).bind fun x2 => some (!x2))).bind fun x1 => (if x1 = true then some (false, AJ (p0 - 1)) else Im (AZ (BD fRec p1 p2) (0, AJ (p0 - 1))) fun x3 => some (true, x3))
noncomputable def B9 : Nat → Int → Tr31 → Int → Option (Bool × Int)
  | 0 => fun _ _ _ => none
  | n + 1 => BT (B9 n)
noncomputable def D2 (p0 : Int) (p1 : Tr31) (p2 : Int) : Option (Bool × Int) := GN fun n => B9 n p0 p1 p2
theorem FN (fRec : Int → Tr31 → Int → Option (Bool × Int)) (ih : ∀ (Y : Nat → Prop) (X : List Nat) (w0 : World) (q_p0 : Nat) (v1 : Value) (p0 : Int) (p1 : Tr31) (p2 : Int) (r : Bool × Int) (H : fRec p0 p1 p2 = some r) (h_v1 : Sl w0 (NX X) B4 v1 p1.un.2.2.2) (hL : Stw ⟨Y, X, w0⟩ [(q_p0, [.int .i64 p0])] [] w0), Calls Tryd.prog 31 #[.pointer (some ⟨q_p0, 0, none⟩), .agg #[.int .i64 p1.un.1, .int .i64 p1.un.2.1, .int .i64 p1.un.2.2.1, v1], .int .i64 p2] w0 fun e w' => ∃ x : Unit, e = .returned (.bool r.1) ∧ Stw ⟨Y, X, w0⟩ [(q_p0, [.int .i64 r.2])] [] w') (Y : Nat → Prop) (X : List Nat) (w0 : World) (q_p0 : Nat) (v1 : Value) (p0 : Int) (p1 : Tr31) (p2 : Int) (r : Bool × Int) (H : BT fRec p0 p1 p2 = some r) (h_v1 : Sl w0 (NX X) B4 v1 p1.un.2.2.2) (hL : Stw ⟨Y, X, w0⟩ [(q_p0, [.int .i64 p0])] [] w0) :
    Calls Tryd.prog 31 #[.pointer (some ⟨q_p0, 0, none⟩), .agg #[.int .i64 p1.un.1, .int .i64 p1.un.2.1, .int .i64 p1.un.2.2.1, v1], .int .i64 p2] w0 fun e w' => ∃ x : Unit, e = .returned (.bool r.1) ∧ Stw ⟨Y, X, w0⟩ [(q_p0, [.int .i64 r.2])] [] w' := by
 refine enter Tryd.func31 Aa Tryd.ntmps31 Aa fun a F => ?_
 have W := hL
 obtain ⟨v2, h1, h_v1⟩ := h_v1.ex CA
 unfold BT at H
 refine Ag (Ab ?_)
 refine Do (cs := [.int .i64 p1.un.1, .int .i64 p1.un.2.1, .int .i64 p1.un.2.2.1, v1]) F W Aa Aa Aa fun b1 a w F W => ?_
 refine ls F W Aa (Ad F Aa).q fun a w F W => ?_
 refine Ae (Ac (Ag (Ab ?_)))
 refine ls F W Aa (Af F Aa).q fun a w F W => ?_
 refine ls F W Aa (Cq F Aa).q fun a w F W => ?_
 refine ls F W Aa (Al Mz Aa Aa Aa T3 F Aa 0 Aa).q fun a w F W => ?_
 refine ls F W Aa (As (v := Value.int .i64 p0) 1 F Aa Aa T3 Aa).q fun a w F W => ?_
 refine ls F W Aa (Cd F Aa Aa Aa).q fun a w F W => ?_
 refine ls F W Aa (Cq F Aa).q fun a w F W => ?_
 refine ls F W Aa (Al Mz Aa Aa Aa T3 F Aa 0 Aa).q fun a w F W => ?_
 refine Cl (vs := [.int .i64 (AJ (p0 - 1))]) (M' := [(b1, [.int .i64 p1.un.1, .int .i64 p1.un.2.1, .int .i64 p1.un.2.2.1, v1]), (q_p0, [.int .i64 (AJ (p0 - 1))])]) 1 F W Aa Aa Aa T3 Aa Aa Aa Aa Aa fun w W => ?_
 refine Ae (Ac (Ag ?_))
 obtain ⟨o1, G1, K1⟩ := Aj H
 refine AW (fun a w => ∃ x1 : Bool, some (x1) = some o1 ∧ Fr 44 [] [(0, .pointer (some ⟨q_p0, 0, none⟩)), (2, .int .i64 p2), (4, .pointer (some ⟨b1, 0, none⟩)), (6, .bool false), (29, .bool x1)] a ∧ Stw ⟨Y, X, w0⟩ [(b1, [.int .i64 p1.un.1, .int .i64 p1.un.2.1, .int .i64 p1.un.2.2.1, v1]), (q_p0, [.int .i64 (AJ (p0 - 1))])] [] w) ?_ ?_
 ·
  have H := G1
  clear G1 K1
  refine Ab ?_
  refine ls F W Aa (Af F Aa).q fun a w F W => ?_
  refine ls F W Aa (Cq F Aa).q fun a w F W => ?_
  refine ls F W Aa (Al Mz Aa Aa Aa T3 F Aa 0 Aa).q fun a w F W => ?_
  refine ls F W Aa (As (v := Value.int .i64 (AJ (p0 - 1))) 1 F Aa Aa T3 Aa).q fun a w F W => ?_
  refine ls F W Aa (Df F Aa Aa).q fun a w F W => ?_
  refine ls F W Aa (Af F Aa).q fun a w F W => ?_
  rcases Bool.eq_false_or_eq_true (decide ((AJ (p0 - 1)) < 0)) with hb | hb
  ·
   have H := A5 (Bv hb) H
   rw [hb] at F
   clear hb
   iterate 2 refine GD F Aa Aa Aa Aa Aa Aa Aa fun a F => ?_
   refine ls F W Aa (Bc F Aa Aa Aa).q fun a w F W => ?_
   refine ls F W Aa (Af F Aa).q fun a w F W => ?_
   iterate 3 refine GD F Aa Aa Aa Aa Aa Aa Aa fun a F => ?_
   refine ls F W Aa (Bc F Aa Aa Aa).q fun a w F W => ?_
   refine Ae (Ac ?_)
   have W := W.frontM (i := 1) Aa Aa
   have W := W.frontM (i := 1) Aa Aa
   exact ⟨_, H, F.re ⟨rfl, Aa, Aa, Aa, Aa, trivial⟩, W⟩
  have H := A3 (Bx hb) H
  rw [hb] at F
  clear hb
  refine Cm F W (Ah F Aa Aa Aa Aa) Aa (An Aa) (Af F Aa).q fun a w F W => ?_
  refine Cm F W (Ah F Aa Aa Aa Aa) Aa (An Aa) (Df F Aa Aa).q fun a w F W => ?_
  refine ls F W Aa (AU F Aa Aa Aa).q fun a w F W => ?_
  refine ls F W Aa (Af F Aa).q fun a w F W => ?_
  rcases Bool.eq_false_or_eq_true (decide (p2 < 1)) with hb | hb
  ·
   have H := A5 (Bv hb) H
   rw [hb] at F
   clear hb
   iterate 3 refine GD F Aa Aa Aa Aa Aa Aa Aa fun a F => ?_
   refine ls F W Aa (Bc F Aa Aa Aa).q fun a w F W => ?_
   refine Ae (Ac ?_)
   have W := W.frontM (i := 1) Aa Aa
   have W := W.frontM (i := 1) Aa Aa
   exact ⟨_, H, F.re ⟨rfl, Aa, Aa, Aa, Aa, trivial⟩, W⟩
  have H := A3 (Bx hb) H
  rw [hb] at F
  clear hb
  refine Cm F W (Ah F Aa Aa Aa Aa) Aa (An Aa) (As (v := Value.agg #[.int .i64 p1.un.1, .int .i64 p1.un.2.1, .int .i64 p1.un.2.2.1, v1]) 0 F Aa Aa D7 Aa).q fun a w F W => ?_
  refine Kr (Ah F Aa Aa Aa Aa) ?_
  obtain ⟨x2, h2, H⟩ := Aj H
  refine ls F W Aa (Be (v := Value.bool x2) F Pb Aa (fun w W => JU any w (v1) p1 _ h2 (((Bn CA h1 (AQ h_v1)) : FB _ _ _ _ _ _) w W).nx)) fun a w F W => ?_
  refine Cm F W (Ah F Aa Aa Aa Aa) Aa (An Aa) (Eh F Aa).q fun a w F W => ?_
  refine ls F W Aa (AU F Aa Aa Aa).q fun a w F W => ?_
  refine Ae (Ac ?_)
  have W := W.frontM (i := 1) Aa Aa
  have W := W.frontM (i := 1) Aa Aa
  exact ⟨_, H, F.re ⟨rfl, Aa, Aa, Aa, Aa, trivial⟩, W⟩
 rintro a w ⟨x1, hj, F, W⟩
 have hj := AV hj
 subst hj
 have H := K1
 clear G1 K1
 refine Ao F Aa (fun hb => ?_) fun hb => ?_
 ·
  have H := A5 hb H
  rw [hb] at F
  clear hb
  refine Ag (Ab ?_)
  refine ls F W Aa (Ad F Aa).q fun a w F W => ?_
  refine Ae (Ac (Aw (A4 ?_)))
  have H := AV H
  subst H
  refine A2 (.inl Aa) F W Aa (AB F Aa) ?_
  have W := W.frontM (i := 1) Aa Aa
  have W := W.sub (M' := [(q_p0, [.int .i64 (AJ (p0 - 1))])]) (Z' := []) (List.Sublist.cons_cons _ (List.nil_sublist _)) (List.Sublist.refl _)
  exact ⟨(), Aa, W⟩
 have H := A3 (by rw [hb]; decide) H
 rw [hb] at F
 clear hb
 refine Au (Ac ?_)
 obtain ⟨o2, G2, K2, L2⟩ := Mo H
 refine AW (fun a w => ∃ x3 : Int, some (Sum.inl x3) = some o2 ∧ Fr 44 [] [(6, .bool false)] a ∧ Stw ⟨Y, X, w0⟩ [(b1, [.int .i64 p1.un.1, .int .i64 p1.un.2.1, .int .i64 p1.un.2.2.1, v1]), (q_p0, [.int .i64 x3])] [] w) ?_ ?_
 ·
  have H := G2
  clear G2 K2
  refine Ag (Ab ?_)
  refine ls F W Aa (Al CJ Aa Aa Aa ET F Aa 3 Aa).q fun a w F W => ?_
  refine ls F W Aa (As (v := v1) 0 F Aa Aa ET Aa).q fun a w F W => ?_
  refine ls F W Aa (DU (r := B4) (l := p1.un.2.2.2) GC Aa F Aa (Bn CA h1 (AQ h_v1))).q fun a w F W => ?_
  refine ls F W Aa (Af F Aa).q fun a w F W => ?_
  refine Ae (Ac (Ap ?_))
  have W := W.frontM (i := 1) Aa Aa
  have W := W.frontM (i := 1) Aa Aa
  refine BV H (fun s a w => Fr 44 [] [(0, .pointer (some ⟨q_p0, 0, none⟩)), (2, .int .i64 p2), (6, .bool false), (31, v1), (32, .int .i64 (p1.un.2.2.2.length : Int)), (33, .int .i64 s.1)] a ∧ Stw ⟨Y, X, w0⟩ [(b1, [.int .i64 p1.un.1, .int .i64 p1.un.2.1, .int .i64 p1.un.2.2.1, v1]), (q_p0, [.int .i64 s.2])] [] w) ⟨F.re ⟨rfl, Aa, Aa, Aa, Aa, Aa, trivial⟩, W⟩ fun s o a w H L3 hR => ?_
  obtain ⟨x4, x5⟩ := s
  obtain ⟨F, W⟩ := hR
  have F : Fr 44 [] [(0, .pointer (some ⟨q_p0, 0, none⟩)), (2, .int .i64 p2), (6, .bool false), (31, v1), (32, .int .i64 (p1.un.2.2.2.length : Int)), (33, .int .i64 x4)] a := F
  have W : Stw ⟨Y, X, w0⟩ [(b1, [.int .i64 p1.un.1, .int .i64 p1.un.2.1, .int .i64 p1.un.2.2.1, v1]), (q_p0, [.int .i64 x5])] [] w := W
  rw [BD] at H
  refine Ag (Ab ?_)
  refine ls F W Aa (Df F Aa Aa).q fun a w F W => ?_
  refine Ae (Ac (Ag ?_))
  refine Ao F Aa (fun hb => ?_) fun hb => ?_
  ·
   have H := A5 (Bv hb) H
   rw [hb] at F
   clear hb
   refine Au (Ac (Ag (Ap (Ag (Ab ?_)))))
   obtain ⟨x6, h3, H⟩ := Aj H
   obtain ⟨v3, h4, h5⟩ := FV h1 h3
   have h6 : Fp v3 = [.int .i64 x6.un.1, .int .i64 x6.un.2.1, .int .i64 x6.un.2.2.1, (v3.2.2.2.1)] := congrArg (fun q : Tr31 => ([.int .i64 q.un.1, .int .i64 q.un.2.1, .int .i64 q.un.2.2.1, (v3.2.2.2.1)] : List Value)) h5
   refine ls F W Aa (Ay (r := FZ) Ji F Aa Aa (AQ h_v1) h4).q fun a w F W => ?_
   refine ls F W Aa (Am (y := Value.agg #[.int .i64 x6.un.1, .int .i64 x6.un.2.1, .int .i64 x6.un.2.2.1, (v3.2.2.2.1)]) (j := 0) (i := x4) (enc := Fp) F Aa Aa (AQ h_v1) h4 IU D7 (by rw [h6]; rfl)).q fun a w F W => ?_
   refine C8 (cs := [.int .i64 0, .int .i64 0, .int .i64 0, .slice none 0 0]) F W Aa JD Aa fun b2 a w F W => ?_
   refine Cl (vs := [.int .i64 x6.un.1, .int .i64 x6.un.2.1, .int .i64 x6.un.2.2.1, (v3.2.2.2.1)]) (M' := [(b2, [.int .i64 x6.un.1, .int .i64 x6.un.2.1, .int .i64 x6.un.2.2.1, (v3.2.2.2.1)]), (b1, [.int .i64 p1.un.1, .int .i64 p1.un.2.1, .int .i64 p1.un.2.2.1, v1]), (q_p0, [.int .i64 x5])]) 0 F W Aa Aa Aa D7 Aa Aa Aa (AK Aa (AK Aa (AK Aa (AK ((DV (AQ h_v1) h4 (Cg.snd (Cg.snd (Cg.snd Cg.here))) (congrArg (fun q : Tr31 => q.un.2.2.2) h5)) _ W).one DI)))) Aa fun w W => ?_
   refine Ae (Ac (Ag (Ab ?_)))
   refine ls F W Aa (Af F Aa).q fun a w F W => ?_
   refine ls F W Aa (As (v := Value.agg #[.int .i64 x6.un.1, .int .i64 x6.un.2.1, .int .i64 x6.un.2.2.1, (v3.2.2.2.1)]) 0 F Aa Aa D7 Aa).q fun a w F W => ?_
   refine ls F W Aa (Af F Aa).q fun a w F W => ?_
   refine ls F W Aa (Cd F Aa Aa Aa).q fun a w F W => ?_
   obtain ⟨x7, h7, H⟩ := Aj H
   have W := W.frontM (i := 2) Aa Aa
   refine BE (Ml := [(q_p0, [.int .i64 x5])]) (Zl := []) (M := [(b2, [.int .i64 x6.un.1, .int .i64 x6.un.2.1, .int .i64 x6.un.2.2.1, (v3.2.2.2.1)]), (b1, [.int .i64 p1.un.1, .int .i64 p1.un.2.1, .int .i64 p1.un.2.2.1, v1])]) (Z := []) (β := Unit) (rv := fun x => .bool x7.1) (MM := fun x => [(q_p0, [.int .i64 x7.2])]) (ZZ := fun x => []) F W Om Aa Aa (fun hL => ih _ _ w q_p0 ((v3.2.2.2.1)) x5 x6 (AJ (p2 - 1)) _ h7 (Sl.at_ (W.roX h_v1 (fun g hg => Es hg)) h4 (Cg.snd (Cg.snd (Cg.snd Cg.here))) (congrArg (fun q : Tr31 => q.un.2.2.2) h5)) hL) fun x a w F W => ?_
   have W : Stw ⟨Y, X, w0⟩ [(q_p0, [.int .i64 x7.2]), (b2, [.int .i64 x6.un.1, .int .i64 x6.un.2.1, .int .i64 x6.un.2.2.1, (v3.2.2.2.1)]), (b1, [.int .i64 p1.un.1, .int .i64 p1.un.2.1, .int .i64 p1.un.2.2.1, v1])] [] w := W
   refine ls F W Aa (Eh F Aa).q fun a w F W => ?_
   refine Ae (Ac ?_)
   refine Ao F Aa (fun hb => ?_) fun hb => ?_
   ·
    have H := A5 hb H
    rw [hb] at F
    clear hb
    refine Ag (Ab ?_)
    refine ls F W Aa (Ad F Aa).q fun a w F W => ?_
    refine Ae (Ac (Aw (A0 ?_)))
    iterate 2 refine A4 ?_
    refine A0 (A4 ?_)
    have H := L3 _ H
    have H := L2 _ H
    have H := AV H
    subst H
    refine A2 (.inl Aa) F W Aa (AB F Aa) ?_
    have W := W.sub (M' := [(q_p0, [.int .i64 x7.2])]) (Z' := []) (List.Sublist.cons_cons _ (List.nil_sublist _)) (List.Sublist.refl _)
    exact ⟨(), Aa, W⟩
   have H := A3 (by rw [hb]; decide) H
   rw [hb] at F
   clear hb
   refine Au (A6 (Ac (Ab ?_)))
   refine ls F W Aa (BM F Aa Aa Aa).q fun a w F W => ?_
   refine ls F W Aa (Af F Aa).q fun a w F W => ?_
   refine Ae (Ac ?_)
   have W := W.frontM (i := 2) Aa Aa
   have W := W.sub (M' := [(b1, [.int .i64 p1.un.1, .int .i64 p1.un.2.1, .int .i64 p1.un.2.2.1, v1]), (q_p0, [.int .i64 x7.2])]) (Z' := []) (List.Sublist.cons_cons _ (List.Sublist.cons_cons _ (List.nil_sublist _))) (List.Sublist.refl _)
   exact ⟨_, H, F.re ⟨rfl, Aa, Aa, Aa, Aa, Aa, trivial⟩, W⟩
  have H := A3 (Bx hb) H
  rw [hb] at F
  clear hb
  refine BK ?_
  iterate 2 refine B7 ?_
  refine BN (Ac ?_)
  have W := W.frontM (i := 1) Aa Aa
  have W := W.frontM (i := 1) Aa Aa
  have H := L3 _ H
  exact ⟨_, H, F.re ⟨rfl, trivial⟩, W⟩
 rintro a w ⟨x3, hj, F, W⟩
 have H := K2 _ hj
 clear hj G2 K2 L2
 refine Ag (Ab ?_)
 refine ls F W Aa (Ad F Aa).q fun a w F W => ?_
 refine Ae (Ac (Aw ?_))
 have H := AV H
 subst H
 refine A2 (.inl Aa) F W Aa (AB F Aa) ?_
 have W := W.frontM (i := 1) Aa Aa
 have W := W.sub (M' := [(q_p0, [.int .i64 x3])]) (Z' := []) (List.Sublist.cons_cons _ (List.nil_sublist _)) (List.Sublist.refl _)
 exact ⟨(), Aa, W⟩
theorem F0 : ∀ (n : Nat) (Y : Nat → Prop) (X : List Nat) (w0 : World) (q_p0 : Nat) (v1 : Value) (p0 : Int) (p1 : Tr31) (p2 : Int) (r : Bool × Int) (H : B9 n p0 p1 p2 = some r) (h_v1 : Sl w0 (NX X) B4 v1 p1.un.2.2.2) (hL : Stw ⟨Y, X, w0⟩ [(q_p0, [.int .i64 p0])] [] w0), Calls Tryd.prog 31 #[.pointer (some ⟨q_p0, 0, none⟩), .agg #[.int .i64 p1.un.1, .int .i64 p1.un.2.1, .int .i64 p1.un.2.2.1, v1], .int .i64 p2] w0 fun e w' => ∃ x : Unit, e = .returned (.bool r.1) ∧ Stw ⟨Y, X, w0⟩ [(q_p0, [.int .i64 r.2])] [] w' := by
  intro n
  induction n with
  | zero => intro Y X w0 q_p0 v1 p0 p1 p2 r H; exact nomatch H
  | succ n ih => intro Y X w0 q_p0 v1 p0 p1 p2 r H h_v1 hL; exact FN (B9 n) ih Y X w0 q_p0 v1 p0 p1 p2 r H h_v1 hL
theorem F4 (Y : Nat → Prop) (X : List Nat) (w0 : World) (q_p0 : Nat) (v1 : Value) (p0 : Int) (p1 : Tr31) (p2 : Int) (r : Bool × Int) (H : D2 p0 p1 p2 = some r) (h_v1 : Sl w0 (NX X) B4 v1 p1.un.2.2.2) (hL : Stw ⟨Y, X, w0⟩ [(q_p0, [.int .i64 p0])] [] w0) :
    Calls Tryd.prog 31 #[.pointer (some ⟨q_p0, 0, none⟩), .agg #[.int .i64 p1.un.1, .int .i64 p1.un.2.1, .int .i64 p1.un.2.2.1, v1], .int .i64 p2] w0 fun e w' => ∃ x : Unit, e = .returned (.bool r.1) ∧ Stw ⟨Y, X, w0⟩ [(q_p0, [.int .i64 r.2])] [] w' := by
  obtain ⟨n, H⟩ := DC H
  exact F0 n Y X w0 q_p0 v1 p0 p1 p2 r H h_v1 hL
noncomputable def EW (p0 : Tr31) : Option Bool := (D2 64 p0 8).bind fun x1 => some x1.1
theorem JE (Y : Nat → Prop) (w0 : World) (v1 : Value) (p0 : Tr31) (r : Bool) (H : EW p0 = some r) (h_v1 : Sl w0 (NX []) B4 v1 p0.un.2.2.2) :
    Calls Tryd.prog 8 #[.agg #[.int .i64 p0.un.1, .int .i64 p0.un.2.1, .int .i64 p0.un.2.2.1, v1]] w0 fun e w' => e = .returned (.bool r) ∧ Below w0.heap.size w0 w' := by
 refine enter Tryd.func8 Aa Tryd.ntmps8 Aa fun a F => ?_
 have W := Stw.start Y w0
 obtain ⟨v2, h1, h_v1⟩ := h_v1.ex CA
 unfold EW at H
 refine Ag (Ab ?_)
 refine Do (cs := [.int .i64 p0.un.1, .int .i64 p0.un.2.1, .int .i64 p0.un.2.2.1, v1]) F W Aa Aa Aa fun b1 a w F W => ?_
 refine ls F W Aa (Ad F Aa).q fun a w F W => ?_
 refine Ae (Ac (Ag (Ab ?_)))
 refine ls F W Aa (D0 (v := Value.agg #[.int .i64 64]) OV F Aa Aa Aa).q fun a w F W => ?_
 refine C8 (cs := [.int .i64 0]) F W Aa O2 Aa fun b2 a w F W => ?_
 refine Cl (vs := [.int .i64 64]) (M' := [(b2, [.int .i64 64]), (b1, [.int .i64 p0.un.1, .int .i64 p0.un.2.1, .int .i64 p0.un.2.2.1, v1])]) 0 F W Aa Aa Aa OM Aa Aa Aa Aa Aa fun w W => ?_
 refine Ae (Ac (Ag (Ab ?_)))
 refine ls F W Aa (As (v := Value.agg #[.int .i64 p0.un.1, .int .i64 p0.un.2.1, .int .i64 p0.un.2.2.1, v1]) 1 F Aa Aa D7 Aa).q fun a w F W => ?_
 obtain ⟨x1, h2, H⟩ := Aj H
 refine BE (Ml := [(b2, [.int .i64 64])]) (Zl := []) (M := [(b1, [.int .i64 p0.un.1, .int .i64 p0.un.2.1, .int .i64 p0.un.2.2.1, v1])]) (Z := []) (β := Unit) (rv := fun x => .bool x1.1) (MM := fun x => [(b2, [.int .i64 x1.2])]) (ZZ := fun x => []) F W Om Aa Aa (fun hL => F4 _ _ w b2 (v1) 64 p0 8 _ h2 (Sl.hide CA h1 (W.roX h_v1 (fun g hg => Es hg))) hL) fun x a w F W => ?_
 have W : Stw ⟨Y, [], w0⟩ [(b2, [.int .i64 x1.2]), (b1, [.int .i64 p0.un.1, .int .i64 p0.un.2.1, .int .i64 p0.un.2.2.1, v1])] [] w := W
 refine ls F W Aa (Ad F Aa).q fun a w F W => ?_
 refine Ae (Ac (Aw ?_))
 have H := AV H
 subst H
 refine A2 (.inl Aa) F W Aa (AB F Aa) ?_
 exact ⟨rfl, W.done⟩
theorem H8 : Has Tryd.prog 8 := ⟨fun args w => Ak Tryd.func8 rfl (by decide) args w⟩
noncomputable def Eo  : Option Bool := ((Hm (Tr31.of (4, 0, 0, ([Tr31.of (6, 0, 0, ([Tr31.of (3, 1, 1, ([] : List Tr31)), Tr31.of (3, 1, 2, ([] : List Tr31))] : List Tr31))] : List Tr31)))).bind fun x2 => (Gx x2).bind fun x3 => (if x3 = ([110, 111, 116, 32, 100, 115, 116, 32, 61, 32, 49, 32, 97, 110, 100, 32, 110, 111, 116, 32, 100, 115, 116, 32, 61, 32, 50] : List UInt8) then (Gx (Tr31.of (4, 0, 0, ([Tr31.of (6, 0, 0, ([Tr31.of (3, 1, 1, ([] : List Tr31)), Tr31.of (3, 1, 2, ([] : List Tr31))] : List Tr31))] : List Tr31)))).bind fun x4 => (if x4 = ([110, 111, 116, 32, 40, 100, 115, 116, 32, 61, 32, 49, 32, 111, 114, 32, 100, 115, 116, 32, 61, 32, 50, 41] : List UInt8) then (Dz (Tr31.of (4, 0, 0, ([Tr31.of (6, 0, 0, ([Tr31.of (3, 1, 1, ([] : List Tr31)), Tr31.of (3, 1, 2, ([] : List Tr31))] : List Tr31))] : List Tr31))) 0 0 (0, 3, 0, 0)).bind fun x5 => (if x5 = true then (Dz (Tr31.of (4, 0, 0, ([Tr31.of (6, 0, 0, ([Tr31.of (3, 1, 1, ([] : List Tr31)), Tr31.of (3, 1, 2, ([] : List Tr31))] : List Tr31))] : List Tr31))) 0 0 (0, 2, 0, 0)).bind fun x6 => (if (!x6) = true then (EW (Tr31.of (4, 0, 0, ([Tr31.of (6, 0, 0, ([Tr31.of (3, 1, 1, ([] : List Tr31)), Tr31.of (3, 1, 2, ([] : List Tr31))] : List Tr31))] : List Tr31)))).bind fun x7 => some x7 else some false) else some false) else some false) else some false)).bind fun x1 => some x1
theorem HK (Y : Nat → Prop) (w0 : World)   (r : Bool) (H : Eo  = some r) (hG : Gk [] w0) :
    Calls Tryd.prog 6 #[] w0 fun e w' => e = .returned (.bool r) ∧ Below w0.heap.size w0 w' := by
 refine enter Tryd.func6 Aa Tryd.ntmps6 Aa fun a F => ?_
 have W := Stw.start Y w0
 unfold Eo at H
 refine Ag (Ab ?_)
 refine ls F W Aa (Ad F Aa).q fun a w F W => ?_
 refine Ae (Ac (Ag (Ab ?_)))
 refine ls F W Aa (D0 (v := Value.agg #[.int .i64 3, .int .i64 1, .int .i64 1, .slice none 0 0]) Mn F Aa Aa Aa).q fun a w F W => ?_
 refine ls F W Aa (D0 (v := Value.agg #[.int .i64 3, .int .i64 1, .int .i64 2, .slice none 0 0]) Mn F Aa Aa Aa).q fun a w F W => ?_
 refine C8 (cs := [.int .i64 0, .int .i64 0, .int .i64 0, .slice none 0 0]) F W Aa JD Aa fun b1 a w F W => ?_
 refine C8 (cs := [.int .i64 0, .int .i64 0, .int .i64 0, .slice none 0 0]) F W Aa JD Aa fun b2 a w F W => ?_
 refine Cl (vs := [.int .i64 3, .int .i64 1, .int .i64 1, .slice none 0 0]) (M' := [(b2, [.int .i64 0, .int .i64 0, .int .i64 0, .slice none 0 0]), (b1, [.int .i64 3, .int .i64 1, .int .i64 1, .slice none 0 0])]) 1 F W Aa Aa Aa D7 Aa Aa Aa Aa Aa fun w W => ?_
 refine Cl (vs := [.int .i64 3, .int .i64 1, .int .i64 2, .slice none 0 0]) (M' := [(b2, [.int .i64 3, .int .i64 1, .int .i64 2, .slice none 0 0]), (b1, [.int .i64 3, .int .i64 1, .int .i64 1, .slice none 0 0])]) 0 F W Aa Aa Aa D7 Aa Aa Aa Aa Aa fun w W => ?_
 refine Ae (Ac (Ag (Ab ?_)))
 refine ls F W Aa (As (v := Value.agg #[.int .i64 3, .int .i64 1, .int .i64 1, .slice none 0 0]) 1 F Aa Aa D7 Aa).q fun a w F W => ?_
 refine ls F W Aa (As (v := Value.agg #[.int .i64 3, .int .i64 1, .int .i64 2, .slice none 0 0]) 0 F Aa Aa D7 Aa).q fun a w F W => ?_
 refine Hx (z := Value.agg #[.int .i64 0, .int .i64 0, .int .i64 0, .slice none 0 0]) (cs := [.int .i64 3, .int .i64 1, .int .i64 1, .slice none 0 0, .int .i64 3, .int .i64 1, .int .i64 2, .slice none 0 0]) B4 ([Tr31.of (3, 1, 1, ([] : List Tr31)), Tr31.of (3, 1, 2, ([] : List Tr31))] : List Tr31) F W Aa Ji JD Aa Aa Aa (Ct Aa Aa Aa (Ct Aa Aa Aa DN)) Aa Aa ⟨[Value.int .i64 3, Value.int .i64 1, Value.int .i64 1, Value.slice none 0 0], _, Aa, (KD.2 ⟨[Value.int .i64 3], [Value.int .i64 1, Value.int .i64 1, Value.slice none 0 0], Aa, Aa, ⟨[Value.int .i64 1], [Value.int .i64 1, Value.slice none 0 0], Aa, Aa, ⟨[Value.int .i64 1], [Value.slice none 0 0], Aa, Aa, ⟨_, Aa, (Sl.nil (r := B4))⟩⟩⟩⟩), ⟨[Value.int .i64 3, Value.int .i64 1, Value.int .i64 2, Value.slice none 0 0], _, Aa, (KD.2 ⟨[Value.int .i64 3], [Value.int .i64 1, Value.int .i64 2, Value.slice none 0 0], Aa, Aa, ⟨[Value.int .i64 1], [Value.int .i64 2, Value.slice none 0 0], Aa, Aa, ⟨[Value.int .i64 2], [Value.slice none 0 0], Aa, Aa, ⟨_, Aa, (Sl.nil (r := B4))⟩⟩⟩⟩), Aa⟩⟩ fun v1 a w F W => ?_
 refine ls F W Aa (D0 (v := Value.agg #[.int .i64 6, .int .i64 0, .int .i64 0, v1]) Mn F Aa (Ct Aa Aa Aa (Ct Aa (ES (W.one (k := 0) Aa)) Aa DN)) Aa).q fun a w F W => ?_
 have W := W.freeze
 refine Hx (z := Value.agg #[.int .i64 0, .int .i64 0, .int .i64 0, .slice none 0 0]) (cs := [.int .i64 6, .int .i64 0, .int .i64 0, v1]) B4 ([Tr31.of (6, 0, 0, ([Tr31.of (3, 1, 1, ([] : List Tr31)), Tr31.of (3, 1, 2, ([] : List Tr31))] : List Tr31))] : List Tr31) F W Aa Ji JD Aa Aa Aa (Ct Aa Aa Aa DN) Aa Aa ⟨[Value.int .i64 6, Value.int .i64 0, Value.int .i64 0, v1], _, Aa, (KD.2 ⟨[Value.int .i64 6], [Value.int .i64 0, Value.int .i64 0, v1], Aa, Aa, ⟨[Value.int .i64 0], [Value.int .i64 0, v1], Aa, Aa, ⟨[Value.int .i64 0], [v1], Aa, Aa, ⟨_, Aa, (W.item (i := 0) Aa)⟩⟩⟩⟩), Aa⟩ fun v2 a w F W => ?_
 refine ls F W Aa (D0 (v := Value.agg #[.int .i64 4, .int .i64 0, .int .i64 0, v2]) Mn F Aa (Ct Aa Aa Aa (Ct Aa (ES (W.one (k := 0) Aa)) Aa DN)) Aa).q fun a w F W => ?_
 refine C8 (cs := [.int .i64 0, .int .i64 0, .int .i64 0, .slice none 0 0]) F W Aa JD Aa fun b3 a w F W => ?_
 refine Cl (vs := [.int .i64 4, .int .i64 0, .int .i64 0, v2]) (M' := [(b3, [.int .i64 4, .int .i64 0, .int .i64 0, v2]), (b2, [.int .i64 3, .int .i64 1, .int .i64 2, .slice none 0 0]), (b1, [.int .i64 3, .int .i64 1, .int .i64 1, .slice none 0 0])]) 0 F W Aa Aa Aa D7 Aa Aa Aa (AK Aa (AK Aa (AK Aa (AK (W.one (k := 0) Aa) DI)))) Aa fun w W => ?_
 refine Ae (Ac ?_)
 obtain ⟨o1, G1, K1⟩ := Aj H
 refine AW (fun a w => ∃ x1 : Bool, some (x1) = some o1 ∧ Fr 36 [] [(0, .bool x1)] a ∧ Stw ⟨Y, [], w0⟩ [(b3, [.int .i64 4, .int .i64 0, .int .i64 0, v2]), (b2, [.int .i64 3, .int .i64 1, .int .i64 2, .slice none 0 0]), (b1, [.int .i64 3, .int .i64 1, .int .i64 1, .slice none 0 0])] [row v2 31 B4 ([Tr31.of (6, 0, 0, ([Tr31.of (3, 1, 1, ([] : List Tr31)), Tr31.of (3, 1, 2, ([] : List Tr31))] : List Tr31))] : List Tr31)] w) ?_ ?_
 ·
  have H := G1
  clear G1 K1
  refine Ab ?_
  refine ls F W Aa (As (v := Value.agg #[.int .i64 4, .int .i64 0, .int .i64 0, v2]) 0 F Aa Aa D7 Aa).q fun a w F W => ?_
  obtain ⟨x2, h1, H⟩ := Aj H
  refine BE (Ml := []) (Zl := []) (M := [(b3, [.int .i64 4, .int .i64 0, .int .i64 0, v2]), (b2, [.int .i64 3, .int .i64 1, .int .i64 2, .slice none 0 0]), (b1, [.int .i64 3, .int .i64 1, .int .i64 1, .slice none 0 0])]) (Z := [row v2 31 B4 ([Tr31.of (6, 0, 0, ([Tr31.of (3, 1, 1, ([] : List Tr31)), Tr31.of (3, 1, 2, ([] : List Tr31))] : List Tr31))] : List Tr31), Mx v1 B4 ([Tr31.of (3, 1, 1, ([] : List Tr31)), Tr31.of (3, 1, 2, ([] : List Tr31))] : List Tr31)]) (β := Value) (rv := fun x => .agg #[.int .i64 x2.un.1, .int .i64 x2.un.2.1, .int .i64 x2.un.2.2.1, x]) (MM := fun x => []) (ZZ := fun x => [row x 31 B4 x2.un.2.2.2]) F W NN Aa Aa (fun hL => JS _ w (v2) (Tr31.of (4, 0, 0, ([Tr31.of (6, 0, 0, ([Tr31.of (3, 1, 1, ([] : List Tr31)), Tr31.of (3, 1, 2, ([] : List Tr31))] : List Tr31))] : List Tr31))) _ h1 ((Ai 0 Aa) w W).nx) fun x a w F W => ?_
  obtain ⟨v3, rfl⟩ : ∃ y, y = x := ⟨x, rfl⟩
  have W : Stw ⟨Y, [], w0⟩ [(b3, [.int .i64 4, .int .i64 0, .int .i64 0, v2]), (b2, [.int .i64 3, .int .i64 1, .int .i64 2, .slice none 0 0]), (b1, [.int .i64 3, .int .i64 1, .int .i64 1, .slice none 0 0])] [row v3 31 B4 x2.un.2.2.2, row v2 31 B4 ([Tr31.of (6, 0, 0, ([Tr31.of (3, 1, 1, ([] : List Tr31)), Tr31.of (3, 1, 2, ([] : List Tr31))] : List Tr31))] : List Tr31), Mx v1 B4 ([Tr31.of (3, 1, 1, ([] : List Tr31)), Tr31.of (3, 1, 2, ([] : List Tr31))] : List Tr31)] w := W
  obtain ⟨x3, h2, H⟩ := Aj H
  refine ls F W Aa (Be (v := Value.string (bs x3)) F NU Aa (fun w W => HH any w (v3) x2 _ h2 (((Ai 0 Aa) : FB _ _ _ _ _ _) w W).nx (hG.go0 W))) fun a w F W => ?_
  refine ls F W Aa (MP (l := x3) (m := ([110, 111, 116, 32, 100, 115, 116, 32, 61, 32, 49, 32, 97, 110, 100, 32, 110, 111, 116, 32, 100, 115, 116, 32, 61, 32, 50] : List UInt8)) F Aa Aa).q fun a w F W => ?_
  refine ls F W Aa (Af F Aa).q fun a w F W => ?_
  rcases Bool.eq_false_or_eq_true (decide (x3 = ([110, 111, 116, 32, 100, 115, 116, 32, 61, 32, 49, 32, 97, 110, 100, 32, 110, 111, 116, 32, 100, 115, 116, 32, 61, 32, 50] : List UInt8))) with hb | hb
  ·
   have H := A5 (Bv hb) H
   rw [hb] at F
   clear hb
   refine Cm F W (Ah F Aa Aa Aa Aa) Aa (An Aa) (As (v := Value.agg #[.int .i64 4, .int .i64 0, .int .i64 0, v2]) 0 F Aa Aa D7 Aa).q fun a w F W => ?_
   refine Kr (Ah F Aa Aa Aa Aa) ?_
   obtain ⟨x4, h3, H⟩ := Aj H
   refine ls F W Aa (Be (v := Value.string (bs x4)) F NU Aa (fun w W => HH any w (v2) (Tr31.of (4, 0, 0, ([Tr31.of (6, 0, 0, ([Tr31.of (3, 1, 1, ([] : List Tr31)), Tr31.of (3, 1, 2, ([] : List Tr31))] : List Tr31))] : List Tr31))) _ h3 (((Ai 1 Aa) : FB _ _ _ _ _ _) w W).nx (hG.go0 W))) fun a w F W => ?_
   refine Cm F W (Ah F Aa Aa Aa Aa) Aa (An Aa) (MP (l := x4) (m := ([110, 111, 116, 32, 40, 100, 115, 116, 32, 61, 32, 49, 32, 111, 114, 32, 100, 115, 116, 32, 61, 32, 50, 41] : List UInt8)) F Aa Aa).q fun a w F W => ?_
   refine ls F W Aa (Bc F Aa Aa Aa).q fun a w F W => ?_
   refine ls F W Aa (Af F Aa).q fun a w F W => ?_
   rcases Bool.eq_false_or_eq_true (decide (x4 = ([110, 111, 116, 32, 40, 100, 115, 116, 32, 61, 32, 49, 32, 111, 114, 32, 100, 115, 116, 32, 61, 32, 50, 41] : List UInt8))) with hb | hb
   ·
    have H := A5 (Bv hb) H
    rw [hb] at F
    clear hb
    refine Cm F W (Ah F Aa Aa Aa Aa) Aa (An Aa) (As (v := Value.agg #[.int .i64 4, .int .i64 0, .int .i64 0, v2]) 0 F Aa Aa D7 Aa).q fun a w F W => ?_
    refine Cm F W (Ah F Aa Aa Aa Aa) Aa (An Aa) (Ke (v := Value.agg #[.int .i64 0, .int .i64 3, .int .i64 0, .int .i64 0]) MH Nq F Aa Aa Aa).q fun a w F W => ?_
    refine Kr (Ah F Aa Aa Aa Aa) ?_
    obtain ⟨x5, h4, H⟩ := Aj H
    refine ls F W Aa (Be (v := Value.bool x5) F NM Aa (fun w W => Fd any w (v2) (Tr31.of (4, 0, 0, ([Tr31.of (6, 0, 0, ([Tr31.of (3, 1, 1, ([] : List Tr31)), Tr31.of (3, 1, 2, ([] : List Tr31))] : List Tr31))] : List Tr31))) 0 0 (0, 3, 0, 0) _ h4 (((Ai 1 Aa) : FB _ _ _ _ _ _) w W).nx)) fun a w F W => ?_
    refine ls F W Aa (Bc F Aa Aa Aa).q fun a w F W => ?_
    refine ls F W Aa (Af F Aa).q fun a w F W => ?_
    rcases Bool.eq_false_or_eq_true x5 with hb | hb
    ·
     have H := A5 hb H
     rw [hb] at F
     clear hb
     refine Cm F W (Ah F Aa Aa Aa Aa) Aa (An Aa) (As (v := Value.agg #[.int .i64 4, .int .i64 0, .int .i64 0, v2]) 0 F Aa Aa D7 Aa).q fun a w F W => ?_
     refine Cm F W (Ah F Aa Aa Aa Aa) Aa (An Aa) (Ke (v := Value.agg #[.int .i64 0, .int .i64 2, .int .i64 0, .int .i64 0]) MH Nq F Aa Aa Aa).q fun a w F W => ?_
     refine Kr (Ah F Aa Aa Aa Aa) ?_
     obtain ⟨x6, h5, H⟩ := Aj H
     refine ls F W Aa (Be (v := Value.bool x6) F NM Aa (fun w W => Fd any w (v2) (Tr31.of (4, 0, 0, ([Tr31.of (6, 0, 0, ([Tr31.of (3, 1, 1, ([] : List Tr31)), Tr31.of (3, 1, 2, ([] : List Tr31))] : List Tr31))] : List Tr31))) 0 0 (0, 2, 0, 0) _ h5 (((Ai 1 Aa) : FB _ _ _ _ _ _) w W).nx)) fun a w F W => ?_
     refine Cm F W (Ah F Aa Aa Aa Aa) Aa (An Aa) (Eh F Aa).q fun a w F W => ?_
     refine ls F W Aa (Bc F Aa Aa Aa).q fun a w F W => ?_
     refine ls F W Aa (Af F Aa).q fun a w F W => ?_
     rcases Bool.eq_false_or_eq_true (!x6) with hb | hb
     ·
      have H := A5 hb H
      rw [hb] at F
      clear hb
      refine Cm F W (Ah F Aa Aa Aa Aa) Aa (An Aa) (As (v := Value.agg #[.int .i64 4, .int .i64 0, .int .i64 0, v2]) 0 F Aa Aa D7 Aa).q fun a w F W => ?_
      refine Kr (Ah F Aa Aa Aa Aa) ?_
      obtain ⟨x7, h6, H⟩ := Aj H
      refine ls F W Aa (Be (v := Value.bool x7) F H8 Aa (fun w W => JE any w (v2) (Tr31.of (4, 0, 0, ([Tr31.of (6, 0, 0, ([Tr31.of (3, 1, 1, ([] : List Tr31)), Tr31.of (3, 1, 2, ([] : List Tr31))] : List Tr31))] : List Tr31))) _ h6 (((Ai 1 Aa) : FB _ _ _ _ _ _) w W).nx)) fun a w F W => ?_
      refine ls F W Aa (Bc F Aa Aa Aa).q fun a w F W => ?_
      refine ls F W Aa (Ad F Aa).q fun a w F W => ?_
      refine Ae (Ac ?_)
      have W := W.frontZ (i := 1) Aa Aa
      have W := W.frontM (i := 2) Aa Aa
      have W := W.frontM (i := 2) Aa Aa
      have W := W.frontM (i := 2) Aa Aa
      have W := W.sub (M' := [(b3, [.int .i64 4, .int .i64 0, .int .i64 0, v2]), (b2, [.int .i64 3, .int .i64 1, .int .i64 2, .slice none 0 0]), (b1, [.int .i64 3, .int .i64 1, .int .i64 1, .slice none 0 0])]) (Z' := [row v2 31 B4 ([Tr31.of (6, 0, 0, ([Tr31.of (3, 1, 1, ([] : List Tr31)), Tr31.of (3, 1, 2, ([] : List Tr31))] : List Tr31))] : List Tr31)]) (List.Sublist.refl _) (List.Sublist.cons_cons _ (List.nil_sublist _))
      exact ⟨_, H, F.re ⟨rfl, trivial⟩, W⟩
     have H := A3 (by rw [hb]; decide) H
     rw [hb] at F
     clear hb
     iterate 2 refine GD F Aa Aa Aa Aa Aa Aa Aa fun a F => ?_
     refine ls F W Aa (AU F Aa Aa Aa).q fun a w F W => ?_
     refine ls F W Aa (Ad F Aa).q fun a w F W => ?_
     refine Ae (Ac ?_)
     have W := W.frontZ (i := 1) Aa Aa
     have W := W.frontM (i := 2) Aa Aa
     have W := W.frontM (i := 2) Aa Aa
     have W := W.frontM (i := 2) Aa Aa
     have W := W.sub (M' := [(b3, [.int .i64 4, .int .i64 0, .int .i64 0, v2]), (b2, [.int .i64 3, .int .i64 1, .int .i64 2, .slice none 0 0]), (b1, [.int .i64 3, .int .i64 1, .int .i64 1, .slice none 0 0])]) (Z' := [row v2 31 B4 ([Tr31.of (6, 0, 0, ([Tr31.of (3, 1, 1, ([] : List Tr31)), Tr31.of (3, 1, 2, ([] : List Tr31))] : List Tr31))] : List Tr31)]) (List.Sublist.refl _) (List.Sublist.cons_cons _ (List.nil_sublist _))
     exact ⟨_, H, F.re ⟨rfl, trivial⟩, W⟩
    have H := A3 (by rw [hb]; decide) H
    rw [hb] at F
    clear hb
    iterate 4 refine GD F Aa Aa Aa Aa Aa Aa Aa fun a F => ?_
    refine ls F W Aa (AU F Aa Aa Aa).q fun a w F W => ?_
    refine ls F W Aa (Af F Aa).q fun a w F W => ?_
    iterate 2 refine GD F Aa Aa Aa Aa Aa Aa Aa fun a F => ?_
    refine ls F W Aa (AU F Aa Aa Aa).q fun a w F W => ?_
    refine ls F W Aa (Ad F Aa).q fun a w F W => ?_
    refine Ae (Ac ?_)
    have W := W.frontZ (i := 1) Aa Aa
    have W := W.frontM (i := 2) Aa Aa
    have W := W.frontM (i := 2) Aa Aa
    have W := W.frontM (i := 2) Aa Aa
    have W := W.sub (M' := [(b3, [.int .i64 4, .int .i64 0, .int .i64 0, v2]), (b2, [.int .i64 3, .int .i64 1, .int .i64 2, .slice none 0 0]), (b1, [.int .i64 3, .int .i64 1, .int .i64 1, .slice none 0 0])]) (Z' := [row v2 31 B4 ([Tr31.of (6, 0, 0, ([Tr31.of (3, 1, 1, ([] : List Tr31)), Tr31.of (3, 1, 2, ([] : List Tr31))] : List Tr31))] : List Tr31)]) (List.Sublist.refl _) (List.Sublist.cons_cons _ (List.nil_sublist _))
    exact ⟨_, H, F.re ⟨rfl, trivial⟩, W⟩
   have H := A3 (Bx hb) H
   rw [hb] at F
   clear hb
   iterate 3 refine GD F Aa Aa Aa Aa Aa Aa Aa fun a F => ?_
   refine ls F W Aa (AU F Aa Aa Aa).q fun a w F W => ?_
   refine ls F W Aa (Af F Aa).q fun a w F W => ?_
   iterate 4 refine GD F Aa Aa Aa Aa Aa Aa Aa fun a F => ?_
   refine ls F W Aa (AU F Aa Aa Aa).q fun a w F W => ?_
   refine ls F W Aa (Af F Aa).q fun a w F W => ?_
   iterate 2 refine GD F Aa Aa Aa Aa Aa Aa Aa fun a F => ?_
   refine ls F W Aa (AU F Aa Aa Aa).q fun a w F W => ?_
   refine ls F W Aa (Ad F Aa).q fun a w F W => ?_
   refine Ae (Ac ?_)
   have W := W.frontZ (i := 1) Aa Aa
   have W := W.frontM (i := 2) Aa Aa
   have W := W.frontM (i := 2) Aa Aa
   have W := W.frontM (i := 2) Aa Aa
   have W := W.sub (M' := [(b3, [.int .i64 4, .int .i64 0, .int .i64 0, v2]), (b2, [.int .i64 3, .int .i64 1, .int .i64 2, .slice none 0 0]), (b1, [.int .i64 3, .int .i64 1, .int .i64 1, .slice none 0 0])]) (Z' := [row v2 31 B4 ([Tr31.of (6, 0, 0, ([Tr31.of (3, 1, 1, ([] : List Tr31)), Tr31.of (3, 1, 2, ([] : List Tr31))] : List Tr31))] : List Tr31)]) (List.Sublist.refl _) (List.Sublist.cons_cons _ (List.nil_sublist _))
   exact ⟨_, H, F.re ⟨rfl, trivial⟩, W⟩
  have H := A3 (Bx hb) H
  rw [hb] at F
  clear hb
  iterate 3 refine GD F Aa Aa Aa Aa Aa Aa Aa fun a F => ?_
  refine ls F W Aa (AU F Aa Aa Aa).q fun a w F W => ?_
  refine ls F W Aa (Af F Aa).q fun a w F W => ?_
  iterate 3 refine GD F Aa Aa Aa Aa Aa Aa Aa fun a F => ?_
  refine ls F W Aa (AU F Aa Aa Aa).q fun a w F W => ?_
  refine ls F W Aa (Af F Aa).q fun a w F W => ?_
  iterate 4 refine GD F Aa Aa Aa Aa Aa Aa Aa fun a F => ?_
  refine ls F W Aa (AU F Aa Aa Aa).q fun a w F W => ?_
  refine ls F W Aa (Af F Aa).q fun a w F W => ?_
  iterate 2 refine GD F Aa Aa Aa Aa Aa Aa Aa fun a F => ?_
  refine ls F W Aa (AU F Aa Aa Aa).q fun a w F W => ?_
  refine ls F W Aa (Ad F Aa).q fun a w F W => ?_
  refine Ae (Ac ?_)
  have W := W.frontZ (i := 1) Aa Aa
  have W := W.frontM (i := 2) Aa Aa
  have W := W.frontM (i := 2) Aa Aa
  have W := W.frontM (i := 2) Aa Aa
  have W := W.sub (M' := [(b3, [.int .i64 4, .int .i64 0, .int .i64 0, v2]), (b2, [.int .i64 3, .int .i64 1, .int .i64 2, .slice none 0 0]), (b1, [.int .i64 3, .int .i64 1, .int .i64 1, .slice none 0 0])]) (Z' := [row v2 31 B4 ([Tr31.of (6, 0, 0, ([Tr31.of (3, 1, 1, ([] : List Tr31)), Tr31.of (3, 1, 2, ([] : List Tr31))] : List Tr31))] : List Tr31)]) (List.Sublist.refl _) (List.Sublist.cons_cons _ (List.nil_sublist _))
  exact ⟨_, H, F.re ⟨rfl, trivial⟩, W⟩
 rintro a w ⟨x1, hj, F, W⟩
 have hj := AV hj
 subst hj
 have H := K1
 clear G1 K1
 refine Aw ?_
 have H := AV H
 subst H
 refine A2 (.inl Aa) F W Aa (AB F Aa) ?_
 exact ⟨rfl, W.done⟩
theorem OH : type_of% Tryd.underlying4 := Tryd.underlying4
theorem H6 : Has Tryd.prog 6 := ⟨fun args w => Ak Tryd.func6 rfl (by decide) args w⟩
noncomputable def Eu (p0 : Tr24) (p1 : Int) (p2 : Int) (p3 : Int × Int × Int × Int) (p4 : Int) (p5 : Int) (p6 : Int × Int × Int × Int) : Option Bool := (IE p0).bind fun x1 => ((Gu p0).bind fun x3 => (if (!x3) = true then some true else (Fw x1 p1 p2 p3 p4 p5 p6).bind fun x4 => some (!x4))).bind fun x2 => (if x2 = true then (Eo).bind fun x5 => some x5 else ((Dz x1 p1 p2 p3).bind fun x7 => (Dz x1 p4 p5 p6).bind fun x8 => (if x7 = x8 then (Eo).bind fun x9 => some x9 else some false)).bind fun x6 => some x6)
theorem HR (Y : Nat → Prop) (w0 : World) (v1 : Value) (p0 : Tr24) (p1 : Int) (p2 : Int) (p3 : Int × Int × Int × Int) (p4 : Int) (p5 : Int) (p6 : Int × Int × Int × Int) (r : Bool) (H : Eu p0 p1 p2 p3 p4 p5 p6 = some r) (h_v1 : Sl w0 (NX []) J4 v1 p0.un.2.2.2) (hG : Gk [] w0) :
    Calls Tryd.prog 4 #[.agg #[.int .i64 p0.un.1, .int .i64 p0.un.2.1, .int .i64 p0.un.2.2.1, v1], .int .i64 p1, .int .i64 p2, .agg #[.int .i64 p3.1, .int .i64 p3.2.1, .int .i64 p3.2.2.1, .int .i64 p3.2.2.2], .int .i64 p4, .int .i64 p5, .agg #[.int .i64 p6.1, .int .i64 p6.2.1, .int .i64 p6.2.2.1, .int .i64 p6.2.2.2]] w0 fun e w' => e = .returned (.bool r) ∧ Below w0.heap.size w0 w' := by
 refine enter Tryd.func4 Aa Tryd.ntmps4 Aa fun a F => ?_
 have W := Stw.start Y w0
 obtain ⟨v2, h1, h_v1⟩ := h_v1.ex Js
 unfold Eu at H
 refine Ag (Ab ?_)
 refine Do (cs := [.int .i64 p0.un.1, .int .i64 p0.un.2.1, .int .i64 p0.un.2.2.1, v1]) F W Aa Aa Aa fun b1 a w F W => ?_
 refine Do (cs := [.int .i64 p3.1, .int .i64 p3.2.1, .int .i64 p3.2.2.1, .int .i64 p3.2.2.2]) F W Aa Aa Aa fun b2 a w F W => ?_
 refine Do (cs := [.int .i64 p6.1, .int .i64 p6.2.1, .int .i64 p6.2.2.1, .int .i64 p6.2.2.2]) F W Aa Aa Aa fun b3 a w F W => ?_
 refine ls F W Aa (Ad F Aa).q fun a w F W => ?_
 refine Ae (Ac (Ag (Ab ?_)))
 refine ls F W Aa (As (v := Value.agg #[.int .i64 p0.un.1, .int .i64 p0.un.2.1, .int .i64 p0.un.2.2.1, v1]) 2 F Aa Aa Nv Aa).q fun a w F W => ?_
 obtain ⟨x1, h2, H⟩ := Aj H
 refine BE (Ml := []) (Zl := []) (M := [(b3, [.int .i64 p6.1, .int .i64 p6.2.1, .int .i64 p6.2.2.1, .int .i64 p6.2.2.2]), (b2, [.int .i64 p3.1, .int .i64 p3.2.1, .int .i64 p3.2.2.1, .int .i64 p3.2.2.2]), (b1, [.int .i64 p0.un.1, .int .i64 p0.un.2.1, .int .i64 p0.un.2.2.1, v1])]) (Z := []) (β := Value) (rv := fun x => .agg #[.int .i64 x1.un.1, .int .i64 x1.un.2.1, .int .i64 x1.un.2.2.1, x]) (MM := fun x => []) (ZZ := fun x => [row x 31 B4 x1.un.2.2.2]) F W H7 Aa Aa (fun hL => Kz _ w (v1) p0 _ h2 ((Bn Js h1 (AQ h_v1)) w W).nx) fun x a w F W => ?_
 obtain ⟨v3, rfl⟩ : ∃ y, y = x := ⟨x, rfl⟩
 have W : Stw ⟨Y, [], w0⟩ [(b3, [.int .i64 p6.1, .int .i64 p6.2.1, .int .i64 p6.2.2.1, .int .i64 p6.2.2.2]), (b2, [.int .i64 p3.1, .int .i64 p3.2.1, .int .i64 p3.2.2.1, .int .i64 p3.2.2.2]), (b1, [.int .i64 p0.un.1, .int .i64 p0.un.2.1, .int .i64 p0.un.2.2.1, v1])] [row v3 31 B4 x1.un.2.2.2] w := W
 refine C8 (cs := [.int .i64 0, .int .i64 0, .int .i64 0, .slice none 0 0]) F W Aa JD Aa fun b4 a w F W => ?_
 refine Cl (vs := [.int .i64 x1.un.1, .int .i64 x1.un.2.1, .int .i64 x1.un.2.2.1, v3]) (M' := [(b4, [.int .i64 x1.un.1, .int .i64 x1.un.2.1, .int .i64 x1.un.2.2.1, v3]), (b3, [.int .i64 p6.1, .int .i64 p6.2.1, .int .i64 p6.2.2.1, .int .i64 p6.2.2.2]), (b2, [.int .i64 p3.1, .int .i64 p3.2.1, .int .i64 p3.2.2.1, .int .i64 p3.2.2.2]), (b1, [.int .i64 p0.un.1, .int .i64 p0.un.2.1, .int .i64 p0.un.2.2.1, v1])]) 0 F W Aa Aa Aa D7 Aa Aa Aa (AK Aa (AK Aa (AK Aa (AK (W.one (k := 0) Aa) DI)))) Aa fun w W => ?_
 refine Ae (Ac (Ag ?_))
 obtain ⟨o1, G1, K1⟩ := Aj H
 refine AW (fun a w => ∃ x2 : Bool, some (x2) = some o1 ∧ Fr 47 [] [(1, .int .i64 p1), (2, .int .i64 p2), (4, .int .i64 p4), (5, .int .i64 p5), (10, .pointer (some ⟨b2, 0, none⟩)), (13, .pointer (some ⟨b3, 0, none⟩)), (14, .bool false), (15, .pointer (some ⟨b4, 0, none⟩)), (31, .bool x2)] a ∧ Stw ⟨Y, [], w0⟩ [(b4, [.int .i64 x1.un.1, .int .i64 x1.un.2.1, .int .i64 x1.un.2.2.1, v3]), (b3, [.int .i64 p6.1, .int .i64 p6.2.1, .int .i64 p6.2.2.1, .int .i64 p6.2.2.2]), (b2, [.int .i64 p3.1, .int .i64 p3.2.1, .int .i64 p3.2.2.1, .int .i64 p3.2.2.2]), (b1, [.int .i64 p0.un.1, .int .i64 p0.un.2.1, .int .i64 p0.un.2.2.1, v1])] [row v3 31 B4 x1.un.2.2.2] w) ?_ ?_
 ·
  have H := G1
  clear G1 K1
  refine Ab ?_
  refine ls F W Aa (As (v := Value.agg #[.int .i64 p0.un.1, .int .i64 p0.un.2.1, .int .i64 p0.un.2.2.1, v1]) 3 F Aa Aa Nv Aa).q fun a w F W => ?_
  obtain ⟨x3, h3, H⟩ := Aj H
  refine ls F W Aa (Be (v := Value.bool x3) F H5 Aa (fun w W => JQ any w (v1) p0 _ h3 (((Bn Js h1 (AQ h_v1)) : FB _ _ _ _ _ _) w W).nx)) fun a w F W => ?_
  refine ls F W Aa (Eh F Aa).q fun a w F W => ?_
  refine ls F W Aa (Af F Aa).q fun a w F W => ?_
  rcases Bool.eq_false_or_eq_true (!x3) with hb | hb
  ·
   have H := A5 hb H
   rw [hb] at F
   clear hb
   iterate 9 refine GD F Aa Aa Aa Aa Aa Aa Aa fun a F => ?_
   refine ls F W Aa (Bc F Aa Aa Aa).q fun a w F W => ?_
   refine Ae (Ac ?_)
   have W := W.frontM (i := 3) Aa Aa
   have W := W.frontM (i := 3) Aa Aa
   have W := W.frontM (i := 3) Aa Aa
   have W := W.frontM (i := 3) Aa Aa
   exact ⟨_, H, F.re ⟨rfl, Aa, Aa, Aa, Aa, Aa, Aa, Aa, Aa, trivial⟩, W⟩
  have H := A3 (by rw [hb]; decide) H
  rw [hb] at F
  clear hb
  refine Cm F W (Ah F Aa Aa Aa Aa) Aa (An Aa) (As (v := Value.agg #[.int .i64 x1.un.1, .int .i64 x1.un.2.1, .int .i64 x1.un.2.2.1, v3]) 0 F Aa Aa D7 Aa).q fun a w F W => ?_
  iterate 2 refine Cm F W (Ah F Aa Aa Aa Aa) Aa (An Aa) (Af F Aa).q fun a w F W => ?_
  refine Cm F W (Ah F Aa Aa Aa Aa) Aa (An Aa) (As (v := Value.agg #[.int .i64 p3.1, .int .i64 p3.2.1, .int .i64 p3.2.2.1, .int .i64 p3.2.2.2]) 2 F Aa Aa Mk Aa).q fun a w F W => ?_
  iterate 2 refine Cm F W (Ah F Aa Aa Aa Aa) Aa (An Aa) (Af F Aa).q fun a w F W => ?_
  refine Cm F W (Ah F Aa Aa Aa Aa) Aa (An Aa) (As (v := Value.agg #[.int .i64 p6.1, .int .i64 p6.2.1, .int .i64 p6.2.2.1, .int .i64 p6.2.2.2]) 1 F Aa Aa Mk Aa).q fun a w F W => ?_
  refine Kr (Ah F Aa Aa Aa Aa) ?_
  obtain ⟨x4, h4, H⟩ := Aj H
  refine ls F W Aa (Be (v := Value.bool x4) F OY Aa (fun w W => J0 any w (v3) x1 p1 p2 p3 p4 p5 p6 _ h4 (((Ai 0 Aa) : FB _ _ _ _ _ _) w W).nx)) fun a w F W => ?_
  refine Cm F W (Ah F Aa Aa Aa Aa) Aa (An Aa) (Eh F Aa).q fun a w F W => ?_
  refine ls F W Aa (AU F Aa Aa Aa).q fun a w F W => ?_
  refine Ae (Ac ?_)
  have W := W.frontM (i := 3) Aa Aa
  have W := W.frontM (i := 3) Aa Aa
  have W := W.frontM (i := 3) Aa Aa
  have W := W.frontM (i := 3) Aa Aa
  exact ⟨_, H, F.re ⟨rfl, Aa, Aa, Aa, Aa, Aa, Aa, Aa, Aa, trivial⟩, W⟩
 rintro a w ⟨x2, hj, F, W⟩
 have hj := AV hj
 subst hj
 have H := K1
 clear G1 K1
 refine Ao F Aa (fun hb => ?_) fun hb => ?_
 ·
  have H := A5 hb H
  rw [hb] at F
  clear hb
  refine Ag (Ab ?_)
  obtain ⟨x5, h5, H⟩ := Aj H
  refine ls F W Aa (Be (v := Value.bool x5) F H6 Aa (fun w W => HK any w _ h5 (hG.go0 W))) fun a w F W => ?_
  refine ls F W Aa (Ad F Aa).q fun a w F W => ?_
  refine Ae (Ac (Aw (A4 ?_)))
  have H := AV H
  subst H
  refine A2 (.inl Aa) F W Aa (AB F Aa) ?_
  exact ⟨rfl, W.done⟩
 have H := A3 (by rw [hb]; decide) H
 rw [hb] at F
 clear hb
 refine Au (Ac ?_)
 obtain ⟨o2, G2, K2⟩ := Aj H
 refine AW (fun a w => ∃ x6 : Bool, some (x6) = some o2 ∧ Fr 47 [] [(14, .bool x6)] a ∧ Stw ⟨Y, [], w0⟩ [(b4, [.int .i64 x1.un.1, .int .i64 x1.un.2.1, .int .i64 x1.un.2.2.1, v3]), (b3, [.int .i64 p6.1, .int .i64 p6.2.1, .int .i64 p6.2.2.1, .int .i64 p6.2.2.2]), (b2, [.int .i64 p3.1, .int .i64 p3.2.1, .int .i64 p3.2.2.1, .int .i64 p3.2.2.2]), (b1, [.int .i64 p0.un.1, .int .i64 p0.un.2.1, .int .i64 p0.un.2.2.1, v1])] [row v3 31 B4 x1.un.2.2.2] w) ?_ ?_
 ·
  have H := G2
  clear G2 K2
  refine Cb W MO (by kernel_rfl) ?_
  refine qs F Aa (As (v := Value.agg #[.int .i64 x1.un.1, .int .i64 x1.un.2.1, .int .i64 x1.un.2.2.1, v3]) 0 F Aa Aa D7 Aa).q fun a F => ?_
  iterate 2 refine qs F Aa (Af F Aa).q fun a F => ?_
  refine qs F Aa (As (v := Value.agg #[.int .i64 p3.1, .int .i64 p3.2.1, .int .i64 p3.2.2.1, .int .i64 p3.2.2.2]) 2 F Aa Aa Mk Aa).q fun a F => ?_
  obtain ⟨x7, h6, H⟩ := Aj H
  refine qs F Aa (Be (v := Value.bool x7) F NM Aa (fun w W => Fd any w (v3) x1 p1 p2 p3 _ h6 (((Ai 0 Aa) : FB _ _ _ _ _ _) w W).nx)) fun a F => ?_
  refine qs F Aa (As (v := Value.agg #[.int .i64 x1.un.1, .int .i64 x1.un.2.1, .int .i64 x1.un.2.2.1, v3]) 0 F Aa Aa D7 Aa).q fun a F => ?_
  iterate 2 refine qs F Aa (Af F Aa).q fun a F => ?_
  refine qs F Aa (As (v := Value.agg #[.int .i64 p6.1, .int .i64 p6.2.1, .int .i64 p6.2.2.1, .int .i64 p6.2.2.2]) 1 F Aa Aa Mk Aa).q fun a F => ?_
  obtain ⟨x8, h7, H⟩ := Aj H
  refine qs F Aa (Be (v := Value.bool x8) F NM Aa (fun w W => Fd any w (v3) x1 p4 p5 p6 _ h7 (((Ai 0 Aa) : FB _ _ _ _ _ _) w W).nx)) fun a F => ?_
  refine qs F Aa (NA OH F Aa Aa).q fun a F => ?_
  refine qs F Aa (Af F Aa).q fun a F => ?_
  rcases Bool.eq_false_or_eq_true (decide (x7 = x8)) with hb | hb
  ·
   have H := A5 (Bv hb) H
   rw [hb] at F
   clear hb
   obtain ⟨x9, h8, H⟩ := Aj H
   refine Bj F (Ah F Aa Aa Aa Aa) Aa (An Aa) (Be (v := Value.bool x9) F H6 Aa (fun w W => HK any w _ h8 (hG.go0 W))) fun a F => ?_
   refine qs F Aa (Bc F Aa Aa Aa).q fun a F => ?_
   refine qs F Aa (Ad F Aa).q fun a F => ?_
   refine AX fun w W => ?_
   refine Ac ?_
   have W := W.frontM (i := 3) Aa Aa
   have W := W.frontM (i := 3) Aa Aa
   have W := W.frontM (i := 3) Aa Aa
   have W := W.frontM (i := 3) Aa Aa
   exact ⟨_, H, F.re ⟨rfl, trivial⟩, W⟩
  have H := A3 (Bx hb) H
  rw [hb] at F
  clear hb
  refine CS F (Cu F Aa Aa Aa Aa Aa) Aa Aa fun a F => ?_
  refine qs F Aa (AU F Aa Aa Aa).q fun a F => ?_
  refine qs F Aa (Ad F Aa).q fun a F => ?_
  refine AX fun w W => ?_
  refine Ac ?_
  have W := W.frontM (i := 3) Aa Aa
  have W := W.frontM (i := 3) Aa Aa
  have W := W.frontM (i := 3) Aa Aa
  have W := W.frontM (i := 3) Aa Aa
  exact ⟨_, H, F.re ⟨rfl, trivial⟩, W⟩
 rintro a w ⟨x6, hj, F, W⟩
 have hj := AV hj
 subst hj
 have H := K2
 clear G2 K2
 refine Aw ?_
 have H := AV H
 subst H
 refine A2 (.inl Aa) F W Aa (AB F Aa) ?_
 exact ⟨rfl, W.done⟩
end Go.Proofs.YtepfcpffbabgmaaDoor
