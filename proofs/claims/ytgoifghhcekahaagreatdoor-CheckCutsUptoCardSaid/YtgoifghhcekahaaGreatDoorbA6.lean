/- The functions of layer 30, JA. Conditions: none. -/
import Derived.Test.YtgoifghhcekahaaGreatDoorbA5
namespace Go.Proofs.YtgoifghhcekahaaGreatDoor
noncomputable section
open Go Go.RowKit
set_option linter.unusedVariables false
set_option linter.unusedSimpArgs false
set_option maxRecDepth 20000
theorem XC : Has Tryz.prog 88 := ⟨fun args w => Aj Tryz.func88 rfl (by decide) args w⟩
def IC (p0 : Tr36) : Option Bool := (if p0.un.1 = 3 then (if (DH p0.un.2.1) = true then (if 0 ≤ p0.un.2.2.1 then (Jd p0.un.2.1).bind fun x2 => (if p0.un.2.2.1 ≤ x2 then some (decide ((p0.un.2.2.2.length : Int) = 0)) else some false) else some false) else some false).bind fun x1 => some x1 else (if (decide (p0.un.2.1 ≠ 0) || decide (p0.un.2.2.1 ≠ 0)) = true then some false else (if p0.un.1 = 1 then some true else some (decide (p0.un.1 = 2))).bind fun x3 => (if x3 = true then some (decide ((p0.un.2.2.2.length : Int) = 0)) else (if p0.un.1 = 4 then some (decide ((p0.un.2.2.2.length : Int) = 1)) else (if p0.un.1 = 5 then some true else some (decide (p0.un.1 = 6))).bind fun x4 => (if x4 = true then some (decide (2 ≤ (p0.un.2.2.2.length : Int)) && decide ((p0.un.2.2.2.length : Int) ≤ 8)) else some false)))))
theorem R9 (Y : Nat → Prop) (w0 : World) (v1 : Value) (p0 : Tr36) (r : Bool) (H : IC p0 = some r) (h_v1 : Sl w0 (NX []) BF v1 p0.un.2.2.2) :
    Calls Tryz.prog 91 #[.agg #[.int .i64 p0.un.1, .int .i64 p0.un.2.1, .int .i64 p0.un.2.2.1, v1]] w0 fun e w' => e = .returned (.bool r) ∧ Below w0.heap.size w0 w' := by
 refine enter Tryz.func91 Aa Tryz.ntmps91 Aa fun a F => ?_
 have W := Stw.start Y w0
 obtain ⟨v2, h1, h_v1⟩ := h_v1.ex BV
 unfold IC at H
 refine Ah (Ab ?_)
 refine CS (cs := [.int .i64 p0.un.1, .int .i64 p0.un.2.1, .int .i64 p0.un.2.2.1, v1]) F W Aa Aa Aa fun b1 a w F W => ?_
 refine ls F W Aa (Ae F Aa).q fun a w F W => ?_
 refine Ad (Ac (Ah (Ah (Ab ?_))))
 refine ls F W Aa (Ai Dt Aa Aa Aa T3 F Aa 0 Aa).q fun a w F W => ?_
 refine ls F W Aa (Ao (v := Value.int .i64 p0.un.1) 0 F Aa Aa T3 Aa).q fun a w F W => ?_
 refine ls F W Aa (A7 F Aa Aa).q fun a w F W => ?_
 refine Ad (Ac ?_)
 refine Aw F Aa (fun hb => ?_) fun hb => ?_
 ·
  have H := AV (Bg hb) H
  rw [hb] at F
  obtain ⟨o1, G1, K1⟩ := Am H
  refine AO (fun a w => ∃ x1 : Bool, some (x1) = some o1 ∧ Fr 64 [] [(1, .pointer (some ⟨b1, 0, none⟩)), (2, .bool x1)] a ∧ Stw ⟨Y, [], w0⟩ [(b1, [.int .i64 p0.un.1, .int .i64 p0.un.2.1, .int .i64 p0.un.2.2.1, v1])] [] w) ?_ ?_
  ·
   have H := G1
   refine CK W MO (by kernel_rfl) ?_
   refine qs F Aa (Ai Dt Aa Aa Aa T3 F Aa 1 Aa).q fun a F => ?_
   refine qs F Aa (Ao (v := Value.int .i64 p0.un.2.1) 0 F Aa Aa T3 Aa).q fun a F => ?_
   refine qs F Aa (A3 (v := Value.bool (DH p0.un.2.1)) F XC Aa (fun w W => Lg any w p0.un.2.1 _ Aa)) fun a F => ?_
   refine qs F Aa (Ag F Aa).q fun a F => ?_
   rcases bxq (DH p0.un.2.1) with hb | hb
   ·
    have H := AV hb H
    rw [hb] at F
    refine Bk F (Af F Aa Aa Aa Aa) Aa (Ak Aa) (Ai Dt Aa Aa Aa T3 F Aa 2 Aa).q fun a F => ?_
    refine Bk F (Af F Aa Aa Aa Aa) Aa (Ak Aa) (Ao (v := Value.int .i64 p0.un.2.2.1) 0 F Aa Aa T3 Aa).q fun a F => ?_
    refine Bk F (Af F Aa Aa Aa Aa) Aa (Ak Aa) (D4 F Aa Aa).q fun a F => ?_
    refine qs F Aa (Ax F Aa Aa Aa).q fun a F => ?_
    refine qs F Aa (Ag F Aa).q fun a F => ?_
    rcases bxq (decide (0 ≤ p0.un.2.2.1)) with hb | hb
    ·
     have H := AV (Bg hb) H
     rw [hb] at F
     refine Bk F (Af F Aa Aa Aa Aa) Aa (Ak Aa) (Ai Dt Aa Aa Aa T3 F Aa 2 Aa).q fun a F => ?_
     refine Bk F (Af F Aa Aa Aa Aa) Aa (Ak Aa) (Ao (v := Value.int .i64 p0.un.2.2.1) 0 F Aa Aa T3 Aa).q fun a F => ?_
     refine Bk F (Af F Aa Aa Aa Aa) Aa (Ak Aa) (Ai Dt Aa Aa Aa T3 F Aa 1 Aa).q fun a F => ?_
     refine Bk F (Af F Aa Aa Aa Aa) Aa (Ak Aa) (Ao (v := Value.int .i64 p0.un.2.1) 0 F Aa Aa T3 Aa).q fun a F => ?_
     obtain ⟨x2, h2, H⟩ := Am H
     refine Bk F (Af F Aa Aa Aa Aa) Aa (Ak Aa) (A3 (v := Value.int .i64 x2) F V8 Aa (fun w W => Po any w p0.un.2.1 _ h2)) fun a F => ?_
     refine Bk F (Af F Aa Aa Aa Aa) Aa (Ak Aa) (H4 F Aa Aa).q fun a F => ?_
     refine qs F Aa (Ax F Aa Aa Aa).q fun a F => ?_
     refine qs F Aa (Ag F Aa).q fun a F => ?_
     rcases bxq (decide (p0.un.2.2.1 ≤ x2)) with hb | hb
     ·
      have H := AV (Bg hb) H
      rw [hb] at F
      refine Bk F (Af F Aa Aa Aa Aa) Aa (Ak Aa) (Ai Dt Aa Aa Aa Kg F Aa 3 Aa).q fun a F => ?_
      refine Bk F (Af F Aa Aa Aa Aa) Aa (Ak Aa) (Ao (v := v1) 0 F Aa Aa Kg Aa).q fun a F => ?_
      refine Bk F (Af F Aa Aa Aa Aa) Aa (Ak Aa) (CA (r := BF) (l := p0.un.2.2.2) JW Aa F Aa (AH BV h1 (Aq h_v1))).q fun a F => ?_
      refine Bk F (Af F Aa Aa Aa Aa) Aa (Ak Aa) (A7 F Aa Aa).q fun a F => ?_
      refine qs F Aa (Ax F Aa Aa Aa).q fun a F => ?_
      refine qs F Aa (Ae F Aa).q fun a F => ?_
      refine A9 fun w W => ?_
      refine Ac ?_
      exact ⟨_, H, F.re ⟨rfl, Aa, trivial⟩, W⟩
     have H := AR (Bf hb) H
     rw [hb] at F
     iterate 4 refine B4 F (Bi F Aa Aa Aa Aa Aa) Aa Aa fun a F => ?_
     refine qs F Aa (As F Aa Aa Aa).q fun a F => ?_
     refine qs F Aa (Ae F Aa).q fun a F => ?_
     refine A9 fun w W => ?_
     refine Ac ?_
     exact ⟨_, H, F.re ⟨rfl, Aa, trivial⟩, W⟩
    have H := AR (Bf hb) H
    rw [hb] at F
    iterate 6 refine B4 F (Bi F Aa Aa Aa Aa Aa) Aa Aa fun a F => ?_
    refine qs F Aa (As F Aa Aa Aa).q fun a F => ?_
    refine qs F Aa (Ag F Aa).q fun a F => ?_
    iterate 4 refine B4 F (Bi F Aa Aa Aa Aa Aa) Aa Aa fun a F => ?_
    refine qs F Aa (As F Aa Aa Aa).q fun a F => ?_
    refine qs F Aa (Ae F Aa).q fun a F => ?_
    refine A9 fun w W => ?_
    refine Ac ?_
    exact ⟨_, H, F.re ⟨rfl, Aa, trivial⟩, W⟩
   have H := AR (by rw [hb]; decide) H
   rw [hb] at F
   iterate 3 refine B4 F (Bi F Aa Aa Aa Aa Aa) Aa Aa fun a F => ?_
   refine qs F Aa (As F Aa Aa Aa).q fun a F => ?_
   refine qs F Aa (Ag F Aa).q fun a F => ?_
   iterate 6 refine B4 F (Bi F Aa Aa Aa Aa Aa) Aa Aa fun a F => ?_
   refine qs F Aa (As F Aa Aa Aa).q fun a F => ?_
   refine qs F Aa (Ag F Aa).q fun a F => ?_
   iterate 4 refine B4 F (Bi F Aa Aa Aa Aa Aa) Aa Aa fun a F => ?_
   refine qs F Aa (As F Aa Aa Aa).q fun a F => ?_
   refine qs F Aa (Ae F Aa).q fun a F => ?_
   refine A9 fun w W => ?_
   refine Ac ?_
   exact ⟨_, H, F.re ⟨rfl, Aa, trivial⟩, W⟩
  rintro a w ⟨x1, hj, F, W⟩
  have hj := AP hj
  subst hj
  have H := K1
  refine Av (AN ?_)
  have H := AP H
  subst H
  refine AJ (.inl Aa) F W Aa (AB F Aa) ?_
  exact ⟨rfl, W.done⟩
 have H := AR (Bf hb) H
 rw [hb] at F
 refine Ay (Ac (Ah ?_))
 refine AO (fun a w => Fr 64 [] [(1, .pointer (some ⟨b1, 0, none⟩)), (2, .bool false), (35, .bool (decide (p0.un.2.1 ≠ 0) || decide (p0.un.2.2.1 ≠ 0)))] a ∧ Stw ⟨Y, [], w0⟩ [(b1, [.int .i64 p0.un.1, .int .i64 p0.un.2.1, .int .i64 p0.un.2.2.1, v1])] [] w) ?_ ?_
 ·
  refine Ab ?_
  refine ls F W Aa (Ai Dt Aa Aa Aa T3 F Aa 1 Aa).q fun a w F W => ?_
  refine ls F W Aa (Ao (v := Value.int .i64 p0.un.2.1) 0 F Aa Aa T3 Aa).q fun a w F W => ?_
  refine ls F W Aa (Ip F Aa Aa).q fun a w F W => ?_
  refine ls F W Aa (Ag F Aa).q fun a w F W => ?_
  rcases bxq (decide (p0.un.2.1 ≠ 0)) with hb0 | hb0
  ·
   rw [hb0] at F
   iterate 3 refine Dz F Aa Aa Aa Aa Aa Aa Aa fun a F => ?_
   refine ls F W Aa (Ax F Aa Aa Aa).q fun a w F W => ?_
   refine Ad (Ac ?_)
   exact ⟨F.re ⟨rfl, Aa, (by show some (Value.bool true) = some (Value.bool (decide (p0.un.2.1 ≠ 0) || decide (p0.un.2.2.1 ≠ 0))); try rw [hb0]; all_goals simp only [Bool.not_true, Bool.not_false, Bool.true_and, Bool.false_and, Bool.true_or, Bool.false_or, Bool.and_true, Bool.or_false, cond_true, cond_false]), trivial⟩, W⟩
  rw [hb0] at F
  refine AK F W (Af F Aa Aa Aa Aa) Aa (Ak Aa) (Ai Dt Aa Aa Aa T3 F Aa 2 Aa).q fun a w F W => ?_
  refine AK F W (Af F Aa Aa Aa Aa) Aa (Ak Aa) (Ao (v := Value.int .i64 p0.un.2.2.1) 0 F Aa Aa T3 Aa).q fun a w F W => ?_
  refine AK F W (Af F Aa Aa Aa Aa) Aa (Ak Aa) (Ip F Aa Aa).q fun a w F W => ?_
  refine ls F W Aa (As F Aa Aa Aa).q fun a w F W => ?_
  refine Ad (Ac ?_)
  exact ⟨F.re ⟨rfl, Aa, (by show some (Value.bool (decide (p0.un.2.2.1 ≠ 0))) = some (Value.bool (decide (p0.un.2.1 ≠ 0) || decide (p0.un.2.2.1 ≠ 0))); try rw [hb0]; all_goals simp only [Bool.not_true, Bool.not_false, Bool.true_and, Bool.false_and, Bool.true_or, Bool.false_or, Bool.and_true, Bool.or_false, cond_true, cond_false]), trivial⟩, W⟩
 rintro a w ⟨F, W⟩
 refine Aw F Aa (fun hb => ?_) fun hb => ?_
 ·
  have H := AV hb H
  rw [hb] at F
  refine Ah (Ab ?_)
  refine ls F W Aa (Ae F Aa).q fun a w F W => ?_
  refine Ad (Ac (Av (AN ?_)))
  have H := AP H
  subst H
  refine AJ (.inl Aa) F W Aa (AB F Aa) ?_
  exact ⟨rfl, W.done⟩
 have H := AR (by rw [hb]; decide) H
 rw [hb] at F
 refine Ay (Ac (Ah (Ah (Ab ?_))))
 refine ls F W Aa (Ai Dt Aa Aa Aa T3 F Aa 0 Aa).q fun a w F W => ?_
 refine ls F W Aa (Ao (v := Value.int .i64 p0.un.1) 0 F Aa Aa T3 Aa).q fun a w F W => ?_
 refine Ad (Ac (Az ?_))
 obtain ⟨o2, G2, K2⟩ := Am H
 refine AO (fun a w => ∃ x3 : Bool, some (x3) = some o2 ∧ Fr 64 [] [(1, .pointer (some ⟨b1, 0, none⟩)), (2, .bool false), (37, .int .i64 p0.un.1), (38, .bool x3)] a ∧ Stw ⟨Y, [], w0⟩ [(b1, [.int .i64 p0.un.1, .int .i64 p0.un.2.1, .int .i64 p0.un.2.2.1, v1])] [] w) ?_ ?_
 ·
  have H := G2
  refine Ah (Ab ?_)
  refine ls F W Aa (A7 F Aa Aa).q fun a w F W => ?_
  refine ls F W Aa (Ae F Aa).q fun a w F W => ?_
  refine Ad (Ac ?_)
  refine Aw F Aa (fun hb => ?_) fun hb => ?_
  ·
   have H := AV (Bg hb) H
   rw [hb] at F
   refine Ay (Ac ?_)
   exact ⟨_, H, F.re ⟨rfl, Aa, Aa, Aa, trivial⟩, W⟩
  have H := AR (Bf hb) H
  rw [hb] at F
  refine Ab ?_
  refine ls F W Aa (A7 F Aa Aa).q fun a w F W => ?_
  refine ls F W Aa (Ae F Aa).q fun a w F W => ?_
  refine Ad (Ac ?_)
  exact ⟨_, H, F.re ⟨rfl, Aa, Aa, Aa, trivial⟩, W⟩
 rintro a w ⟨x3, hj, F, W⟩
 have hj := AP hj
 subst hj
 have H := K2
 refine Aw F Aa (fun hb => ?_) fun hb => ?_
 ·
  have H := AV hb H
  rw [hb] at F
  refine Ah (Ab ?_)
  refine ls F W Aa (Ai Dt Aa Aa Aa Kg F Aa 3 Aa).q fun a w F W => ?_
  refine ls F W Aa (Ao (v := v1) 0 F Aa Aa Kg Aa).q fun a w F W => ?_
  refine ls F W Aa (CA (r := BF) (l := p0.un.2.2.2) JW Aa F Aa (AH BV h1 (Aq h_v1))).q fun a w F W => ?_
  refine ls F W Aa (A7 F Aa Aa).q fun a w F W => ?_
  refine ls F W Aa (Ae F Aa).q fun a w F W => ?_
  refine Ad (Ac (Av (AQ (AN ?_))))
  have H := AP H
  subst H
  refine AJ (.inl Aa) F W Aa (AB F Aa) ?_
  exact ⟨rfl, W.done⟩
 have H := AR (by rw [hb]; decide) H
 rw [hb] at F
 refine Ah (Ab ?_)
 refine ls F W Aa (A7 F Aa Aa).q fun a w F W => ?_
 refine ls F W Aa (Ae F Aa).q fun a w F W => ?_
 refine Ad (Ac ?_)
 refine Aw F Aa (fun hb => ?_) fun hb => ?_
 ·
  have H := AV (Bg hb) H
  rw [hb] at F
  refine Ah (Ab ?_)
  refine ls F W Aa (Ai Dt Aa Aa Aa Kg F Aa 3 Aa).q fun a w F W => ?_
  refine ls F W Aa (Ao (v := v1) 0 F Aa Aa Kg Aa).q fun a w F W => ?_
  refine ls F W Aa (CA (r := BF) (l := p0.un.2.2.2) JW Aa F Aa (AH BV h1 (Aq h_v1))).q fun a w F W => ?_
  refine ls F W Aa (A7 F Aa Aa).q fun a w F W => ?_
  refine ls F W Aa (Ae F Aa).q fun a w F W => ?_
  refine Ad (Ac (Av (AQ (AN ?_))))
  have H := AP H
  subst H
  refine AJ (.inl Aa) F W Aa (AB F Aa) ?_
  exact ⟨rfl, W.done⟩
 have H := AR (Bf hb) H
 rw [hb] at F
 obtain ⟨o3, G3, K3⟩ := Am H
 refine AO (fun a w => ∃ x4 : Bool, some (x4) = some o3 ∧ Fr 64 [] [(1, .pointer (some ⟨b1, 0, none⟩)), (2, .bool false), (51, .bool x4)] a ∧ Stw ⟨Y, [], w0⟩ [(b1, [.int .i64 p0.un.1, .int .i64 p0.un.2.1, .int .i64 p0.un.2.2.1, v1])] [] w) ?_ ?_
 ·
  have H := G3
  refine Ah (Ab ?_)
  refine ls F W Aa (A7 F Aa Aa).q fun a w F W => ?_
  refine ls F W Aa (Ae F Aa).q fun a w F W => ?_
  refine Ad (Ac ?_)
  refine Aw F Aa (fun hb => ?_) fun hb => ?_
  ·
   have H := AV (Bg hb) H
   rw [hb] at F
   refine Ay (Ac ?_)
   exact ⟨_, H, F.re ⟨rfl, Aa, Aa, trivial⟩, W⟩
  have H := AR (Bf hb) H
  rw [hb] at F
  refine Ab ?_
  refine ls F W Aa (A7 F Aa Aa).q fun a w F W => ?_
  refine ls F W Aa (Ae F Aa).q fun a w F W => ?_
  refine Ad (Ac ?_)
  exact ⟨_, H, F.re ⟨rfl, Aa, Aa, trivial⟩, W⟩
 rintro a w ⟨x4, hj, F, W⟩
 have hj := AP hj
 subst hj
 have H := K3
 refine Aw F Aa (fun hb => ?_) fun hb => ?_
 ·
  have H := AV hb H
  rw [hb] at F
  refine AO (fun a w => Fr 64 [] [(2, .bool (decide (2 ≤ (p0.un.2.2.2.length : Int)) && decide ((p0.un.2.2.2.length : Int) ≤ 8)))] a ∧ Stw ⟨Y, [], w0⟩ [(b1, [.int .i64 p0.un.1, .int .i64 p0.un.2.1, .int .i64 p0.un.2.2.1, v1])] [] w) ?_ ?_
  ·
   refine Ab ?_
   refine ls F W Aa (Ai Dt Aa Aa Aa Kg F Aa 3 Aa).q fun a w F W => ?_
   refine ls F W Aa (Ao (v := v1) 0 F Aa Aa Kg Aa).q fun a w F W => ?_
   refine ls F W Aa (CA (r := BF) (l := p0.un.2.2.2) JW Aa F Aa (AH BV h1 (Aq h_v1))).q fun a w F W => ?_
   refine ls F W Aa (D4 F Aa Aa).q fun a w F W => ?_
   refine ls F W Aa (Ag F Aa).q fun a w F W => ?_
   rcases bxq (decide (2 ≤ (p0.un.2.2.2.length : Int))) with hb0 | hb0
   ·
    rw [hb0] at F
    refine AK F W (Af F Aa Aa Aa Aa) Aa (Ak Aa) (Ai Dt Aa Aa Aa Kg F Aa 3 Aa).q fun a w F W => ?_
    refine AK F W (Af F Aa Aa Aa Aa) Aa (Ak Aa) (Ao (v := v1) 0 F Aa Aa Kg Aa).q fun a w F W => ?_
    refine AK F W (Af F Aa Aa Aa Aa) Aa (Ak Aa) (CA (r := BF) (l := p0.un.2.2.2) JW Aa F Aa (AH BV h1 (Aq h_v1))).q fun a w F W => ?_
    refine AK F W (Af F Aa Aa Aa Aa) Aa (Ak Aa) (H4 F Aa Aa).q fun a w F W => ?_
    refine ls F W Aa (Ax F Aa Aa Aa).q fun a w F W => ?_
    refine ls F W Aa (Ae F Aa).q fun a w F W => ?_
    refine Ad (Ac ?_)
    exact ⟨F.re ⟨(by show some (Value.bool (decide ((p0.un.2.2.2.length : Int) ≤ 8))) = some (Value.bool (decide (2 ≤ (p0.un.2.2.2.length : Int)) && decide ((p0.un.2.2.2.length : Int) ≤ 8))); try rw [hb0]; all_goals simp only [Bool.not_true, Bool.not_false, Bool.true_and, Bool.false_and, Bool.true_or, Bool.false_or, Bool.and_true, Bool.or_false, cond_true, cond_false]), trivial⟩, W⟩
   rw [hb0] at F
   iterate 4 refine Dz F Aa Aa Aa Aa Aa Aa Aa fun a F => ?_
   refine ls F W Aa (As F Aa Aa Aa).q fun a w F W => ?_
   refine ls F W Aa (Ae F Aa).q fun a w F W => ?_
   refine Ad (Ac ?_)
   exact ⟨F.re ⟨(by show some (Value.bool false) = some (Value.bool (decide (2 ≤ (p0.un.2.2.2.length : Int)) && decide ((p0.un.2.2.2.length : Int) ≤ 8))); try rw [hb0]; all_goals simp only [Bool.not_true, Bool.not_false, Bool.true_and, Bool.false_and, Bool.true_or, Bool.false_or, Bool.and_true, Bool.or_false, cond_true, cond_false]), trivial⟩, W⟩
  rintro a w ⟨F, W⟩
  refine Av (AQ (AN ?_))
  have H := AP H
  subst H
  refine AJ (.inl Aa) F W Aa (AB F Aa) ?_
  exact ⟨rfl, W.done⟩
 have H := AR (by rw [hb]; decide) H
 rw [hb] at F
 refine Ay (AU (Ac (Ah (Ab ?_))))
 refine ls F W Aa (Ae F Aa).q fun a w F W => ?_
 refine Ad (Ac (Av ?_))
 have H := AP H
 subst H
 refine AJ (.inl Aa) F W Aa (AB F Aa) ?_
 exact ⟨rfl, W.done⟩
theorem Yp : Has Tryz.prog 91 := ⟨fun args w => Aj Tryz.func91 rfl (by decide) args w⟩
theorem XS : Has Tryz.prog 54 := ⟨fun args w => Aj Tryz.func54 rfl (by decide) args w⟩
def Bm (fRec : Int → Tr36 → Int → Option (Bool × Int)) (p1 : Tr36) (p2 : Int) : (Int × Int) → Option ((Int × Int) ⊕ (Int ⊕ (Bool × Int)))
  | (x4, x5) => (if x4 < (p1.un.2.2.2.length : Int) then (ix p1.un.2.2.2 x4).bind fun x6 => (fRec x5 x6 (AG (p2 - 1))).bind fun x7 => (if (!x7.1) = true then some (.inr (.inr (false, x7.2))) else some (.inl (AG (x4 + 1), x7.2))) else some (.inr (.inl x5)))
def Ck (fRec : Int → Tr36 → Int → Option (Bool × Int)) (p0 : Int) (p1 : Tr36) (p2 : Int) : Option (Bool × Int) := (if (AG (p0 - 1)) < 0 then some true else (if p2 < 1 then some true else (IC p1).bind fun x2 => some (!x2))).bind fun x1 => (if x1 = true then some (false, AG (p0 - 1)) else Je (A6 (Bm fRec p1 p2) (0, AG (p0 - 1))) fun x3 => some (true, x3))
def Bd : Nat → Int → Tr36 → Int → Option (Bool × Int)
  | 0 => fun _ _ _ => none
  | n + 1 => Ck (Bd n)
def E5 (p0 : Int) (p1 : Tr36) (p2 : Int) : Option (Bool × Int) := Jl fun n => Bd n p0 p1 p2
theorem Lk (fRec : Int → Tr36 → Int → Option (Bool × Int)) (ih : ∀ (Y : Nat → Prop) (X : List Nat) (w0 : World) (q_p0 : Nat) (v1 : Value) (p0 : Int) (p1 : Tr36) (p2 : Int) (r : Bool × Int) (H : fRec p0 p1 p2 = some r) (h_v1 : Sl w0 (NX X) BF v1 p1.un.2.2.2) (hL : Stw ⟨Y, X, w0⟩ [(q_p0, [.int .i64 p0])] [] w0), Calls Tryz.prog 54 #[.pointer (some ⟨q_p0, 0, none⟩), .agg #[.int .i64 p1.un.1, .int .i64 p1.un.2.1, .int .i64 p1.un.2.2.1, v1], .int .i64 p2] w0 fun e w' => ∃ x : Unit, e = .returned (.bool r.1) ∧ Stw ⟨Y, X, w0⟩ [(q_p0, [.int .i64 r.2])] [] w') (Y : Nat → Prop) (X : List Nat) (w0 : World) (q_p0 : Nat) (v1 : Value) (p0 : Int) (p1 : Tr36) (p2 : Int) (r : Bool × Int) (H : Ck fRec p0 p1 p2 = some r) (h_v1 : Sl w0 (NX X) BF v1 p1.un.2.2.2) (hL : Stw ⟨Y, X, w0⟩ [(q_p0, [.int .i64 p0])] [] w0) :
    Calls Tryz.prog 54 #[.pointer (some ⟨q_p0, 0, none⟩), .agg #[.int .i64 p1.un.1, .int .i64 p1.un.2.1, .int .i64 p1.un.2.2.1, v1], .int .i64 p2] w0 fun e w' => ∃ x : Unit, e = .returned (.bool r.1) ∧ Stw ⟨Y, X, w0⟩ [(q_p0, [.int .i64 r.2])] [] w' := by
 refine enter Tryz.func54 Aa Tryz.ntmps54 Aa fun a F => ?_
 have W := hL
 obtain ⟨v2, h1, h_v1⟩ := h_v1.ex BV
 unfold Ck at H
 refine Ah (Ab ?_)
 refine CS (cs := [.int .i64 p1.un.1, .int .i64 p1.un.2.1, .int .i64 p1.un.2.2.1, v1]) F W Aa Aa Aa fun b1 a w F W => ?_
 refine ls F W Aa (Ae F Aa).q fun a w F W => ?_
 refine Ad (Ac (Ah (Ab ?_)))
 refine ls F W Aa (Ag F Aa).q fun a w F W => ?_
 refine ls F W Aa (CI F Aa).q fun a w F W => ?_
 refine ls F W Aa (Ai U6 Aa Aa Aa T3 F Aa 0 Aa).q fun a w F W => ?_
 refine ls F W Aa (Ao (v := Value.int .i64 p0) 1 F Aa Aa T3 Aa).q fun a w F W => ?_
 refine ls F W Aa (CT F Aa Aa Aa).q fun a w F W => ?_
 refine ls F W Aa (CI F Aa).q fun a w F W => ?_
 refine ls F W Aa (Ai U6 Aa Aa Aa T3 F Aa 0 Aa).q fun a w F W => ?_
 refine Be (vs := [.int .i64 (AG (p0 - 1))]) (M' := [(b1, [.int .i64 p1.un.1, .int .i64 p1.un.2.1, .int .i64 p1.un.2.2.1, v1]), (q_p0, [.int .i64 (AG (p0 - 1))])]) 1 F W Aa Aa Aa T3 Aa Aa Aa Aa Aa fun w W => ?_
 refine Ad (Ac (Ah ?_))
 obtain ⟨o1, G1, K1⟩ := Am H
 refine AO (fun a w => ∃ x1 : Bool, some (x1) = some o1 ∧ Fr 44 [] [(0, .pointer (some ⟨q_p0, 0, none⟩)), (2, .int .i64 p2), (4, .pointer (some ⟨b1, 0, none⟩)), (6, .bool false), (29, .bool x1)] a ∧ Stw ⟨Y, X, w0⟩ [(b1, [.int .i64 p1.un.1, .int .i64 p1.un.2.1, .int .i64 p1.un.2.2.1, v1]), (q_p0, [.int .i64 (AG (p0 - 1))])] [] w) ?_ ?_
 ·
  have H := G1
  refine Ab ?_
  refine ls F W Aa (Ag F Aa).q fun a w F W => ?_
  refine ls F W Aa (CI F Aa).q fun a w F W => ?_
  refine ls F W Aa (Ai U6 Aa Aa Aa T3 F Aa 0 Aa).q fun a w F W => ?_
  refine ls F W Aa (Ao (v := Value.int .i64 (AG (p0 - 1))) 1 F Aa Aa T3 Aa).q fun a w F W => ?_
  refine ls F W Aa (Cu F Aa Aa).q fun a w F W => ?_
  refine ls F W Aa (Ag F Aa).q fun a w F W => ?_
  rcases bxq (decide ((AG (p0 - 1)) < 0)) with hb | hb
  ·
   have H := AV (Bg hb) H
   rw [hb] at F
   iterate 2 refine Dz F Aa Aa Aa Aa Aa Aa Aa fun a F => ?_
   refine ls F W Aa (Ax F Aa Aa Aa).q fun a w F W => ?_
   refine ls F W Aa (Ag F Aa).q fun a w F W => ?_
   iterate 3 refine Dz F Aa Aa Aa Aa Aa Aa Aa fun a F => ?_
   refine ls F W Aa (Ax F Aa Aa Aa).q fun a w F W => ?_
   refine Ad (Ac ?_)
   have W := W.frontM (i := 1) Aa Aa
   have W := W.frontM (i := 1) Aa Aa
   exact ⟨_, H, F.re ⟨rfl, Aa, Aa, Aa, Aa, trivial⟩, W⟩
  have H := AR (Bf hb) H
  rw [hb] at F
  refine AK F W (Af F Aa Aa Aa Aa) Aa (Ak Aa) (Ag F Aa).q fun a w F W => ?_
  refine AK F W (Af F Aa Aa Aa Aa) Aa (Ak Aa) (Cu F Aa Aa).q fun a w F W => ?_
  refine ls F W Aa (As F Aa Aa Aa).q fun a w F W => ?_
  refine ls F W Aa (Ag F Aa).q fun a w F W => ?_
  rcases bxq (decide (p2 < 1)) with hb | hb
  ·
   have H := AV (Bg hb) H
   rw [hb] at F
   iterate 3 refine Dz F Aa Aa Aa Aa Aa Aa Aa fun a F => ?_
   refine ls F W Aa (Ax F Aa Aa Aa).q fun a w F W => ?_
   refine Ad (Ac ?_)
   have W := W.frontM (i := 1) Aa Aa
   have W := W.frontM (i := 1) Aa Aa
   exact ⟨_, H, F.re ⟨rfl, Aa, Aa, Aa, Aa, trivial⟩, W⟩
  have H := AR (Bf hb) H
  rw [hb] at F
  refine AK F W (Af F Aa Aa Aa Aa) Aa (Ak Aa) (Ao (v := Value.agg #[.int .i64 p1.un.1, .int .i64 p1.un.2.1, .int .i64 p1.un.2.2.1, v1]) 0 F Aa Aa ER Aa).q fun a w F W => ?_
  refine KH (Af F Aa Aa Aa Aa) ?_
  obtain ⟨x2, h2, H⟩ := Am H
  refine ls F W Aa (A3 (v := Value.bool x2) F Yp Aa (fun w W => R9 any w (v1) p1 _ h2 (((AH BV h1 (Aq h_v1)) : D1 _ _ _ _ _ _) w W).nx)) fun a w F W => ?_
  refine AK F W (Af F Aa Aa Aa Aa) Aa (Ak Aa) (F4 F Aa).q fun a w F W => ?_
  refine ls F W Aa (As F Aa Aa Aa).q fun a w F W => ?_
  refine Ad (Ac ?_)
  have W := W.frontM (i := 1) Aa Aa
  have W := W.frontM (i := 1) Aa Aa
  exact ⟨_, H, F.re ⟨rfl, Aa, Aa, Aa, Aa, trivial⟩, W⟩
 rintro a w ⟨x1, hj, F, W⟩
 have hj := AP hj
 subst hj
 have H := K1
 refine Aw F Aa (fun hb => ?_) fun hb => ?_
 ·
  have H := AV hb H
  rw [hb] at F
  refine Ah (Ab ?_)
  refine ls F W Aa (Ae F Aa).q fun a w F W => ?_
  refine Ad (Ac (Av (AN ?_)))
  have H := AP H
  subst H
  refine AJ (.inl Aa) F W Aa (AB F Aa) ?_
  have W := W.frontM (i := 1) Aa Aa
  have W := W.sub (M' := [(q_p0, [.int .i64 (AG (p0 - 1))])]) (Z' := []) (List.Sublist.cons_cons _ (List.nil_sublist _)) (List.Sublist.refl _)
  exact ⟨(), Aa, W⟩
 have H := AR (by rw [hb]; decide) H
 rw [hb] at F
 refine Ay (Ac ?_)
 obtain ⟨o2, G2, K2, L2⟩ := PQ H
 refine AO (fun a w => ∃ x3 : Int, some (Sum.inl x3) = some o2 ∧ Fr 44 [] [(6, .bool false)] a ∧ Stw ⟨Y, X, w0⟩ [(b1, [.int .i64 p1.un.1, .int .i64 p1.un.2.1, .int .i64 p1.un.2.2.1, v1]), (q_p0, [.int .i64 x3])] [] w) ?_ ?_
 ·
  have H := G2
  refine Ah (Ab ?_)
  refine ls F W Aa (Ai Dt Aa Aa Aa Kg F Aa 3 Aa).q fun a w F W => ?_
  refine ls F W Aa (Ao (v := v1) 0 F Aa Aa Kg Aa).q fun a w F W => ?_
  refine ls F W Aa (CA (r := BF) (l := p1.un.2.2.2) JW Aa F Aa (AH BV h1 (Aq h_v1))).q fun a w F W => ?_
  refine ls F W Aa (Ag F Aa).q fun a w F W => ?_
  refine Ad (Ac (Az ?_))
  have W := W.frontM (i := 1) Aa Aa
  have W := W.frontM (i := 1) Aa Aa
  refine BG H (fun s a w => Fr 44 [] [(0, .pointer (some ⟨q_p0, 0, none⟩)), (2, .int .i64 p2), (6, .bool false), (31, v1), (32, .int .i64 (p1.un.2.2.2.length : Int)), (33, .int .i64 s.1)] a ∧ Stw ⟨Y, X, w0⟩ [(b1, [.int .i64 p1.un.1, .int .i64 p1.un.2.1, .int .i64 p1.un.2.2.1, v1]), (q_p0, [.int .i64 s.2])] [] w) ⟨F.re ⟨rfl, Aa, Aa, Aa, Aa, Aa, trivial⟩, W⟩ fun s o a w H L3 hR => ?_
  obtain ⟨x4, x5⟩ := s
  obtain ⟨F, W⟩ := hR
  have F : Fr 44 [] [(0, .pointer (some ⟨q_p0, 0, none⟩)), (2, .int .i64 p2), (6, .bool false), (31, v1), (32, .int .i64 (p1.un.2.2.2.length : Int)), (33, .int .i64 x4)] a := F
  have W : Stw ⟨Y, X, w0⟩ [(b1, [.int .i64 p1.un.1, .int .i64 p1.un.2.1, .int .i64 p1.un.2.2.1, v1]), (q_p0, [.int .i64 x5])] [] w := W
  rw [Bm] at H
  refine Ah (Ab ?_)
  refine ls F W Aa (Cu F Aa Aa).q fun a w F W => ?_
  refine Ad (Ac (Ah ?_))
  refine Aw F Aa (fun hb => ?_) fun hb => ?_
  ·
   have H := AV (Bg hb) H
   rw [hb] at F
   refine Ay (Ac (Ah (Az (Ah (Ab ?_)))))
   obtain ⟨x6, h3, H⟩ := Am H
   obtain ⟨v3, h4, h5⟩ := Ez h1 h3
   have h6 : Hl v3 = [.int .i64 x6.un.1, .int .i64 x6.un.2.1, .int .i64 x6.un.2.2.1, (v3.2.2.2.1)] := congrArg (fun q : Tr36 => ([.int .i64 q.un.1, .int .i64 q.un.2.1, .int .i64 q.un.2.2.1, (v3.2.2.2.1)] : List Value)) h5
   refine ls F W Aa (AM (r := HW) Ps F Aa Aa (Aq h_v1) h4).q fun a w F W => ?_
   refine ls F W Aa (AA (y := Value.agg #[.int .i64 x6.un.1, .int .i64 x6.un.2.1, .int .i64 x6.un.2.2.1, (v3.2.2.2.1)]) (j := 0) (i := x4) (enc := Hl) F Aa Aa (Aq h_v1) h4 MD ER (by rw [h6]; rfl)).q fun a w F W => ?_
   refine Co (cs := [.int .i64 0, .int .i64 0, .int .i64 0, .slice none 0 0]) F W Aa QT Aa fun b2 a w F W => ?_
   refine Be (vs := [.int .i64 x6.un.1, .int .i64 x6.un.2.1, .int .i64 x6.un.2.2.1, (v3.2.2.2.1)]) (M' := [(b2, [.int .i64 x6.un.1, .int .i64 x6.un.2.1, .int .i64 x6.un.2.2.1, (v3.2.2.2.1)]), (b1, [.int .i64 p1.un.1, .int .i64 p1.un.2.1, .int .i64 p1.un.2.2.1, v1]), (q_p0, [.int .i64 x5])]) 0 F W Aa Aa Aa ER Aa Aa Aa (An Aa (An Aa (An Aa (An ((Cn (Aq h_v1) h4 (AC.snd (AC.snd (AC.snd AC.here))) (congrArg (fun q : Tr36 => q.un.2.2.2) h5)) _ W).one Cq)))) Aa fun w W => ?_
   refine Ad (Ac (Ah (Ab ?_)))
   refine ls F W Aa (Ag F Aa).q fun a w F W => ?_
   refine ls F W Aa (Ao (v := Value.agg #[.int .i64 x6.un.1, .int .i64 x6.un.2.1, .int .i64 x6.un.2.2.1, (v3.2.2.2.1)]) 0 F Aa Aa ER Aa).q fun a w F W => ?_
   refine ls F W Aa (Ag F Aa).q fun a w F W => ?_
   refine ls F W Aa (CT F Aa Aa Aa).q fun a w F W => ?_
   obtain ⟨x7, h7, H⟩ := Am H
   have W := W.frontM (i := 2) Aa Aa
   refine Bj (Ml := [(q_p0, [.int .i64 x5])]) (Zl := []) (M := [(b2, [.int .i64 x6.un.1, .int .i64 x6.un.2.1, .int .i64 x6.un.2.2.1, (v3.2.2.2.1)]), (b1, [.int .i64 p1.un.1, .int .i64 p1.un.2.1, .int .i64 p1.un.2.2.1, v1])]) (Z := []) (β := Unit) (rv := fun x => .bool x7.1) (MM := fun x => [(q_p0, [.int .i64 x7.2])]) (ZZ := fun x => []) F W XS Aa Aa (fun hL => ih _ _ w q_p0 ((v3.2.2.2.1)) x5 x6 (AG (p2 - 1)) _ h7 (Sl.at_ (W.roX h_v1 (fun g hg => GI hg)) h4 (AC.snd (AC.snd (AC.snd AC.here))) (congrArg (fun q : Tr36 => q.un.2.2.2) h5)) hL) fun x a w F W => ?_
   have W : Stw ⟨Y, X, w0⟩ [(q_p0, [.int .i64 x7.2]), (b2, [.int .i64 x6.un.1, .int .i64 x6.un.2.1, .int .i64 x6.un.2.2.1, (v3.2.2.2.1)]), (b1, [.int .i64 p1.un.1, .int .i64 p1.un.2.1, .int .i64 p1.un.2.2.1, v1])] [] w := W
   refine ls F W Aa (F4 F Aa).q fun a w F W => ?_
   refine Ad (Ac ?_)
   refine Aw F Aa (fun hb => ?_) fun hb => ?_
   ·
    have H := AV hb H
    rw [hb] at F
    refine Ah (Ab ?_)
    refine ls F W Aa (Ae F Aa).q fun a w F W => ?_
    refine Ad (Ac (Av (AQ ?_)))
    iterate 2 refine AN ?_
    refine AQ (AN ?_)
    have H := L3 _ H
    have H := L2 _ H
    have H := AP H
    subst H
    refine AJ (.inl Aa) F W Aa (AB F Aa) ?_
    have W := W.sub (M' := [(q_p0, [.int .i64 x7.2])]) (Z' := []) (List.Sublist.cons_cons _ (List.nil_sublist _)) (List.Sublist.refl _)
    exact ⟨(), Aa, W⟩
   have H := AR (by rw [hb]; decide) H
   rw [hb] at F
   refine Ay (AU (Ac (Ab ?_)))
   refine ls F W Aa (BL F Aa Aa Aa).q fun a w F W => ?_
   refine ls F W Aa (Ag F Aa).q fun a w F W => ?_
   refine Ad (Ac ?_)
   have W := W.frontM (i := 2) Aa Aa
   have W := W.sub (M' := [(b1, [.int .i64 p1.un.1, .int .i64 p1.un.2.1, .int .i64 p1.un.2.2.1, v1]), (q_p0, [.int .i64 x7.2])]) (Z' := []) (List.Sublist.cons_cons _ (List.Sublist.cons_cons _ (List.nil_sublist _))) (List.Sublist.refl _)
   exact ⟨_, H, F.re ⟨rfl, Aa, Aa, Aa, Aa, Aa, trivial⟩, W⟩
  have H := AR (Bf hb) H
  rw [hb] at F
  refine Bz ?_
  iterate 2 refine BS ?_
  refine Bx (Ac ?_)
  have W := W.frontM (i := 1) Aa Aa
  have W := W.frontM (i := 1) Aa Aa
  have H := L3 _ H
  exact ⟨_, H, F.re ⟨rfl, trivial⟩, W⟩
 rintro a w ⟨x3, hj, F, W⟩
 have H := K2 _ hj
 refine Ah (Ab ?_)
 refine ls F W Aa (Ae F Aa).q fun a w F W => ?_
 refine Ad (Ac (Av ?_))
 have H := AP H
 subst H
 refine AJ (.inl Aa) F W Aa (AB F Aa) ?_
 have W := W.frontM (i := 1) Aa Aa
 have W := W.sub (M' := [(q_p0, [.int .i64 x3])]) (Z' := []) (List.Sublist.cons_cons _ (List.nil_sublist _)) (List.Sublist.refl _)
 exact ⟨(), Aa, W⟩
theorem LC : ∀ (n : Nat) (Y : Nat → Prop) (X : List Nat) (w0 : World) (q_p0 : Nat) (v1 : Value) (p0 : Int) (p1 : Tr36) (p2 : Int) (r : Bool × Int) (H : Bd n p0 p1 p2 = some r) (h_v1 : Sl w0 (NX X) BF v1 p1.un.2.2.2) (hL : Stw ⟨Y, X, w0⟩ [(q_p0, [.int .i64 p0])] [] w0), Calls Tryz.prog 54 #[.pointer (some ⟨q_p0, 0, none⟩), .agg #[.int .i64 p1.un.1, .int .i64 p1.un.2.1, .int .i64 p1.un.2.2.1, v1], .int .i64 p2] w0 fun e w' => ∃ x : Unit, e = .returned (.bool r.1) ∧ Stw ⟨Y, X, w0⟩ [(q_p0, [.int .i64 r.2])] [] w' := by
  intro n
  induction n with
  | zero => intro Y X w0 q_p0 v1 p0 p1 p2 r H; exact nomatch H
  | succ n ih => intro Y X w0 q_p0 v1 p0 p1 p2 r H h_v1 hL; exact Lk (Bd n) ih Y X w0 q_p0 v1 p0 p1 p2 r H h_v1 hL
theorem LL (Y : Nat → Prop) (X : List Nat) (w0 : World) (q_p0 : Nat) (v1 : Value) (p0 : Int) (p1 : Tr36) (p2 : Int) (r : Bool × Int) (H : E5 p0 p1 p2 = some r) (h_v1 : Sl w0 (NX X) BF v1 p1.un.2.2.2) (hL : Stw ⟨Y, X, w0⟩ [(q_p0, [.int .i64 p0])] [] w0) :
    Calls Tryz.prog 54 #[.pointer (some ⟨q_p0, 0, none⟩), .agg #[.int .i64 p1.un.1, .int .i64 p1.un.2.1, .int .i64 p1.un.2.2.1, v1], .int .i64 p2] w0 fun e w' => ∃ x : Unit, e = .returned (.bool r.1) ∧ Stw ⟨Y, X, w0⟩ [(q_p0, [.int .i64 r.2])] [] w' := by
  obtain ⟨n, H⟩ := Dd H
  exact LC n Y X w0 q_p0 v1 p0 p1 p2 r H h_v1 hL
def GZ (p0 : Tr36) : Option Bool := (E5 64 p0 8).bind fun x1 => some x1.1
theorem NW (Y : Nat → Prop) (w0 : World) (v1 : Value) (p0 : Tr36) (r : Bool) (H : GZ p0 = some r) (h_v1 : Sl w0 (NX []) BF v1 p0.un.2.2.2) :
    Calls Tryz.prog 27 #[.agg #[.int .i64 p0.un.1, .int .i64 p0.un.2.1, .int .i64 p0.un.2.2.1, v1]] w0 fun e w' => e = .returned (.bool r) ∧ Below w0.heap.size w0 w' := by
 refine enter Tryz.func27 Aa Tryz.ntmps27 Aa fun a F => ?_
 have W := Stw.start Y w0
 obtain ⟨v2, h1, h_v1⟩ := h_v1.ex BV
 unfold GZ at H
 refine Ah (Ab ?_)
 refine CS (cs := [.int .i64 p0.un.1, .int .i64 p0.un.2.1, .int .i64 p0.un.2.2.1, v1]) F W Aa Aa Aa fun b1 a w F W => ?_
 refine ls F W Aa (Ae F Aa).q fun a w F W => ?_
 refine Ad (Ac (Ah (Ab ?_)))
 refine ls F W Aa (De (v := Value.agg #[.int .i64 64]) YC F Aa Aa Aa).q fun a w F W => ?_
 refine Co (cs := [.int .i64 0]) F W Aa Ys Aa fun b2 a w F W => ?_
 refine Be (vs := [.int .i64 64]) (M' := [(b2, [.int .i64 64]), (b1, [.int .i64 p0.un.1, .int .i64 p0.un.2.1, .int .i64 p0.un.2.2.1, v1])]) 0 F W Aa Aa Aa YG Aa Aa Aa Aa Aa fun w W => ?_
 refine Ad (Ac (Ah (Ab ?_)))
 refine ls F W Aa (Ao (v := Value.agg #[.int .i64 p0.un.1, .int .i64 p0.un.2.1, .int .i64 p0.un.2.2.1, v1]) 1 F Aa Aa ER Aa).q fun a w F W => ?_
 obtain ⟨x1, h2, H⟩ := Am H
 refine Bj (Ml := [(b2, [.int .i64 64])]) (Zl := []) (M := [(b1, [.int .i64 p0.un.1, .int .i64 p0.un.2.1, .int .i64 p0.un.2.2.1, v1])]) (Z := []) (β := Unit) (rv := fun x => .bool x1.1) (MM := fun x => [(b2, [.int .i64 x1.2])]) (ZZ := fun x => []) F W XS Aa Aa (fun hL => LL _ _ w b2 (v1) 64 p0 8 _ h2 (Sl.hide BV h1 (W.roX h_v1 (fun g hg => GI hg))) hL) fun x a w F W => ?_
 have W : Stw ⟨Y, [], w0⟩ [(b2, [.int .i64 x1.2]), (b1, [.int .i64 p0.un.1, .int .i64 p0.un.2.1, .int .i64 p0.un.2.2.1, v1])] [] w := W
 refine ls F W Aa (Ae F Aa).q fun a w F W => ?_
 refine Ad (Ac (Av ?_))
 have H := AP H
 subst H
 refine AJ (.inl Aa) F W Aa (AB F Aa) ?_
 exact ⟨rfl, W.done⟩
theorem XK : Has Tryz.prog 27 := ⟨fun args w => Aj Tryz.func27 rfl (by decide) args w⟩
theorem Wa : Has Tryz.prog 101 := ⟨fun args w => Aj Tryz.func101 rfl (by decide) args w⟩
def EP (fRec : Tr36 → Option Int) (p0 : Tr36) : (Int × Int) → Option ((Int × Int) ⊕ Int)
  | (x2, x3) => (if x3 < (p0.un.2.2.2.length : Int) then (ix p0.un.2.2.2 x3).bind fun x4 => (fRec x4).bind fun x5 => some (.inl (AG (x2 + x5), AG (x3 + 1))) else some (.inr x2))
def Fh (fRec : Tr36 → Option Int) (p0 : Tr36) : Option Int := (A6 (EP fRec p0) (1, 0)).bind fun x1 => some x1
def FT : Nat → Tr36 → Option Int
  | 0 => fun _ => none
  | n + 1 => Fh (FT n)
def Oh (p0 : Tr36) : Option Int := Jl fun n => FT n p0
theorem QA (fRec : Tr36 → Option Int) (ih : ∀ (Y : Nat → Prop) (w0 : World) (v1 : Value) (p0 : Tr36) (r : Int) (H : fRec p0 = some r) (h_v1 : Sl w0 (NX []) BF v1 p0.un.2.2.2), Calls Tryz.prog 101 #[.agg #[.int .i64 p0.un.1, .int .i64 p0.un.2.1, .int .i64 p0.un.2.2.1, v1]] w0 fun e w' => e = .returned (.int .i64 r) ∧ Below w0.heap.size w0 w') (Y : Nat → Prop) (w0 : World) (v1 : Value) (p0 : Tr36) (r : Int) (H : Fh fRec p0 = some r) (h_v1 : Sl w0 (NX []) BF v1 p0.un.2.2.2) :
    Calls Tryz.prog 101 #[.agg #[.int .i64 p0.un.1, .int .i64 p0.un.2.1, .int .i64 p0.un.2.2.1, v1]] w0 fun e w' => e = .returned (.int .i64 r) ∧ Below w0.heap.size w0 w' := by
 refine enter Tryz.func101 Aa Tryz.ntmps101 Aa fun a F => ?_
 have W := Stw.start Y w0
 obtain ⟨v2, h1, h_v1⟩ := h_v1.ex BV
 unfold Fh at H
 refine Ah (Ab ?_)
 refine CS (cs := [.int .i64 p0.un.1, .int .i64 p0.un.2.1, .int .i64 p0.un.2.2.1, v1]) F W Aa Aa Aa fun b1 a w F W => ?_
 refine ls F W Aa (Ae F Aa).q fun a w F W => ?_
 refine Ad (Ac (Ah (Ab ?_)))
 refine ls F W Aa (Ae F Aa).q fun a w F W => ?_
 refine Ad (Ac ?_)
 obtain ⟨o1, G1, K1⟩ := Am H
 refine AO (fun a w => ∃ x1 : Int, some (x1) = some o1 ∧ Fr 19 [] [(2, .int .i64 0), (3, .int .i64 x1)] a ∧ Stw ⟨Y, [], w0⟩ [(b1, [.int .i64 p0.un.1, .int .i64 p0.un.2.1, .int .i64 p0.un.2.2.1, v1])] [] w) ?_ ?_
 ·
  have H := G1
  refine Ah (Ab ?_)
  refine ls F W Aa (Ai Dt Aa Aa Aa Kg F Aa 3 Aa).q fun a w F W => ?_
  refine ls F W Aa (Ao (v := v1) 0 F Aa Aa Kg Aa).q fun a w F W => ?_
  refine ls F W Aa (CA (r := BF) (l := p0.un.2.2.2) JW Aa F Aa (AH BV h1 (Aq h_v1))).q fun a w F W => ?_
  refine ls F W Aa (Ag F Aa).q fun a w F W => ?_
  refine Ad (Ac (Az ?_))
  refine BG H (fun s a w => Fr 19 [] [(2, .int .i64 0), (3, .int .i64 s.1), (7, v1), (8, .int .i64 (p0.un.2.2.2.length : Int)), (9, .int .i64 s.2)] a ∧ Stw ⟨Y, [], w0⟩ [(b1, [.int .i64 p0.un.1, .int .i64 p0.un.2.1, .int .i64 p0.un.2.2.1, v1])] [] w) ⟨F.re ⟨rfl, Aa, Aa, Aa, Aa, trivial⟩, W⟩ fun s o a w H L2 hR => ?_
  obtain ⟨x2, x3⟩ := s
  obtain ⟨F, W⟩ := hR
  have F : Fr 19 [] [(2, .int .i64 0), (3, .int .i64 x2), (7, v1), (8, .int .i64 (p0.un.2.2.2.length : Int)), (9, .int .i64 x3)] a := F
  have W : Stw ⟨Y, [], w0⟩ [(b1, [.int .i64 p0.un.1, .int .i64 p0.un.2.1, .int .i64 p0.un.2.2.1, v1])] [] w := W
  rw [EP] at H
  refine Ah (Ab ?_)
  refine ls F W Aa (Cu F Aa Aa).q fun a w F W => ?_
  refine Ad (Ac (Ah ?_))
  refine Aw F Aa (fun hb => ?_) fun hb => ?_
  ·
   have H := AV (Bg hb) H
   rw [hb] at F
   refine Ay (Ac (Ah (Az (Ah (Ab ?_)))))
   obtain ⟨x4, h2, H⟩ := Am H
   obtain ⟨v3, h3, h4⟩ := Ez h1 h2
   have h5 : Hl v3 = [.int .i64 x4.un.1, .int .i64 x4.un.2.1, .int .i64 x4.un.2.2.1, (v3.2.2.2.1)] := congrArg (fun q : Tr36 => ([.int .i64 q.un.1, .int .i64 q.un.2.1, .int .i64 q.un.2.2.1, (v3.2.2.2.1)] : List Value)) h4
   refine ls F W Aa (AM (r := HW) Ps F Aa Aa (Aq h_v1) h3).q fun a w F W => ?_
   refine ls F W Aa (AA (y := Value.agg #[.int .i64 x4.un.1, .int .i64 x4.un.2.1, .int .i64 x4.un.2.2.1, (v3.2.2.2.1)]) (j := 0) (i := x3) (enc := Hl) F Aa Aa (Aq h_v1) h3 MD ER (by rw [h5]; rfl)).q fun a w F W => ?_
   refine Co (cs := [.int .i64 0, .int .i64 0, .int .i64 0, .slice none 0 0]) F W Aa QT Aa fun b2 a w F W => ?_
   refine Be (vs := [.int .i64 x4.un.1, .int .i64 x4.un.2.1, .int .i64 x4.un.2.2.1, (v3.2.2.2.1)]) (M' := [(b2, [.int .i64 x4.un.1, .int .i64 x4.un.2.1, .int .i64 x4.un.2.2.1, (v3.2.2.2.1)]), (b1, [.int .i64 p0.un.1, .int .i64 p0.un.2.1, .int .i64 p0.un.2.2.1, v1])]) 0 F W Aa Aa Aa ER Aa Aa Aa (An Aa (An Aa (An Aa (An ((Cn (Aq h_v1) h3 (AC.snd (AC.snd (AC.snd AC.here))) (congrArg (fun q : Tr36 => q.un.2.2.2) h4)) _ W).one Cq)))) Aa fun w W => ?_
   refine Ad (Ac (Ab ?_))
   refine ls F W Aa (Ag F Aa).q fun a w F W => ?_
   refine ls F W Aa (Ao (v := Value.agg #[.int .i64 x4.un.1, .int .i64 x4.un.2.1, .int .i64 x4.un.2.2.1, (v3.2.2.2.1)]) 0 F Aa Aa ER Aa).q fun a w F W => ?_
   obtain ⟨x5, h6, H⟩ := Am H
   refine ls F W Aa (A3 (v := Value.int .i64 x5) F Wa Aa (fun w W => ih any w ((v3.2.2.2.1)) x4 _ h6 (((Cn (Aq h_v1) h3 (AC.snd (AC.snd (AC.snd AC.here))) (congrArg (fun q : Tr36 => q.un.2.2.2) h4)) : D1 _ _ _ _ _ _) w W).nx)) fun a w F W => ?_
   refine ls F W Aa (BL F Aa Aa Aa).q fun a w F W => ?_
   refine ls F W Aa (Ae F Aa).q fun a w F W => ?_
   refine Ad (AU (Ac (Ab ?_)))
   refine ls F W Aa (BL F Aa Aa Aa).q fun a w F W => ?_
   refine ls F W Aa (Ag F Aa).q fun a w F W => ?_
   refine Ad (Ac ?_)
   have W := W.frontM (i := 1) Aa Aa
   have W := W.sub (M' := [(b1, [.int .i64 p0.un.1, .int .i64 p0.un.2.1, .int .i64 p0.un.2.2.1, v1])]) (Z' := []) (List.Sublist.cons_cons _ (List.nil_sublist _)) (List.Sublist.refl _)
   exact ⟨_, H, F.re ⟨rfl, Aa, Aa, Aa, Aa, trivial⟩, W⟩
  have H := AR (Bf hb) H
  rw [hb] at F
  refine Bz ?_
  iterate 2 refine BS ?_
  refine Bx (Ac ?_)
  have H := L2 _ H
  exact ⟨_, H, F.re ⟨rfl, Aa, trivial⟩, W⟩
 rintro a w ⟨x1, hj, F, W⟩
 have hj := AP hj
 subst hj
 have H := K1
 refine Ah (Ab ?_)
 refine ls F W Aa (Ag F Aa).q fun a w F W => ?_
 refine ls F W Aa (Ae F Aa).q fun a w F W => ?_
 refine Ad (Ac (Av ?_))
 have H := AP H
 subst H
 refine AJ (.inl Aa) F W Aa (AB F Aa) ?_
 exact ⟨rfl, W.done⟩
theorem RR : ∀ (n : Nat) (Y : Nat → Prop) (w0 : World) (v1 : Value) (p0 : Tr36) (r : Int) (H : FT n p0 = some r) (h_v1 : Sl w0 (NX []) BF v1 p0.un.2.2.2), Calls Tryz.prog 101 #[.agg #[.int .i64 p0.un.1, .int .i64 p0.un.2.1, .int .i64 p0.un.2.2.1, v1]] w0 fun e w' => e = .returned (.int .i64 r) ∧ Below w0.heap.size w0 w' := by
  intro n
  induction n with
  | zero => intro Y w0 v1 p0 r H; exact nomatch H
  | succ n ih => intro Y w0 v1 p0 r H h_v1; exact QA (FT n) ih Y w0 v1 p0 r H h_v1
theorem Si (Y : Nat → Prop) (w0 : World) (v1 : Value) (p0 : Tr36) (r : Int) (H : Oh p0 = some r) (h_v1 : Sl w0 (NX []) BF v1 p0.un.2.2.2) :
    Calls Tryz.prog 101 #[.agg #[.int .i64 p0.un.1, .int .i64 p0.un.2.1, .int .i64 p0.un.2.2.1, v1]] w0 fun e w' => e = .returned (.int .i64 r) ∧ Below w0.heap.size w0 w' := by
  obtain ⟨n, H⟩ := Dd H
  exact RR n Y w0 v1 p0 r H h_v1
theorem XH : Has Tryz.prog 64 := ⟨fun args w => Aj Tryz.func64 rfl (by decide) args w⟩
def Cj (fRec : Int → Tr39 → Int → Option (Bool × Int)) (p1 : Tr39) (p2 : Int) : (Int × Int) → Option ((Int × Int) ⊕ (Int ⊕ (Bool × Int)))
  | (x7, x8) => (if x7 < (p1.un.2.2.2.2.length : Int) then (ix p1.un.2.2.2.2 x7).bind fun x9 => (fRec x8 (Tr39.of (x9.un.1, Tr36.of (x9.un.2.1.un.1, x9.un.2.1.un.2.1, x9.un.2.1.un.2.2.1, x9.un.2.1.un.2.2.2), x9.un.2.2.1, x9.un.2.2.2.1, x9.un.2.2.2.2)) (AG (p2 - 1))).bind fun x10 => (if (!x10.1) = true then some (.inr (.inr (false, x10.2))) else some (.inl (AG (x7 + 1), x10.2))) else some (.inr (.inl x8)))
def Cz (fRec : Int → Tr39 → Int → Option (Bool × Int)) (p0 : Int) (p1 : Tr39) (p2 : Int) : Option (Bool × Int) := (if p0 < 1 then some true else (if p2 < 1 then some true else (Jo (Tr39.of (p1.un.1, Tr36.of (p1.un.2.1.un.1, p1.un.2.1.un.2.1, p1.un.2.1.un.2.2.1, p1.un.2.1.un.2.2.2), p1.un.2.2.1, p1.un.2.2.2.1, p1.un.2.2.2.2))).bind fun x2 => some (!x2))).bind fun x1 => (if x1 = true then some (false, p0) else Je (if (decide (p1.un.1 = 1) || decide (p1.un.1 = 5)) = true then (GZ (Tr36.of (p1.un.2.1.un.1, p1.un.2.1.un.2.1, p1.un.2.1.un.2.2.1, p1.un.2.1.un.2.2.2))).bind fun x4 => (if (!x4) = true then some (.inr (false, AG (p0 - 1))) else (Oh (Tr36.of (p1.un.2.1.un.1, p1.un.2.1.un.2.1, p1.un.2.1.un.2.2.1, p1.un.2.1.un.2.2.2))).bind fun x5 => some (.inl (AG ((AG (p0 - 1)) - x5)))) else some (.inl (AG (p0 - 1)))) fun x3 => Je (A6 (Cj fRec p1 p2) (0, x3)) fun x6 => some (decide (0 ≤ x6), x6))
def CF : Nat → Int → Tr39 → Int → Option (Bool × Int)
  | 0 => fun _ _ _ => none
  | n + 1 => Cz (CF n)
def GT (p0 : Int) (p1 : Tr39) (p2 : Int) : Option (Bool × Int) := Jl fun n => CF n p0 p1 p2
theorem Km (fRec : Int → Tr39 → Int → Option (Bool × Int)) (ih : ∀ (Y : Nat → Prop) (X : List Nat) (w0 : World) (q_p0 : Nat) (v1 : Value) (v2 : Value) (p0 : Int) (p1 : Tr39) (p2 : Int) (r : Bool × Int) (H : fRec p0 p1 p2 = some r) (h_v1 : Sl w0 (NX X) BF v1 p1.un.2.1.un.2.2.2) (h_v2 : Sl w0 (NX X) Gy v2 p1.un.2.2.2.2) (hL : Stw ⟨Y, X, w0⟩ [(q_p0, [.int .i64 p0])] [] w0), Calls Tryz.prog 64 #[.pointer (some ⟨q_p0, 0, none⟩), .agg #[.int .i64 p1.un.1, .int .i64 p1.un.2.1.un.1, .int .i64 p1.un.2.1.un.2.1, .int .i64 p1.un.2.1.un.2.2.1, v1, .int .i64 p1.un.2.2.1, .int .i64 p1.un.2.2.2.1, v2], .int .i64 p2] w0 fun e w' => ∃ x : Unit, e = .returned (.bool r.1) ∧ Stw ⟨Y, X, w0⟩ [(q_p0, [.int .i64 r.2])] [] w') (Y : Nat → Prop) (X : List Nat) (w0 : World) (q_p0 : Nat) (v1 : Value) (v2 : Value) (p0 : Int) (p1 : Tr39) (p2 : Int) (r : Bool × Int) (H : Cz fRec p0 p1 p2 = some r) (h_v1 : Sl w0 (NX X) BF v1 p1.un.2.1.un.2.2.2) (h_v2 : Sl w0 (NX X) Gy v2 p1.un.2.2.2.2) (hL : Stw ⟨Y, X, w0⟩ [(q_p0, [.int .i64 p0])] [] w0) :
    Calls Tryz.prog 64 #[.pointer (some ⟨q_p0, 0, none⟩), .agg #[.int .i64 p1.un.1, .int .i64 p1.un.2.1.un.1, .int .i64 p1.un.2.1.un.2.1, .int .i64 p1.un.2.1.un.2.2.1, v1, .int .i64 p1.un.2.2.1, .int .i64 p1.un.2.2.2.1, v2], .int .i64 p2] w0 fun e w' => ∃ x : Unit, e = .returned (.bool r.1) ∧ Stw ⟨Y, X, w0⟩ [(q_p0, [.int .i64 r.2])] [] w' := by
 refine enter Tryz.func64 Aa Tryz.ntmps64 Aa fun a F => ?_
 have W := hL
 obtain ⟨v3, h1, h_v1⟩ := h_v1.ex BV
 obtain ⟨v4, h2, h_v2⟩ := h_v2.ex FD
 unfold Cz at H
 refine Ah (Ab ?_)
 refine CS (cs := [.int .i64 p1.un.1, .int .i64 p1.un.2.1.un.1, .int .i64 p1.un.2.1.un.2.1, .int .i64 p1.un.2.1.un.2.2.1, v1, .int .i64 p1.un.2.2.1, .int .i64 p1.un.2.2.2.1, v2]) F W Aa Aa Aa fun b1 a w F W => ?_
 refine ls F W Aa (Ae F Aa).q fun a w F W => ?_
 refine Ad (Ac (Ah ?_))
 obtain ⟨o1, G1, K1⟩ := Am H
 refine AO (fun a w => ∃ x1 : Bool, some (x1) = some o1 ∧ Fr 71 [] [(0, .pointer (some ⟨q_p0, 0, none⟩)), (2, .int .i64 p2), (4, .pointer (some ⟨b1, 0, none⟩)), (6, .bool false), (22, .bool x1)] a ∧ Stw ⟨Y, X, w0⟩ [(b1, [.int .i64 p1.un.1, .int .i64 p1.un.2.1.un.1, .int .i64 p1.un.2.1.un.2.1, .int .i64 p1.un.2.1.un.2.2.1, v1, .int .i64 p1.un.2.2.1, .int .i64 p1.un.2.2.2.1, v2]), (q_p0, [.int .i64 p0])] [] w) ?_ ?_
 ·
  have H := G1
  refine Ab ?_
  refine ls F W Aa (Ag F Aa).q fun a w F W => ?_
  refine ls F W Aa (CI F Aa).q fun a w F W => ?_
  refine ls F W Aa (Ai Px Aa Aa Aa T3 F Aa 0 Aa).q fun a w F W => ?_
  refine ls F W Aa (Ao (v := Value.int .i64 p0) 1 F Aa Aa T3 Aa).q fun a w F W => ?_
  refine ls F W Aa (Cu F Aa Aa).q fun a w F W => ?_
  refine ls F W Aa (Ag F Aa).q fun a w F W => ?_
  rcases bxq (decide (p0 < 1)) with hb | hb
  ·
   have H := AV (Bg hb) H
   rw [hb] at F
   iterate 2 refine Dz F Aa Aa Aa Aa Aa Aa Aa fun a F => ?_
   refine ls F W Aa (Ax F Aa Aa Aa).q fun a w F W => ?_
   refine ls F W Aa (Ag F Aa).q fun a w F W => ?_
   iterate 3 refine Dz F Aa Aa Aa Aa Aa Aa Aa fun a F => ?_
   refine ls F W Aa (Ax F Aa Aa Aa).q fun a w F W => ?_
   refine Ad (Ac ?_)
   have W := W.frontM (i := 1) Aa Aa
   have W := W.frontM (i := 1) Aa Aa
   exact ⟨_, H, F.re ⟨rfl, Aa, Aa, Aa, Aa, trivial⟩, W⟩
  have H := AR (Bf hb) H
  rw [hb] at F
  refine AK F W (Af F Aa Aa Aa Aa) Aa (Ak Aa) (Ag F Aa).q fun a w F W => ?_
  refine AK F W (Af F Aa Aa Aa Aa) Aa (Ak Aa) (Cu F Aa Aa).q fun a w F W => ?_
  refine ls F W Aa (As F Aa Aa Aa).q fun a w F W => ?_
  refine ls F W Aa (Ag F Aa).q fun a w F W => ?_
  rcases bxq (decide (p2 < 1)) with hb | hb
  ·
   have H := AV (Bg hb) H
   rw [hb] at F
   iterate 3 refine Dz F Aa Aa Aa Aa Aa Aa Aa fun a F => ?_
   refine ls F W Aa (Ax F Aa Aa Aa).q fun a w F W => ?_
   refine Ad (Ac ?_)
   have W := W.frontM (i := 1) Aa Aa
   have W := W.frontM (i := 1) Aa Aa
   exact ⟨_, H, F.re ⟨rfl, Aa, Aa, Aa, Aa, trivial⟩, W⟩
  have H := AR (Bf hb) H
  rw [hb] at F
  refine AK F W (Af F Aa Aa Aa Aa) Aa (Ak Aa) (Ao (v := Value.agg #[.int .i64 p1.un.1, .int .i64 p1.un.2.1.un.1, .int .i64 p1.un.2.1.un.2.1, .int .i64 p1.un.2.1.un.2.2.1, v1, .int .i64 p1.un.2.2.1, .int .i64 p1.un.2.2.2.1, v2]) 0 F Aa Aa Ka Aa).q fun a w F W => ?_
  refine KH (Af F Aa Aa Aa Aa) ?_
  obtain ⟨x2, h3, H⟩ := Am H
  refine ls F W Aa (A3 (v := Value.bool x2) F Xn Aa (fun w W => QQ any w (v1) (v2) (Tr39.of (p1.un.1, Tr36.of (p1.un.2.1.un.1, p1.un.2.1.un.2.1, p1.un.2.1.un.2.2.1, p1.un.2.1.un.2.2.2), p1.un.2.2.1, p1.un.2.2.2.1, p1.un.2.2.2.2)) _ h3 (((AH BV h1 (Aq h_v1)) : D1 _ _ _ _ _ _) w W).nx (((AH FD h2 (Aq h_v2)) : D1 _ _ _ _ _ _) w W).nx)) fun a w F W => ?_
  refine AK F W (Af F Aa Aa Aa Aa) Aa (Ak Aa) (F4 F Aa).q fun a w F W => ?_
  refine ls F W Aa (As F Aa Aa Aa).q fun a w F W => ?_
  refine Ad (Ac ?_)
  have W := W.frontM (i := 1) Aa Aa
  have W := W.frontM (i := 1) Aa Aa
  exact ⟨_, H, F.re ⟨rfl, Aa, Aa, Aa, Aa, trivial⟩, W⟩
 rintro a w ⟨x1, hj, F, W⟩
 have hj := AP hj
 subst hj
 have H := K1
 refine Aw F Aa (fun hb => ?_) fun hb => ?_
 ·
  have H := AV hb H
  rw [hb] at F
  refine Ah (Ab ?_)
  refine ls F W Aa (Ae F Aa).q fun a w F W => ?_
  refine Ad (Ac (Av (AN ?_)))
  have H := AP H
  subst H
  refine AJ (.inl Aa) F W Aa (AB F Aa) ?_
  have W := W.frontM (i := 1) Aa Aa
  have W := W.sub (M' := [(q_p0, [.int .i64 p0])]) (Z' := []) (List.Sublist.cons_cons _ (List.nil_sublist _)) (List.Sublist.refl _)
  exact ⟨(), Aa, W⟩
 have H := AR (by rw [hb]; decide) H
 rw [hb] at F
 refine Ay (Ac (Ah (Ab ?_)))
 refine ls F W Aa (Ag F Aa).q fun a w F W => ?_
 refine ls F W Aa (CI F Aa).q fun a w F W => ?_
 refine ls F W Aa (Ai Px Aa Aa Aa T3 F Aa 0 Aa).q fun a w F W => ?_
 refine ls F W Aa (Ao (v := Value.int .i64 p0) 1 F Aa Aa T3 Aa).q fun a w F W => ?_
 refine ls F W Aa (CT F Aa Aa Aa).q fun a w F W => ?_
 refine ls F W Aa (CI F Aa).q fun a w F W => ?_
 refine ls F W Aa (Ai Px Aa Aa Aa T3 F Aa 0 Aa).q fun a w F W => ?_
 refine Be (vs := [.int .i64 (AG (p0 - 1))]) (M' := [(b1, [.int .i64 p1.un.1, .int .i64 p1.un.2.1.un.1, .int .i64 p1.un.2.1.un.2.1, .int .i64 p1.un.2.1.un.2.2.1, v1, .int .i64 p1.un.2.2.1, .int .i64 p1.un.2.2.2.1, v2]), (q_p0, [.int .i64 (AG (p0 - 1))])]) 1 F W Aa Aa Aa T3 Aa Aa Aa Aa Aa fun w W => ?_
 refine Ad (Ac ?_)
 obtain ⟨o2, G2, K2, L2⟩ := PQ H
 refine AO (fun a w => ∃ x3 : Int, some (Sum.inl x3) = some o2 ∧ Fr 71 [] [(0, .pointer (some ⟨q_p0, 0, none⟩)), (2, .int .i64 p2), (4, .pointer (some ⟨b1, 0, none⟩)), (6, .bool false)] a ∧ Stw ⟨Y, X, w0⟩ [(b1, [.int .i64 p1.un.1, .int .i64 p1.un.2.1.un.1, .int .i64 p1.un.2.1.un.2.1, .int .i64 p1.un.2.1.un.2.2.1, v1, .int .i64 p1.un.2.2.1, .int .i64 p1.un.2.2.2.1, v2]), (q_p0, [.int .i64 x3])] [] w) ?_ ?_
 ·
  have H := G2
  refine AO (fun a w => Fr 71 [] [(0, .pointer (some ⟨q_p0, 0, none⟩)), (2, .int .i64 p2), (4, .pointer (some ⟨b1, 0, none⟩)), (6, .bool false), (37, .bool (decide (p1.un.1 = 1) || decide (p1.un.1 = 5)))] a ∧ Stw ⟨Y, X, w0⟩ [(b1, [.int .i64 p1.un.1, .int .i64 p1.un.2.1.un.1, .int .i64 p1.un.2.1.un.2.1, .int .i64 p1.un.2.1.un.2.2.1, v1, .int .i64 p1.un.2.2.1, .int .i64 p1.un.2.2.2.1, v2]), (q_p0, [.int .i64 (AG (p0 - 1))])] [] w) ?_ ?_
  ·
   refine Ab ?_
   refine ls F W Aa (Ai Ed Aa Aa Aa T3 F Aa 0 Aa).q fun a w F W => ?_
   refine ls F W Aa (Ao (v := Value.int .i64 p1.un.1) 0 F Aa Aa T3 Aa).q fun a w F W => ?_
   refine ls F W Aa (A7 F Aa Aa).q fun a w F W => ?_
   refine ls F W Aa (Ag F Aa).q fun a w F W => ?_
   rcases bxq (decide (p1.un.1 = 1)) with hb0 | hb0
   ·
    rw [hb0] at F
    iterate 3 refine Dz F Aa Aa Aa Aa Aa Aa Aa fun a F => ?_
    refine ls F W Aa (Ax F Aa Aa Aa).q fun a w F W => ?_
    refine Ad (Ac ?_)
    exact ⟨F.re ⟨rfl, Aa, Aa, Aa, (by show some (Value.bool true) = some (Value.bool (decide (p1.un.1 = 1) || decide (p1.un.1 = 5))); try rw [hb0]; all_goals simp only [Bool.not_true, Bool.not_false, Bool.true_and, Bool.false_and, Bool.true_or, Bool.false_or, Bool.and_true, Bool.or_false, cond_true, cond_false]), trivial⟩, W⟩
   rw [hb0] at F
   refine AK F W (Af F Aa Aa Aa Aa) Aa (Ak Aa) (Ai Ed Aa Aa Aa T3 F Aa 0 Aa).q fun a w F W => ?_
   refine AK F W (Af F Aa Aa Aa Aa) Aa (Ak Aa) (Ao (v := Value.int .i64 p1.un.1) 0 F Aa Aa T3 Aa).q fun a w F W => ?_
   refine AK F W (Af F Aa Aa Aa Aa) Aa (Ak Aa) (A7 F Aa Aa).q fun a w F W => ?_
   refine ls F W Aa (As F Aa Aa Aa).q fun a w F W => ?_
   refine Ad (Ac ?_)
   exact ⟨F.re ⟨rfl, Aa, Aa, Aa, (by show some (Value.bool (decide (p1.un.1 = 5))) = some (Value.bool (decide (p1.un.1 = 1) || decide (p1.un.1 = 5))); try rw [hb0]; all_goals simp only [Bool.not_true, Bool.not_false, Bool.true_and, Bool.false_and, Bool.true_or, Bool.false_or, Bool.and_true, Bool.or_false, cond_true, cond_false]), trivial⟩, W⟩
  rintro a w ⟨F, W⟩
  refine Aw F Aa (fun hb => ?_) fun hb => ?_
  ·
   have H := AV hb H
   rw [hb] at F
   refine Ah (Ah (Ab ?_))
   refine ls F W Aa (Ai Ed Aa Aa Aa ER F Aa 1 Aa).q fun a w F W => ?_
   refine ls F W Aa (Ao (v := Value.agg #[.int .i64 p1.un.2.1.un.1, .int .i64 p1.un.2.1.un.2.1, .int .i64 p1.un.2.1.un.2.2.1, v1]) 0 F Aa Aa ER Aa).q fun a w F W => ?_
   obtain ⟨x4, h4, H⟩ := Am H
   refine ls F W Aa (A3 (v := Value.bool x4) F XK Aa (fun w W => NW any w (v1) (Tr36.of (p1.un.2.1.un.1, p1.un.2.1.un.2.1, p1.un.2.1.un.2.2.1, p1.un.2.1.un.2.2.2)) _ h4 (((AH BV h1 (Aq h_v1)) : D1 _ _ _ _ _ _) w W).nx)) fun a w F W => ?_
   refine ls F W Aa (F4 F Aa).q fun a w F W => ?_
   refine Ad (Ac ?_)
   refine Aw F Aa (fun hb => ?_) fun hb => ?_
   ·
    have H := AV hb H
    rw [hb] at F
    refine Ah (Ab ?_)
    refine ls F W Aa (Ae F Aa).q fun a w F W => ?_
    refine Ad (Ac (Av ?_))
    iterate 2 refine AN ?_
    have H := L2 _ H
    have H := AP H
    subst H
    refine AJ (.inl Aa) F W Aa (AB F Aa) ?_
    have W := W.frontM (i := 1) Aa Aa
    have W := W.sub (M' := [(q_p0, [.int .i64 (AG (p0 - 1))])]) (Z' := []) (List.Sublist.cons_cons _ (List.nil_sublist _)) (List.Sublist.refl _)
    exact ⟨(), Aa, W⟩
   have H := AR (by rw [hb]; decide) H
   rw [hb] at F
   refine Ay (Ac ?_)
   refine Nt 10 W MO (by kernel_rfl) ?_
   refine qs F Aa (Ag F Aa).q fun a F => ?_
   refine qs F Aa (CI F Aa).q fun a F => ?_
   refine qs F Aa (Ai Px Aa Aa Aa T3 F Aa 0 Aa).q fun a F => ?_
   refine qs F Aa (Ao (v := Value.int .i64 (AG (p0 - 1))) 1 F Aa Aa T3 Aa).q fun a F => ?_
   refine qs F Aa (Ai Ed Aa Aa Aa ER F Aa 1 Aa).q fun a F => ?_
   refine qs F Aa (Ao (v := Value.agg #[.int .i64 p1.un.2.1.un.1, .int .i64 p1.un.2.1.un.2.1, .int .i64 p1.un.2.1.un.2.2.1, v1]) 0 F Aa Aa ER Aa).q fun a F => ?_
   obtain ⟨x5, h5, H⟩ := Am H
   refine qs F Aa (A3 (v := Value.int .i64 x5) F Wa Aa (fun w W => Si any w (v1) (Tr36.of (p1.un.2.1.un.1, p1.un.2.1.un.2.1, p1.un.2.1.un.2.2.1, p1.un.2.1.un.2.2.2)) _ h5 (((AH BV h1 (Aq h_v1)) : D1 _ _ _ _ _ _) w W).nx)) fun a F => ?_
   refine qs F Aa (CT F Aa Aa Aa).q fun a F => ?_
   refine qs F Aa (CI F Aa).q fun a F => ?_
   refine qs F Aa (Ai Px Aa Aa Aa T3 F Aa 0 Aa).q fun a F => ?_
   refine A9 fun w W => ?_
   refine Be (vs := [.int .i64 (AG ((AG (p0 - 1)) - x5))]) (M' := [(b1, [.int .i64 p1.un.1, .int .i64 p1.un.2.1.un.1, .int .i64 p1.un.2.1.un.2.1, .int .i64 p1.un.2.1.un.2.2.1, v1, .int .i64 p1.un.2.2.1, .int .i64 p1.un.2.2.2.1, v2]), (q_p0, [.int .i64 (AG ((AG (p0 - 1)) - x5))])]) 1 F W Aa Aa Aa T3 Aa Aa Aa Aa Aa fun w W => ?_
   refine Ad (Ac ?_)
   have W := W.frontM (i := 1) Aa Aa
   have W := W.frontM (i := 1) Aa Aa
   exact ⟨_, H, F.re ⟨rfl, Aa, Aa, Aa, trivial⟩, W⟩
  have H := AR (by rw [hb]; decide) H
  rw [hb] at F
  refine Ay (Ac ?_)
  have W := W.frontM (i := 1) Aa Aa
  have W := W.frontM (i := 1) Aa Aa
  exact ⟨_, H, F.re ⟨rfl, Aa, Aa, Aa, trivial⟩, W⟩
 rintro a w ⟨x3, hj, F, W⟩
 have H := K2 _ hj
 obtain ⟨o3, G3, K3, L3⟩ := PQ H
 refine AO (fun a w => ∃ x6 : Int, some (Sum.inl x6) = some o3 ∧ Fr 71 [] [(0, .pointer (some ⟨q_p0, 0, none⟩)), (6, .bool false)] a ∧ Stw ⟨Y, X, w0⟩ [(b1, [.int .i64 p1.un.1, .int .i64 p1.un.2.1.un.1, .int .i64 p1.un.2.1.un.2.1, .int .i64 p1.un.2.1.un.2.2.1, v1, .int .i64 p1.un.2.2.1, .int .i64 p1.un.2.2.2.1, v2]), (q_p0, [.int .i64 x6])] [] w) ?_ ?_
 ·
  have H := G3
  refine Ah (Ab ?_)
  refine ls F W Aa (Ai Ed Aa Aa Aa Lx F Aa 7 Aa).q fun a w F W => ?_
  refine ls F W Aa (Ao (v := v2) 0 F Aa Aa Lx Aa).q fun a w F W => ?_
  refine ls F W Aa (CA (r := Gy) (l := p1.un.2.2.2.2) Ng Aa F Aa (AH FD h2 (Aq h_v2))).q fun a w F W => ?_
  refine ls F W Aa (Ag F Aa).q fun a w F W => ?_
  refine Ad (Ac (Az ?_))
  have W := W.frontM (i := 1) Aa Aa
  have W := W.frontM (i := 1) Aa Aa
  refine BG H (fun s a w => Fr 71 [] [(0, .pointer (some ⟨q_p0, 0, none⟩)), (2, .int .i64 p2), (6, .bool false), (53, v2), (54, .int .i64 (p1.un.2.2.2.2.length : Int)), (55, .int .i64 s.1)] a ∧ Stw ⟨Y, X, w0⟩ [(b1, [.int .i64 p1.un.1, .int .i64 p1.un.2.1.un.1, .int .i64 p1.un.2.1.un.2.1, .int .i64 p1.un.2.1.un.2.2.1, v1, .int .i64 p1.un.2.2.1, .int .i64 p1.un.2.2.2.1, v2]), (q_p0, [.int .i64 s.2])] [] w) ⟨F.re ⟨rfl, Aa, Aa, Aa, Aa, Aa, trivial⟩, W⟩ fun s o a w H L4 hR => ?_
  obtain ⟨x7, x8⟩ := s
  obtain ⟨F, W⟩ := hR
  have F : Fr 71 [] [(0, .pointer (some ⟨q_p0, 0, none⟩)), (2, .int .i64 p2), (6, .bool false), (53, v2), (54, .int .i64 (p1.un.2.2.2.2.length : Int)), (55, .int .i64 x7)] a := F
  have W : Stw ⟨Y, X, w0⟩ [(b1, [.int .i64 p1.un.1, .int .i64 p1.un.2.1.un.1, .int .i64 p1.un.2.1.un.2.1, .int .i64 p1.un.2.1.un.2.2.1, v1, .int .i64 p1.un.2.2.1, .int .i64 p1.un.2.2.2.1, v2]), (q_p0, [.int .i64 x8])] [] w := W
  rw [Cj] at H
  refine Ah (Ab ?_)
  refine ls F W Aa (Cu F Aa Aa).q fun a w F W => ?_
  refine Ad (Ac (Ah ?_))
  refine Aw F Aa (fun hb => ?_) fun hb => ?_
  ·
   have H := AV (Bg hb) H
   rw [hb] at F
   refine Ay (Ac (Ah (Az (Ah (Ab ?_)))))
   obtain ⟨x9, h6, H⟩ := Am H
   obtain ⟨v5, h7, h8⟩ := Ez h2 h6
   have h9 : Ls v5 = [.int .i64 x9.un.1, .int .i64 x9.un.2.1.un.1, .int .i64 x9.un.2.1.un.2.1, .int .i64 x9.un.2.1.un.2.2.1, (v5.2.1.2.2.2.1), .int .i64 x9.un.2.2.1, .int .i64 x9.un.2.2.2.1, (v5.2.2.2.2.1)] := congrArg (fun q : Tr39 => ([.int .i64 q.un.1, .int .i64 q.un.2.1.un.1, .int .i64 q.un.2.1.un.2.1, .int .i64 q.un.2.1.un.2.2.1, (v5.2.1.2.2.2.1), .int .i64 q.un.2.2.1, .int .i64 q.un.2.2.2.1, (v5.2.2.2.2.1)] : List Value)) h8
   refine ls F W Aa (AM (r := Of) Uj F Aa Aa (Aq h_v2) h7).q fun a w F W => ?_
   refine ls F W Aa (AA (y := Value.agg #[.int .i64 x9.un.1, .int .i64 x9.un.2.1.un.1, .int .i64 x9.un.2.1.un.2.1, .int .i64 x9.un.2.1.un.2.2.1, (v5.2.1.2.2.2.1), .int .i64 x9.un.2.2.1, .int .i64 x9.un.2.2.2.1, (v5.2.2.2.2.1)]) (j := 0) (i := x7) (enc := Ls) F Aa Aa (Aq h_v2) h7 Rb Ka (by rw [h9]; rfl)).q fun a w F W => ?_
   refine Co (cs := [.int .i64 0, .int .i64 0, .int .i64 0, .int .i64 0, .slice none 0 0, .int .i64 0, .int .i64 0, .slice none 0 0]) F W Aa UK Aa fun b2 a w F W => ?_
   refine Be (vs := [.int .i64 x9.un.1, .int .i64 x9.un.2.1.un.1, .int .i64 x9.un.2.1.un.2.1, .int .i64 x9.un.2.1.un.2.2.1, (v5.2.1.2.2.2.1), .int .i64 x9.un.2.2.1, .int .i64 x9.un.2.2.2.1, (v5.2.2.2.2.1)]) (M' := [(b2, [.int .i64 x9.un.1, .int .i64 x9.un.2.1.un.1, .int .i64 x9.un.2.1.un.2.1, .int .i64 x9.un.2.1.un.2.2.1, (v5.2.1.2.2.2.1), .int .i64 x9.un.2.2.1, .int .i64 x9.un.2.2.2.1, (v5.2.2.2.2.1)]), (b1, [.int .i64 p1.un.1, .int .i64 p1.un.2.1.un.1, .int .i64 p1.un.2.1.un.2.1, .int .i64 p1.un.2.1.un.2.2.1, v1, .int .i64 p1.un.2.2.1, .int .i64 p1.un.2.2.2.1, v2]), (q_p0, [.int .i64 x8])]) 0 F W Aa Aa Aa Ka Aa Aa Aa (An Aa (An Aa (An Aa (An Aa (An ((Cn (Aq h_v2) h7 (AC.snd (AC.fst (AC.snd (AC.snd (AC.snd AC.here))))) (congrArg (fun q : Tr39 => q.un.2.1.un.2.2.2) h8)) _ W).one (An Aa (An Aa (An ((Cn (Aq h_v2) h7 (AC.snd (AC.snd (AC.snd (AC.snd AC.here)))) (congrArg (fun q : Tr39 => q.un.2.2.2.2) h8)) _ W).one Cq)))))))) Aa fun w W => ?_
   refine Ad (Ac (Ah (Ab ?_)))
   refine ls F W Aa (Ag F Aa).q fun a w F W => ?_
   refine ls F W Aa (Ao (v := Value.agg #[.int .i64 x9.un.1, .int .i64 x9.un.2.1.un.1, .int .i64 x9.un.2.1.un.2.1, .int .i64 x9.un.2.1.un.2.2.1, (v5.2.1.2.2.2.1), .int .i64 x9.un.2.2.1, .int .i64 x9.un.2.2.2.1, (v5.2.2.2.2.1)]) 0 F Aa Aa Ka Aa).q fun a w F W => ?_
   refine ls F W Aa (Ag F Aa).q fun a w F W => ?_
   refine ls F W Aa (CT F Aa Aa Aa).q fun a w F W => ?_
   obtain ⟨x10, h10, H⟩ := Am H
   have W := W.frontM (i := 2) Aa Aa
   refine Bj (Ml := [(q_p0, [.int .i64 x8])]) (Zl := []) (M := [(b2, [.int .i64 x9.un.1, .int .i64 x9.un.2.1.un.1, .int .i64 x9.un.2.1.un.2.1, .int .i64 x9.un.2.1.un.2.2.1, (v5.2.1.2.2.2.1), .int .i64 x9.un.2.2.1, .int .i64 x9.un.2.2.2.1, (v5.2.2.2.2.1)]), (b1, [.int .i64 p1.un.1, .int .i64 p1.un.2.1.un.1, .int .i64 p1.un.2.1.un.2.1, .int .i64 p1.un.2.1.un.2.2.1, v1, .int .i64 p1.un.2.2.1, .int .i64 p1.un.2.2.2.1, v2])]) (Z := []) (β := Unit) (rv := fun x => .bool x10.1) (MM := fun x => [(q_p0, [.int .i64 x10.2])]) (ZZ := fun x => []) F W XH Aa Aa (fun hL => ih _ _ w q_p0 ((v5.2.1.2.2.2.1)) ((v5.2.2.2.2.1)) x8 (Tr39.of (x9.un.1, Tr36.of (x9.un.2.1.un.1, x9.un.2.1.un.2.1, x9.un.2.1.un.2.2.1, x9.un.2.1.un.2.2.2), x9.un.2.2.1, x9.un.2.2.2.1, x9.un.2.2.2.2)) (AG (p2 - 1)) _ h10 (Sl.at_ (W.roX h_v2 (fun g hg => GI hg)) h7 (AC.snd (AC.fst (AC.snd (AC.snd (AC.snd AC.here))))) (congrArg (fun q : Tr39 => q.un.2.1.un.2.2.2) h8)) (Sl.at_ (W.roX h_v2 (fun g hg => GI hg)) h7 (AC.snd (AC.snd (AC.snd (AC.snd AC.here)))) (congrArg (fun q : Tr39 => q.un.2.2.2.2) h8)) hL) fun x a w F W => ?_
   have W : Stw ⟨Y, X, w0⟩ [(q_p0, [.int .i64 x10.2]), (b2, [.int .i64 x9.un.1, .int .i64 x9.un.2.1.un.1, .int .i64 x9.un.2.1.un.2.1, .int .i64 x9.un.2.1.un.2.2.1, (v5.2.1.2.2.2.1), .int .i64 x9.un.2.2.1, .int .i64 x9.un.2.2.2.1, (v5.2.2.2.2.1)]), (b1, [.int .i64 p1.un.1, .int .i64 p1.un.2.1.un.1, .int .i64 p1.un.2.1.un.2.1, .int .i64 p1.un.2.1.un.2.2.1, v1, .int .i64 p1.un.2.2.1, .int .i64 p1.un.2.2.2.1, v2])] [] w := W
   refine ls F W Aa (F4 F Aa).q fun a w F W => ?_
   refine Ad (Ac ?_)
   refine Aw F Aa (fun hb => ?_) fun hb => ?_
   ·
    have H := AV hb H
    rw [hb] at F
    refine Ah (Ab ?_)
    refine ls F W Aa (Ae F Aa).q fun a w F W => ?_
    refine Ad (Ac (Av (AQ ?_)))
    iterate 2 refine AN ?_
    refine AQ (AN ?_)
    have H := L4 _ H
    have H := L3 _ H
    have H := AP H
    subst H
    refine AJ (.inl Aa) F W Aa (AB F Aa) ?_
    have W := W.sub (M' := [(q_p0, [.int .i64 x10.2])]) (Z' := []) (List.Sublist.cons_cons _ (List.nil_sublist _)) (List.Sublist.refl _)
    exact ⟨(), Aa, W⟩
   have H := AR (by rw [hb]; decide) H
   rw [hb] at F
   refine Ay (AU (Ac (Ab ?_)))
   refine ls F W Aa (BL F Aa Aa Aa).q fun a w F W => ?_
   refine ls F W Aa (Ag F Aa).q fun a w F W => ?_
   refine Ad (Ac ?_)
   have W := W.frontM (i := 2) Aa Aa
   have W := W.sub (M' := [(b1, [.int .i64 p1.un.1, .int .i64 p1.un.2.1.un.1, .int .i64 p1.un.2.1.un.2.1, .int .i64 p1.un.2.1.un.2.2.1, v1, .int .i64 p1.un.2.2.1, .int .i64 p1.un.2.2.2.1, v2]), (q_p0, [.int .i64 x10.2])]) (Z' := []) (List.Sublist.cons_cons _ (List.Sublist.cons_cons _ (List.nil_sublist _))) (List.Sublist.refl _)
   exact ⟨_, H, F.re ⟨rfl, Aa, Aa, Aa, Aa, Aa, trivial⟩, W⟩
  have H := AR (Bf hb) H
  rw [hb] at F
  refine Bz ?_
  iterate 2 refine BS ?_
  refine Bx (Ac ?_)
  have W := W.frontM (i := 1) Aa Aa
  have W := W.frontM (i := 1) Aa Aa
  have H := L4 _ H
  exact ⟨_, H, F.re ⟨rfl, Aa, trivial⟩, W⟩
 rintro a w ⟨x6, hj, F, W⟩
 have H := K3 _ hj
 refine Ah (Ab ?_)
 refine ls F W Aa (Ag F Aa).q fun a w F W => ?_
 refine ls F W Aa (CI F Aa).q fun a w F W => ?_
 refine ls F W Aa (Ai Px Aa Aa Aa T3 F Aa 0 Aa).q fun a w F W => ?_
 refine ls F W Aa (Ao (v := Value.int .i64 x6) 1 F Aa Aa T3 Aa).q fun a w F W => ?_
 refine ls F W Aa (D4 F Aa Aa).q fun a w F W => ?_
 refine ls F W Aa (Ae F Aa).q fun a w F W => ?_
 refine Ad (Ac (Av ?_))
 have H := AP H
 subst H
 refine AJ (.inl Aa) F W Aa (AB F Aa) ?_
 have W := W.frontM (i := 1) Aa Aa
 have W := W.sub (M' := [(q_p0, [.int .i64 x6])]) (Z' := []) (List.Sublist.cons_cons _ (List.nil_sublist _)) (List.Sublist.refl _)
 exact ⟨(), Aa, W⟩
theorem KK : ∀ (n : Nat) (Y : Nat → Prop) (X : List Nat) (w0 : World) (q_p0 : Nat) (v1 : Value) (v2 : Value) (p0 : Int) (p1 : Tr39) (p2 : Int) (r : Bool × Int) (H : CF n p0 p1 p2 = some r) (h_v1 : Sl w0 (NX X) BF v1 p1.un.2.1.un.2.2.2) (h_v2 : Sl w0 (NX X) Gy v2 p1.un.2.2.2.2) (hL : Stw ⟨Y, X, w0⟩ [(q_p0, [.int .i64 p0])] [] w0), Calls Tryz.prog 64 #[.pointer (some ⟨q_p0, 0, none⟩), .agg #[.int .i64 p1.un.1, .int .i64 p1.un.2.1.un.1, .int .i64 p1.un.2.1.un.2.1, .int .i64 p1.un.2.1.un.2.2.1, v1, .int .i64 p1.un.2.2.1, .int .i64 p1.un.2.2.2.1, v2], .int .i64 p2] w0 fun e w' => ∃ x : Unit, e = .returned (.bool r.1) ∧ Stw ⟨Y, X, w0⟩ [(q_p0, [.int .i64 r.2])] [] w' := by
  intro n
  induction n with
  | zero => intro Y X w0 q_p0 v1 v2 p0 p1 p2 r H; exact nomatch H
  | succ n ih => intro Y X w0 q_p0 v1 v2 p0 p1 p2 r H h_v1 h_v2 hL; exact Km (CF n) ih Y X w0 q_p0 v1 v2 p0 p1 p2 r H h_v1 h_v2 hL
theorem Lr (Y : Nat → Prop) (X : List Nat) (w0 : World) (q_p0 : Nat) (v1 : Value) (v2 : Value) (p0 : Int) (p1 : Tr39) (p2 : Int) (r : Bool × Int) (H : GT p0 p1 p2 = some r) (h_v1 : Sl w0 (NX X) BF v1 p1.un.2.1.un.2.2.2) (h_v2 : Sl w0 (NX X) Gy v2 p1.un.2.2.2.2) (hL : Stw ⟨Y, X, w0⟩ [(q_p0, [.int .i64 p0])] [] w0) :
    Calls Tryz.prog 64 #[.pointer (some ⟨q_p0, 0, none⟩), .agg #[.int .i64 p1.un.1, .int .i64 p1.un.2.1.un.1, .int .i64 p1.un.2.1.un.2.1, .int .i64 p1.un.2.1.un.2.2.1, v1, .int .i64 p1.un.2.2.1, .int .i64 p1.un.2.2.2.1, v2], .int .i64 p2] w0 fun e w' => ∃ x : Unit, e = .returned (.bool r.1) ∧ Stw ⟨Y, X, w0⟩ [(q_p0, [.int .i64 r.2])] [] w' := by
  obtain ⟨n, H⟩ := Dd H
  exact KK n Y X w0 q_p0 v1 v2 p0 p1 p2 r H h_v1 h_v2 hL
theorem WH : Has Tryz.prog 65 := ⟨fun args w => Aj Tryz.func65 rfl (by decide) args w⟩
def D0 (fRec : Tr39 → Option Int) (p0 : Tr39) : (Int × Int) → Option ((Int × Int) ⊕ Int)
  | (x2, x3) => (if x3 < (p0.un.2.2.2.2.length : Int) then (ix p0.un.2.2.2.2 x3).bind fun x4 => (fRec (Tr39.of (x4.un.1, Tr36.of (x4.un.2.1.un.1, x4.un.2.1.un.2.1, x4.un.2.1.un.2.2.1, x4.un.2.1.un.2.2.2), x4.un.2.2.1, x4.un.2.2.2.1, x4.un.2.2.2.2))).bind fun x5 => some (.inl (min (AG (x2 * x5)) 1000, AG (x3 + 1))) else some (.inr x2))
def DR (fRec : Tr39 → Option Int) (p0 : Tr39) : (Int × Int) → Option ((Int × Int) ⊕ Int)
  | (x6, x7) => (if x7 < (p0.un.2.2.2.2.length : Int) then (ix p0.un.2.2.2.2 x7).bind fun x8 => (fRec (Tr39.of (x8.un.1, Tr36.of (x8.un.2.1.un.1, x8.un.2.1.un.2.1, x8.un.2.1.un.2.2.1, x8.un.2.1.un.2.2.2), x8.un.2.2.1, x8.un.2.2.2.1, x8.un.2.2.2.2))).bind fun x9 => some (.inl (min (AG (x6 + x9)) 1000, AG (x7 + 1))) else some (.inr x6))
def D2 (fRec : Tr39 → Option Int) (p0 : Tr39) : (Int × Int) → Option ((Int × Int) ⊕ Int)
  | (x10, x11) => (if x11 < (p0.un.2.2.2.2.length : Int) then (ix p0.un.2.2.2.2 x11).bind fun x12 => (fRec (Tr39.of (x12.un.1, Tr36.of (x12.un.2.1.un.1, x12.un.2.1.un.2.1, x12.un.2.1.un.2.2.1, x12.un.2.1.un.2.2.2), x12.un.2.2.1, x12.un.2.2.2.1, x12.un.2.2.2.2))).bind fun x13 => some (.inl (max x10 x13, AG (x11 + 1))) else some (.inr x10))
def Ew (fRec : Tr39 → Option Int) (p0 : Tr39) : Option Int := (if p0.un.1 = 3 then A6 (D0 fRec p0) (1, 0) else (if p0.un.1 = 4 then A6 (DR fRec p0) (0, 0) else (if p0.un.1 = 5 then A6 (D2 fRec p0) (0, 0) else some 1))).bind fun x1 => some x1
def ET : Nat → Tr39 → Option Int
  | 0 => fun _ => none
  | n + 1 => Ew (ET n)
def LQ (p0 : Tr39) : Option Int := Jl fun n => ET n p0
theorem OW (fRec : Tr39 → Option Int) (ih : ∀ (Y : Nat → Prop) (w0 : World) (v1 : Value) (v2 : Value) (p0 : Tr39) (r : Int) (H : fRec p0 = some r) (h_v1 : Sl w0 (NX []) BF v1 p0.un.2.1.un.2.2.2) (h_v2 : Sl w0 (NX []) Gy v2 p0.un.2.2.2.2), Calls Tryz.prog 65 #[.agg #[.int .i64 p0.un.1, .int .i64 p0.un.2.1.un.1, .int .i64 p0.un.2.1.un.2.1, .int .i64 p0.un.2.1.un.2.2.1, v1, .int .i64 p0.un.2.2.1, .int .i64 p0.un.2.2.2.1, v2]] w0 fun e w' => e = .returned (.int .i64 r) ∧ Below w0.heap.size w0 w') (Y : Nat → Prop) (w0 : World) (v1 : Value) (v2 : Value) (p0 : Tr39) (r : Int) (H : Ew fRec p0 = some r) (h_v1 : Sl w0 (NX []) BF v1 p0.un.2.1.un.2.2.2) (h_v2 : Sl w0 (NX []) Gy v2 p0.un.2.2.2.2) :
    Calls Tryz.prog 65 #[.agg #[.int .i64 p0.un.1, .int .i64 p0.un.2.1.un.1, .int .i64 p0.un.2.1.un.2.1, .int .i64 p0.un.2.1.un.2.2.1, v1, .int .i64 p0.un.2.2.1, .int .i64 p0.un.2.2.2.1, v2]] w0 fun e w' => e = .returned (.int .i64 r) ∧ Below w0.heap.size w0 w' := by
 refine enter Tryz.func65 Aa Tryz.ntmps65 Aa fun a F => ?_
 have W := Stw.start Y w0
 obtain ⟨v3, h1, h_v1⟩ := h_v1.ex BV
 obtain ⟨v4, h2, h_v2⟩ := h_v2.ex FD
 unfold Ew at H
 refine Ah (Ab ?_)
 refine CS (cs := [.int .i64 p0.un.1, .int .i64 p0.un.2.1.un.1, .int .i64 p0.un.2.1.un.2.1, .int .i64 p0.un.2.1.un.2.2.1, v1, .int .i64 p0.un.2.2.1, .int .i64 p0.un.2.2.2.1, v2]) F W Aa Aa Aa fun b1 a w F W => ?_
 refine ls F W Aa (Ae F Aa).q fun a w F W => ?_
 refine Ad (Ac (Ah (Ab ?_)))
 refine ls F W Aa (Ae F Aa).q fun a w F W => ?_
 refine Ad (Ac ?_)
 obtain ⟨o1, G1, K1⟩ := Am H
 refine AO (fun a w => ∃ x1 : Int, some (x1) = some o1 ∧ Fr 57 [] [(2, .int .i64 0), (3, .int .i64 x1)] a ∧ Stw ⟨Y, [], w0⟩ [(b1, [.int .i64 p0.un.1, .int .i64 p0.un.2.1.un.1, .int .i64 p0.un.2.1.un.2.1, .int .i64 p0.un.2.1.un.2.2.1, v1, .int .i64 p0.un.2.2.1, .int .i64 p0.un.2.2.2.1, v2])] [] w) ?_ ?_
 ·
  have H := G1
  refine Ah (Ab ?_)
  refine ls F W Aa (Ai Ed Aa Aa Aa T3 F Aa 0 Aa).q fun a w F W => ?_
  refine ls F W Aa (Ao (v := Value.int .i64 p0.un.1) 0 F Aa Aa T3 Aa).q fun a w F W => ?_
  refine Ad (Ac (Az (Ah (Ab ?_))))
  refine ls F W Aa (A7 F Aa Aa).q fun a w F W => ?_
  refine ls F W Aa (Ae F Aa).q fun a w F W => ?_
  refine Ad (Ac ?_)
  refine Aw F Aa (fun hb => ?_) fun hb => ?_
  ·
   have H := AV (Bg hb) H
   rw [hb] at F
   refine Ah (Ab ?_)
   refine ls F W Aa (Ae F Aa).q fun a w F W => ?_
   refine Ad (Ac (Ah (Ab ?_)))
   refine ls F W Aa (Ai Ed Aa Aa Aa Lx F Aa 7 Aa).q fun a w F W => ?_
   refine ls F W Aa (Ao (v := v2) 0 F Aa Aa Lx Aa).q fun a w F W => ?_
   refine ls F W Aa (CA (r := Gy) (l := p0.un.2.2.2.2) Ng Aa F Aa (AH FD h2 (Aq h_v2))).q fun a w F W => ?_
   refine ls F W Aa (Ag F Aa).q fun a w F W => ?_
   refine Ad (Ac (Az ?_))
   refine BG H (fun s a w => Fr 57 [] [(2, .int .i64 0), (3, .int .i64 s.1), (15, v2), (16, .int .i64 (p0.un.2.2.2.2.length : Int)), (17, .int .i64 s.2)] a ∧ Stw ⟨Y, [], w0⟩ [(b1, [.int .i64 p0.un.1, .int .i64 p0.un.2.1.un.1, .int .i64 p0.un.2.1.un.2.1, .int .i64 p0.un.2.1.un.2.2.1, v1, .int .i64 p0.un.2.2.1, .int .i64 p0.un.2.2.2.1, v2])] [] w) ⟨F.re ⟨rfl, Aa, Aa, Aa, Aa, trivial⟩, W⟩ fun s o a w H L2 hR => ?_
   obtain ⟨x2, x3⟩ := s
   obtain ⟨F, W⟩ := hR
   have F : Fr 57 [] [(2, .int .i64 0), (3, .int .i64 x2), (15, v2), (16, .int .i64 (p0.un.2.2.2.2.length : Int)), (17, .int .i64 x3)] a := F
   have W : Stw ⟨Y, [], w0⟩ [(b1, [.int .i64 p0.un.1, .int .i64 p0.un.2.1.un.1, .int .i64 p0.un.2.1.un.2.1, .int .i64 p0.un.2.1.un.2.2.1, v1, .int .i64 p0.un.2.2.1, .int .i64 p0.un.2.2.2.1, v2])] [] w := W
   rw [D0] at H
   refine Ah (Ab ?_)
   refine ls F W Aa (Cu F Aa Aa).q fun a w F W => ?_
   refine Ad (Ac (Ah ?_))
   refine Aw F Aa (fun hb => ?_) fun hb => ?_
   ·
    have H := AV (Bg hb) H
    rw [hb] at F
    refine Ay (Ac (Ah (Az (Ah (Ab ?_)))))
    obtain ⟨x4, h3, H⟩ := Am H
    obtain ⟨v5, h4, h5⟩ := Ez h2 h3
    have h6 : Ls v5 = [.int .i64 x4.un.1, .int .i64 x4.un.2.1.un.1, .int .i64 x4.un.2.1.un.2.1, .int .i64 x4.un.2.1.un.2.2.1, (v5.2.1.2.2.2.1), .int .i64 x4.un.2.2.1, .int .i64 x4.un.2.2.2.1, (v5.2.2.2.2.1)] := congrArg (fun q : Tr39 => ([.int .i64 q.un.1, .int .i64 q.un.2.1.un.1, .int .i64 q.un.2.1.un.2.1, .int .i64 q.un.2.1.un.2.2.1, (v5.2.1.2.2.2.1), .int .i64 q.un.2.2.1, .int .i64 q.un.2.2.2.1, (v5.2.2.2.2.1)] : List Value)) h5
    refine ls F W Aa (AM (r := Of) Uj F Aa Aa (Aq h_v2) h4).q fun a w F W => ?_
    refine ls F W Aa (AA (y := Value.agg #[.int .i64 x4.un.1, .int .i64 x4.un.2.1.un.1, .int .i64 x4.un.2.1.un.2.1, .int .i64 x4.un.2.1.un.2.2.1, (v5.2.1.2.2.2.1), .int .i64 x4.un.2.2.1, .int .i64 x4.un.2.2.2.1, (v5.2.2.2.2.1)]) (j := 0) (i := x3) (enc := Ls) F Aa Aa (Aq h_v2) h4 Rb Ka (by rw [h6]; rfl)).q fun a w F W => ?_
    refine Co (cs := [.int .i64 0, .int .i64 0, .int .i64 0, .int .i64 0, .slice none 0 0, .int .i64 0, .int .i64 0, .slice none 0 0]) F W Aa UK Aa fun b2 a w F W => ?_
    refine Be (vs := [.int .i64 x4.un.1, .int .i64 x4.un.2.1.un.1, .int .i64 x4.un.2.1.un.2.1, .int .i64 x4.un.2.1.un.2.2.1, (v5.2.1.2.2.2.1), .int .i64 x4.un.2.2.1, .int .i64 x4.un.2.2.2.1, (v5.2.2.2.2.1)]) (M' := [(b2, [.int .i64 x4.un.1, .int .i64 x4.un.2.1.un.1, .int .i64 x4.un.2.1.un.2.1, .int .i64 x4.un.2.1.un.2.2.1, (v5.2.1.2.2.2.1), .int .i64 x4.un.2.2.1, .int .i64 x4.un.2.2.2.1, (v5.2.2.2.2.1)]), (b1, [.int .i64 p0.un.1, .int .i64 p0.un.2.1.un.1, .int .i64 p0.un.2.1.un.2.1, .int .i64 p0.un.2.1.un.2.2.1, v1, .int .i64 p0.un.2.2.1, .int .i64 p0.un.2.2.2.1, v2])]) 0 F W Aa Aa Aa Ka Aa Aa Aa (An Aa (An Aa (An Aa (An Aa (An ((Cn (Aq h_v2) h4 (AC.snd (AC.fst (AC.snd (AC.snd (AC.snd AC.here))))) (congrArg (fun q : Tr39 => q.un.2.1.un.2.2.2) h5)) _ W).one (An Aa (An Aa (An ((Cn (Aq h_v2) h4 (AC.snd (AC.snd (AC.snd (AC.snd AC.here)))) (congrArg (fun q : Tr39 => q.un.2.2.2.2) h5)) _ W).one Cq)))))))) Aa fun w W => ?_
    refine Ad (Ac (Ab ?_))
    refine ls F W Aa (Ag F Aa).q fun a w F W => ?_
    refine ls F W Aa (Ao (v := Value.agg #[.int .i64 x4.un.1, .int .i64 x4.un.2.1.un.1, .int .i64 x4.un.2.1.un.2.1, .int .i64 x4.un.2.1.un.2.2.1, (v5.2.1.2.2.2.1), .int .i64 x4.un.2.2.1, .int .i64 x4.un.2.2.2.1, (v5.2.2.2.2.1)]) 0 F Aa Aa Ka Aa).q fun a w F W => ?_
    obtain ⟨x5, h7, H⟩ := Am H
    refine ls F W Aa (A3 (v := Value.int .i64 x5) F WH Aa (fun w W => ih any w ((v5.2.1.2.2.2.1)) ((v5.2.2.2.2.1)) (Tr39.of (x4.un.1, Tr36.of (x4.un.2.1.un.1, x4.un.2.1.un.2.1, x4.un.2.1.un.2.2.1, x4.un.2.1.un.2.2.2), x4.un.2.2.1, x4.un.2.2.2.1, x4.un.2.2.2.2)) _ h7 (((Cn (Aq h_v2) h4 (AC.snd (AC.fst (AC.snd (AC.snd (AC.snd AC.here))))) (congrArg (fun q : Tr39 => q.un.2.1.un.2.2.2) h5)) : D1 _ _ _ _ _ _) w W).nx (((Cn (Aq h_v2) h4 (AC.snd (AC.snd (AC.snd (AC.snd AC.here)))) (congrArg (fun q : Tr39 => q.un.2.2.2.2) h5)) : D1 _ _ _ _ _ _) w W).nx)) fun a w F W => ?_
    refine ls F W Aa (OG F Aa Aa Aa).q fun a w F W => ?_
    refine ls F W Aa (Ua F Aa Aa).q fun a w F W => ?_
    refine ls F W Aa (Ae F Aa).q fun a w F W => ?_
    refine Ad (AU (Ac (Ab ?_)))
    refine ls F W Aa (BL F Aa Aa Aa).q fun a w F W => ?_
    refine ls F W Aa (Ag F Aa).q fun a w F W => ?_
    refine Ad (Ac ?_)
    have W := W.frontM (i := 1) Aa Aa
    have W := W.sub (M' := [(b1, [.int .i64 p0.un.1, .int .i64 p0.un.2.1.un.1, .int .i64 p0.un.2.1.un.2.1, .int .i64 p0.un.2.1.un.2.2.1, v1, .int .i64 p0.un.2.2.1, .int .i64 p0.un.2.2.2.1, v2])]) (Z' := []) (List.Sublist.cons_cons _ (List.nil_sublist _)) (List.Sublist.refl _)
    exact ⟨_, H, F.re ⟨rfl, Aa, Aa, Aa, Aa, trivial⟩, W⟩
   have H := AR (Bf hb) H
   rw [hb] at F
   refine Bz ?_
   iterate 2 refine BS ?_
   refine Bx (AU (Ac ?_))
   have H := L2 _ H
   exact ⟨_, H, F.re ⟨rfl, Aa, trivial⟩, W⟩
  have H := AR (Bf hb) H
  rw [hb] at F
  refine Ah (Ab ?_)
  refine ls F W Aa (A7 F Aa Aa).q fun a w F W => ?_
  refine ls F W Aa (Ae F Aa).q fun a w F W => ?_
  refine Ad (Ac ?_)
  refine Aw F Aa (fun hb => ?_) fun hb => ?_
  ·
   have H := AV (Bg hb) H
   rw [hb] at F
   refine Ah (Ab ?_)
   refine ls F W Aa (Ai Ed Aa Aa Aa Lx F Aa 7 Aa).q fun a w F W => ?_
   refine ls F W Aa (Ao (v := v2) 0 F Aa Aa Lx Aa).q fun a w F W => ?_
   refine ls F W Aa (CA (r := Gy) (l := p0.un.2.2.2.2) Ng Aa F Aa (AH FD h2 (Aq h_v2))).q fun a w F W => ?_
   refine ls F W Aa (Ag F Aa).q fun a w F W => ?_
   refine Ad (Ac (Az ?_))
   refine BG H (fun s a w => Fr 57 [] [(2, .int .i64 0), (3, .int .i64 s.1), (30, v2), (31, .int .i64 (p0.un.2.2.2.2.length : Int)), (32, .int .i64 s.2)] a ∧ Stw ⟨Y, [], w0⟩ [(b1, [.int .i64 p0.un.1, .int .i64 p0.un.2.1.un.1, .int .i64 p0.un.2.1.un.2.1, .int .i64 p0.un.2.1.un.2.2.1, v1, .int .i64 p0.un.2.2.1, .int .i64 p0.un.2.2.2.1, v2])] [] w) ⟨F.re ⟨rfl, Aa, Aa, Aa, Aa, trivial⟩, W⟩ fun s o a w H L3 hR => ?_
   obtain ⟨x6, x7⟩ := s
   obtain ⟨F, W⟩ := hR
   have F : Fr 57 [] [(2, .int .i64 0), (3, .int .i64 x6), (30, v2), (31, .int .i64 (p0.un.2.2.2.2.length : Int)), (32, .int .i64 x7)] a := F
   have W : Stw ⟨Y, [], w0⟩ [(b1, [.int .i64 p0.un.1, .int .i64 p0.un.2.1.un.1, .int .i64 p0.un.2.1.un.2.1, .int .i64 p0.un.2.1.un.2.2.1, v1, .int .i64 p0.un.2.2.1, .int .i64 p0.un.2.2.2.1, v2])] [] w := W
   rw [DR] at H
   refine Ah (Ab ?_)
   refine ls F W Aa (Cu F Aa Aa).q fun a w F W => ?_
   refine Ad (Ac (Ah ?_))
   refine Aw F Aa (fun hb => ?_) fun hb => ?_
   ·
    have H := AV (Bg hb) H
    rw [hb] at F
    refine Ay (Ac (Ah (Az (Ah (Ab ?_)))))
    obtain ⟨x8, h8, H⟩ := Am H
    obtain ⟨v6, h9, h10⟩ := Ez h2 h8
    have h11 : Ls v6 = [.int .i64 x8.un.1, .int .i64 x8.un.2.1.un.1, .int .i64 x8.un.2.1.un.2.1, .int .i64 x8.un.2.1.un.2.2.1, (v6.2.1.2.2.2.1), .int .i64 x8.un.2.2.1, .int .i64 x8.un.2.2.2.1, (v6.2.2.2.2.1)] := congrArg (fun q : Tr39 => ([.int .i64 q.un.1, .int .i64 q.un.2.1.un.1, .int .i64 q.un.2.1.un.2.1, .int .i64 q.un.2.1.un.2.2.1, (v6.2.1.2.2.2.1), .int .i64 q.un.2.2.1, .int .i64 q.un.2.2.2.1, (v6.2.2.2.2.1)] : List Value)) h10
    refine ls F W Aa (AM (r := Of) Uj F Aa Aa (Aq h_v2) h9).q fun a w F W => ?_
    refine ls F W Aa (AA (y := Value.agg #[.int .i64 x8.un.1, .int .i64 x8.un.2.1.un.1, .int .i64 x8.un.2.1.un.2.1, .int .i64 x8.un.2.1.un.2.2.1, (v6.2.1.2.2.2.1), .int .i64 x8.un.2.2.1, .int .i64 x8.un.2.2.2.1, (v6.2.2.2.2.1)]) (j := 0) (i := x7) (enc := Ls) F Aa Aa (Aq h_v2) h9 Rb Ka (by rw [h11]; rfl)).q fun a w F W => ?_
    refine Co (cs := [.int .i64 0, .int .i64 0, .int .i64 0, .int .i64 0, .slice none 0 0, .int .i64 0, .int .i64 0, .slice none 0 0]) F W Aa UK Aa fun b3 a w F W => ?_
    refine Be (vs := [.int .i64 x8.un.1, .int .i64 x8.un.2.1.un.1, .int .i64 x8.un.2.1.un.2.1, .int .i64 x8.un.2.1.un.2.2.1, (v6.2.1.2.2.2.1), .int .i64 x8.un.2.2.1, .int .i64 x8.un.2.2.2.1, (v6.2.2.2.2.1)]) (M' := [(b3, [.int .i64 x8.un.1, .int .i64 x8.un.2.1.un.1, .int .i64 x8.un.2.1.un.2.1, .int .i64 x8.un.2.1.un.2.2.1, (v6.2.1.2.2.2.1), .int .i64 x8.un.2.2.1, .int .i64 x8.un.2.2.2.1, (v6.2.2.2.2.1)]), (b1, [.int .i64 p0.un.1, .int .i64 p0.un.2.1.un.1, .int .i64 p0.un.2.1.un.2.1, .int .i64 p0.un.2.1.un.2.2.1, v1, .int .i64 p0.un.2.2.1, .int .i64 p0.un.2.2.2.1, v2])]) 0 F W Aa Aa Aa Ka Aa Aa Aa (An Aa (An Aa (An Aa (An Aa (An ((Cn (Aq h_v2) h9 (AC.snd (AC.fst (AC.snd (AC.snd (AC.snd AC.here))))) (congrArg (fun q : Tr39 => q.un.2.1.un.2.2.2) h10)) _ W).one (An Aa (An Aa (An ((Cn (Aq h_v2) h9 (AC.snd (AC.snd (AC.snd (AC.snd AC.here)))) (congrArg (fun q : Tr39 => q.un.2.2.2.2) h10)) _ W).one Cq)))))))) Aa fun w W => ?_
    refine Ad (Ac (Ab ?_))
    refine ls F W Aa (Ag F Aa).q fun a w F W => ?_
    refine ls F W Aa (Ao (v := Value.agg #[.int .i64 x8.un.1, .int .i64 x8.un.2.1.un.1, .int .i64 x8.un.2.1.un.2.1, .int .i64 x8.un.2.1.un.2.2.1, (v6.2.1.2.2.2.1), .int .i64 x8.un.2.2.1, .int .i64 x8.un.2.2.2.1, (v6.2.2.2.2.1)]) 0 F Aa Aa Ka Aa).q fun a w F W => ?_
    obtain ⟨x9, h12, H⟩ := Am H
    refine ls F W Aa (A3 (v := Value.int .i64 x9) F WH Aa (fun w W => ih any w ((v6.2.1.2.2.2.1)) ((v6.2.2.2.2.1)) (Tr39.of (x8.un.1, Tr36.of (x8.un.2.1.un.1, x8.un.2.1.un.2.1, x8.un.2.1.un.2.2.1, x8.un.2.1.un.2.2.2), x8.un.2.2.1, x8.un.2.2.2.1, x8.un.2.2.2.2)) _ h12 (((Cn (Aq h_v2) h9 (AC.snd (AC.fst (AC.snd (AC.snd (AC.snd AC.here))))) (congrArg (fun q : Tr39 => q.un.2.1.un.2.2.2) h10)) : D1 _ _ _ _ _ _) w W).nx (((Cn (Aq h_v2) h9 (AC.snd (AC.snd (AC.snd (AC.snd AC.here)))) (congrArg (fun q : Tr39 => q.un.2.2.2.2) h10)) : D1 _ _ _ _ _ _) w W).nx)) fun a w F W => ?_
    refine ls F W Aa (BL F Aa Aa Aa).q fun a w F W => ?_
    refine ls F W Aa (Ua F Aa Aa).q fun a w F W => ?_
    refine ls F W Aa (Ae F Aa).q fun a w F W => ?_
    refine Ad (AU (Ac (Ab ?_)))
    refine ls F W Aa (BL F Aa Aa Aa).q fun a w F W => ?_
    refine ls F W Aa (Ag F Aa).q fun a w F W => ?_
    refine Ad (Ac ?_)
    have W := W.frontM (i := 1) Aa Aa
    have W := W.sub (M' := [(b1, [.int .i64 p0.un.1, .int .i64 p0.un.2.1.un.1, .int .i64 p0.un.2.1.un.2.1, .int .i64 p0.un.2.1.un.2.2.1, v1, .int .i64 p0.un.2.2.1, .int .i64 p0.un.2.2.2.1, v2])]) (Z' := []) (List.Sublist.cons_cons _ (List.nil_sublist _)) (List.Sublist.refl _)
    exact ⟨_, H, F.re ⟨rfl, Aa, Aa, Aa, Aa, trivial⟩, W⟩
   have H := AR (Bf hb) H
   rw [hb] at F
   refine Bz ?_
   iterate 2 refine BS ?_
   refine Bx (AU (Ac ?_))
   have H := L3 _ H
   exact ⟨_, H, F.re ⟨rfl, Aa, trivial⟩, W⟩
  have H := AR (Bf hb) H
  rw [hb] at F
  refine Ah (Ab ?_)
  refine ls F W Aa (A7 F Aa Aa).q fun a w F W => ?_
  refine ls F W Aa (Ae F Aa).q fun a w F W => ?_
  refine Ad (Ac ?_)
  refine Aw F Aa (fun hb => ?_) fun hb => ?_
  ·
   have H := AV (Bg hb) H
   rw [hb] at F
   refine Ah (Ab ?_)
   refine ls F W Aa (Ai Ed Aa Aa Aa Lx F Aa 7 Aa).q fun a w F W => ?_
   refine ls F W Aa (Ao (v := v2) 0 F Aa Aa Lx Aa).q fun a w F W => ?_
   refine ls F W Aa (CA (r := Gy) (l := p0.un.2.2.2.2) Ng Aa F Aa (AH FD h2 (Aq h_v2))).q fun a w F W => ?_
   refine ls F W Aa (Ag F Aa).q fun a w F W => ?_
   refine Ad (Ac (Az ?_))
   refine BG H (fun s a w => Fr 57 [] [(2, .int .i64 0), (3, .int .i64 s.1), (45, v2), (46, .int .i64 (p0.un.2.2.2.2.length : Int)), (47, .int .i64 s.2)] a ∧ Stw ⟨Y, [], w0⟩ [(b1, [.int .i64 p0.un.1, .int .i64 p0.un.2.1.un.1, .int .i64 p0.un.2.1.un.2.1, .int .i64 p0.un.2.1.un.2.2.1, v1, .int .i64 p0.un.2.2.1, .int .i64 p0.un.2.2.2.1, v2])] [] w) ⟨F.re ⟨rfl, Aa, Aa, Aa, Aa, trivial⟩, W⟩ fun s o a w H L4 hR => ?_
   obtain ⟨x10, x11⟩ := s
   obtain ⟨F, W⟩ := hR
   have F : Fr 57 [] [(2, .int .i64 0), (3, .int .i64 x10), (45, v2), (46, .int .i64 (p0.un.2.2.2.2.length : Int)), (47, .int .i64 x11)] a := F
   have W : Stw ⟨Y, [], w0⟩ [(b1, [.int .i64 p0.un.1, .int .i64 p0.un.2.1.un.1, .int .i64 p0.un.2.1.un.2.1, .int .i64 p0.un.2.1.un.2.2.1, v1, .int .i64 p0.un.2.2.1, .int .i64 p0.un.2.2.2.1, v2])] [] w := W
   rw [D2] at H
   refine Ah (Ab ?_)
   refine ls F W Aa (Cu F Aa Aa).q fun a w F W => ?_
   refine Ad (Ac (Ah ?_))
   refine Aw F Aa (fun hb => ?_) fun hb => ?_
   ·
    have H := AV (Bg hb) H
    rw [hb] at F
    refine Ay (Ac (Ah (Az (Ah (Ab ?_)))))
    obtain ⟨x12, h13, H⟩ := Am H
    obtain ⟨v7, h14, h15⟩ := Ez h2 h13
    have h16 : Ls v7 = [.int .i64 x12.un.1, .int .i64 x12.un.2.1.un.1, .int .i64 x12.un.2.1.un.2.1, .int .i64 x12.un.2.1.un.2.2.1, (v7.2.1.2.2.2.1), .int .i64 x12.un.2.2.1, .int .i64 x12.un.2.2.2.1, (v7.2.2.2.2.1)] := congrArg (fun q : Tr39 => ([.int .i64 q.un.1, .int .i64 q.un.2.1.un.1, .int .i64 q.un.2.1.un.2.1, .int .i64 q.un.2.1.un.2.2.1, (v7.2.1.2.2.2.1), .int .i64 q.un.2.2.1, .int .i64 q.un.2.2.2.1, (v7.2.2.2.2.1)] : List Value)) h15
    refine ls F W Aa (AM (r := Of) Uj F Aa Aa (Aq h_v2) h14).q fun a w F W => ?_
    refine ls F W Aa (AA (y := Value.agg #[.int .i64 x12.un.1, .int .i64 x12.un.2.1.un.1, .int .i64 x12.un.2.1.un.2.1, .int .i64 x12.un.2.1.un.2.2.1, (v7.2.1.2.2.2.1), .int .i64 x12.un.2.2.1, .int .i64 x12.un.2.2.2.1, (v7.2.2.2.2.1)]) (j := 0) (i := x11) (enc := Ls) F Aa Aa (Aq h_v2) h14 Rb Ka (by rw [h16]; rfl)).q fun a w F W => ?_
    refine Co (cs := [.int .i64 0, .int .i64 0, .int .i64 0, .int .i64 0, .slice none 0 0, .int .i64 0, .int .i64 0, .slice none 0 0]) F W Aa UK Aa fun b4 a w F W => ?_
    refine Be (vs := [.int .i64 x12.un.1, .int .i64 x12.un.2.1.un.1, .int .i64 x12.un.2.1.un.2.1, .int .i64 x12.un.2.1.un.2.2.1, (v7.2.1.2.2.2.1), .int .i64 x12.un.2.2.1, .int .i64 x12.un.2.2.2.1, (v7.2.2.2.2.1)]) (M' := [(b4, [.int .i64 x12.un.1, .int .i64 x12.un.2.1.un.1, .int .i64 x12.un.2.1.un.2.1, .int .i64 x12.un.2.1.un.2.2.1, (v7.2.1.2.2.2.1), .int .i64 x12.un.2.2.1, .int .i64 x12.un.2.2.2.1, (v7.2.2.2.2.1)]), (b1, [.int .i64 p0.un.1, .int .i64 p0.un.2.1.un.1, .int .i64 p0.un.2.1.un.2.1, .int .i64 p0.un.2.1.un.2.2.1, v1, .int .i64 p0.un.2.2.1, .int .i64 p0.un.2.2.2.1, v2])]) 0 F W Aa Aa Aa Ka Aa Aa Aa (An Aa (An Aa (An Aa (An Aa (An ((Cn (Aq h_v2) h14 (AC.snd (AC.fst (AC.snd (AC.snd (AC.snd AC.here))))) (congrArg (fun q : Tr39 => q.un.2.1.un.2.2.2) h15)) _ W).one (An Aa (An Aa (An ((Cn (Aq h_v2) h14 (AC.snd (AC.snd (AC.snd (AC.snd AC.here)))) (congrArg (fun q : Tr39 => q.un.2.2.2.2) h15)) _ W).one Cq)))))))) Aa fun w W => ?_
    refine Ad (Ac (Ab ?_))
    refine ls F W Aa (Ag F Aa).q fun a w F W => ?_
    refine ls F W Aa (Ao (v := Value.agg #[.int .i64 x12.un.1, .int .i64 x12.un.2.1.un.1, .int .i64 x12.un.2.1.un.2.1, .int .i64 x12.un.2.1.un.2.2.1, (v7.2.1.2.2.2.1), .int .i64 x12.un.2.2.1, .int .i64 x12.un.2.2.2.1, (v7.2.2.2.2.1)]) 0 F Aa Aa Ka Aa).q fun a w F W => ?_
    obtain ⟨x13, h17, H⟩ := Am H
    refine ls F W Aa (A3 (v := Value.int .i64 x13) F WH Aa (fun w W => ih any w ((v7.2.1.2.2.2.1)) ((v7.2.2.2.2.1)) (Tr39.of (x12.un.1, Tr36.of (x12.un.2.1.un.1, x12.un.2.1.un.2.1, x12.un.2.1.un.2.2.1, x12.un.2.1.un.2.2.2), x12.un.2.2.1, x12.un.2.2.2.1, x12.un.2.2.2.2)) _ h17 (((Cn (Aq h_v2) h14 (AC.snd (AC.fst (AC.snd (AC.snd (AC.snd AC.here))))) (congrArg (fun q : Tr39 => q.un.2.1.un.2.2.2) h15)) : D1 _ _ _ _ _ _) w W).nx (((Cn (Aq h_v2) h14 (AC.snd (AC.snd (AC.snd (AC.snd AC.here)))) (congrArg (fun q : Tr39 => q.un.2.2.2.2) h15)) : D1 _ _ _ _ _ _) w W).nx)) fun a w F W => ?_
    refine ls F W Aa (V5 F Aa Aa).q fun a w F W => ?_
    refine ls F W Aa (Ae F Aa).q fun a w F W => ?_
    refine Ad (AU (Ac (Ab ?_)))
    refine ls F W Aa (BL F Aa Aa Aa).q fun a w F W => ?_
    refine ls F W Aa (Ag F Aa).q fun a w F W => ?_
    refine Ad (Ac ?_)
    have W := W.frontM (i := 1) Aa Aa
    have W := W.sub (M' := [(b1, [.int .i64 p0.un.1, .int .i64 p0.un.2.1.un.1, .int .i64 p0.un.2.1.un.2.1, .int .i64 p0.un.2.1.un.2.2.1, v1, .int .i64 p0.un.2.2.1, .int .i64 p0.un.2.2.2.1, v2])]) (Z' := []) (List.Sublist.cons_cons _ (List.nil_sublist _)) (List.Sublist.refl _)
    exact ⟨_, H, F.re ⟨rfl, Aa, Aa, Aa, Aa, trivial⟩, W⟩
   have H := AR (Bf hb) H
   rw [hb] at F
   refine Bz ?_
   iterate 2 refine BS ?_
   refine Bx (AU (Ac ?_))
   have H := L4 _ H
   exact ⟨_, H, F.re ⟨rfl, Aa, trivial⟩, W⟩
  have H := AR (Bf hb) H
  rw [hb] at F
  refine Ab ?_
  refine ls F W Aa (Ae F Aa).q fun a w F W => ?_
  refine Ad (AU (Ac ?_))
  exact ⟨_, H, F.re ⟨rfl, Aa, trivial⟩, W⟩
 rintro a w ⟨x1, hj, F, W⟩
 have hj := AP hj
 subst hj
 have H := K1
 refine Ah (Ab ?_)
 refine ls F W Aa (Ag F Aa).q fun a w F W => ?_
 refine ls F W Aa (Ae F Aa).q fun a w F W => ?_
 refine Ad (Ac (Av ?_))
 have H := AP H
 subst H
 refine AJ (.inl Aa) F W Aa (AB F Aa) ?_
 exact ⟨rfl, W.done⟩
theorem Qg : ∀ (n : Nat) (Y : Nat → Prop) (w0 : World) (v1 : Value) (v2 : Value) (p0 : Tr39) (r : Int) (H : ET n p0 = some r) (h_v1 : Sl w0 (NX []) BF v1 p0.un.2.1.un.2.2.2) (h_v2 : Sl w0 (NX []) Gy v2 p0.un.2.2.2.2), Calls Tryz.prog 65 #[.agg #[.int .i64 p0.un.1, .int .i64 p0.un.2.1.un.1, .int .i64 p0.un.2.1.un.2.1, .int .i64 p0.un.2.1.un.2.2.1, v1, .int .i64 p0.un.2.2.1, .int .i64 p0.un.2.2.2.1, v2]] w0 fun e w' => e = .returned (.int .i64 r) ∧ Below w0.heap.size w0 w' := by
  intro n
  induction n with
  | zero => intro Y w0 v1 v2 p0 r H; exact nomatch H
  | succ n ih => intro Y w0 v1 v2 p0 r H h_v1 h_v2; exact OW (ET n) ih Y w0 v1 v2 p0 r H h_v1 h_v2
theorem Qx (Y : Nat → Prop) (w0 : World) (v1 : Value) (v2 : Value) (p0 : Tr39) (r : Int) (H : LQ p0 = some r) (h_v1 : Sl w0 (NX []) BF v1 p0.un.2.1.un.2.2.2) (h_v2 : Sl w0 (NX []) Gy v2 p0.un.2.2.2.2) :
    Calls Tryz.prog 65 #[.agg #[.int .i64 p0.un.1, .int .i64 p0.un.2.1.un.1, .int .i64 p0.un.2.1.un.2.1, .int .i64 p0.un.2.1.un.2.2.1, v1, .int .i64 p0.un.2.2.1, .int .i64 p0.un.2.2.2.1, v2]] w0 fun e w' => e = .returned (.int .i64 r) ∧ Below w0.heap.size w0 w' := by
  obtain ⟨n, H⟩ := Dd H
  exact Qg n Y w0 v1 v2 p0 r H h_v1 h_v2
def Ic (p0 : Tr39) : Option Bool := ((GT 64 (Tr39.of (p0.un.1, Tr36.of (p0.un.2.1.un.1, p0.un.2.1.un.2.1, p0.un.2.1.un.2.2.1, p0.un.2.1.un.2.2.2), p0.un.2.2.1, p0.un.2.2.2.1, p0.un.2.2.2.2)) 8).bind fun x3 => (if x3.1 = true then (LQ (Tr39.of (p0.un.1, Tr36.of (p0.un.2.1.un.1, p0.un.2.1.un.2.1, p0.un.2.1.un.2.2.1, p0.un.2.1.un.2.2.2), p0.un.2.2.1, p0.un.2.2.2.1, p0.un.2.2.2.2))).bind fun x4 => some (decide (x4 ≤ 64), x3.2) else some (false, x3.2))).bind fun (x1, x2) => some x1
theorem PO (Y : Nat → Prop) (w0 : World) (v1 : Value) (v2 : Value) (p0 : Tr39) (r : Bool) (H : Ic p0 = some r) (h_v1 : Sl w0 (NX []) BF v1 p0.un.2.1.un.2.2.2) (h_v2 : Sl w0 (NX []) Gy v2 p0.un.2.2.2.2) :
    Calls Tryz.prog 31 #[.agg #[.int .i64 p0.un.1, .int .i64 p0.un.2.1.un.1, .int .i64 p0.un.2.1.un.2.1, .int .i64 p0.un.2.1.un.2.2.1, v1, .int .i64 p0.un.2.2.1, .int .i64 p0.un.2.2.2.1, v2]] w0 fun e w' => e = .returned (.bool r) ∧ Below w0.heap.size w0 w' := by
 refine enter Tryz.func31 Aa Tryz.ntmps31 Aa fun a F => ?_
 have W := Stw.start Y w0
 obtain ⟨v3, h1, h_v1⟩ := h_v1.ex BV
 obtain ⟨v4, h2, h_v2⟩ := h_v2.ex FD
 unfold Ic at H
 refine Ah (Ab ?_)
 refine CS (cs := [.int .i64 p0.un.1, .int .i64 p0.un.2.1.un.1, .int .i64 p0.un.2.1.un.2.1, .int .i64 p0.un.2.1.un.2.2.1, v1, .int .i64 p0.un.2.2.1, .int .i64 p0.un.2.2.2.1, v2]) F W Aa Aa Aa fun b1 a w F W => ?_
 refine ls F W Aa (Ae F Aa).q fun a w F W => ?_
 refine Ad (Ac (Ah (Ab ?_)))
 refine ls F W Aa (De (v := Value.agg #[.int .i64 64]) Xm F Aa Aa Aa).q fun a w F W => ?_
 refine Co (cs := [.int .i64 0]) F W Aa Xp Aa fun b2 a w F W => ?_
 refine Be (vs := [.int .i64 64]) (M' := [(b2, [.int .i64 64]), (b1, [.int .i64 p0.un.1, .int .i64 p0.un.2.1.un.1, .int .i64 p0.un.2.1.un.2.1, .int .i64 p0.un.2.1.un.2.2.1, v1, .int .i64 p0.un.2.2.1, .int .i64 p0.un.2.2.2.1, v2])]) 0 F W Aa Aa Aa W5 Aa Aa Aa Aa Aa fun w W => ?_
 refine Ad (Ac ?_)
 obtain ⟨o1, G1, K1⟩ := Am H
 refine AO (fun a w => ∃ x1 : Bool, ∃ x2 : Int, some ((x1, x2)) = some o1 ∧ Fr 12 [] [(2, .bool x1)] a ∧ Stw ⟨Y, [], w0⟩ [(b2, [.int .i64 x2]), (b1, [.int .i64 p0.un.1, .int .i64 p0.un.2.1.un.1, .int .i64 p0.un.2.1.un.2.1, .int .i64 p0.un.2.1.un.2.2.1, v1, .int .i64 p0.un.2.2.1, .int .i64 p0.un.2.2.2.1, v2])] [] w) ?_ ?_
 ·
  have H := G1
  refine Ab ?_
  refine ls F W Aa (Ao (v := Value.agg #[.int .i64 p0.un.1, .int .i64 p0.un.2.1.un.1, .int .i64 p0.un.2.1.un.2.1, .int .i64 p0.un.2.1.un.2.2.1, v1, .int .i64 p0.un.2.2.1, .int .i64 p0.un.2.2.2.1, v2]) 1 F Aa Aa Ka Aa).q fun a w F W => ?_
  obtain ⟨x3, h3, H⟩ := Am H
  refine Bj (Ml := [(b2, [.int .i64 64])]) (Zl := []) (M := [(b1, [.int .i64 p0.un.1, .int .i64 p0.un.2.1.un.1, .int .i64 p0.un.2.1.un.2.1, .int .i64 p0.un.2.1.un.2.2.1, v1, .int .i64 p0.un.2.2.1, .int .i64 p0.un.2.2.2.1, v2])]) (Z := []) (β := Unit) (rv := fun x => .bool x3.1) (MM := fun x => [(b2, [.int .i64 x3.2])]) (ZZ := fun x => []) F W XH Aa Aa (fun hL => Lr _ _ w b2 (v1) (v2) 64 (Tr39.of (p0.un.1, Tr36.of (p0.un.2.1.un.1, p0.un.2.1.un.2.1, p0.un.2.1.un.2.2.1, p0.un.2.1.un.2.2.2), p0.un.2.2.1, p0.un.2.2.2.1, p0.un.2.2.2.2)) 8 _ h3 (Sl.hide BV h1 (W.roX h_v1 (fun g hg => GI hg))) (Sl.hide FD h2 (W.roX h_v2 (fun g hg => GI hg))) hL) fun x a w F W => ?_
  have W : Stw ⟨Y, [], w0⟩ [(b2, [.int .i64 x3.2]), (b1, [.int .i64 p0.un.1, .int .i64 p0.un.2.1.un.1, .int .i64 p0.un.2.1.un.2.1, .int .i64 p0.un.2.1.un.2.2.1, v1, .int .i64 p0.un.2.2.1, .int .i64 p0.un.2.2.2.1, v2])] [] w := W
  refine ls F W Aa (Ag F Aa).q fun a w F W => ?_
  rcases bxq x3.1 with hb | hb
  ·
   have H := AV hb H
   rw [hb] at F
   refine AK F W (Af F Aa Aa Aa Aa) Aa (Ak Aa) (Ao (v := Value.agg #[.int .i64 p0.un.1, .int .i64 p0.un.2.1.un.1, .int .i64 p0.un.2.1.un.2.1, .int .i64 p0.un.2.1.un.2.2.1, v1, .int .i64 p0.un.2.2.1, .int .i64 p0.un.2.2.2.1, v2]) 1 F Aa Aa Ka Aa).q fun a w F W => ?_
   refine KH (Af F Aa Aa Aa Aa) ?_
   obtain ⟨x4, h4, H⟩ := Am H
   refine ls F W Aa (A3 (v := Value.int .i64 x4) F WH Aa (fun w W => Qx any w (v1) (v2) (Tr39.of (p0.un.1, Tr36.of (p0.un.2.1.un.1, p0.un.2.1.un.2.1, p0.un.2.1.un.2.2.1, p0.un.2.1.un.2.2.2), p0.un.2.2.1, p0.un.2.2.2.1, p0.un.2.2.2.2)) _ h4 (((AH BV h1 (Aq h_v1)) : D1 _ _ _ _ _ _) w W).nx (((AH FD h2 (Aq h_v2)) : D1 _ _ _ _ _ _) w W).nx)) fun a w F W => ?_
   refine AK F W (Af F Aa Aa Aa Aa) Aa (Ak Aa) (H4 F Aa Aa).q fun a w F W => ?_
   refine ls F W Aa (Ax F Aa Aa Aa).q fun a w F W => ?_
   refine ls F W Aa (Ae F Aa).q fun a w F W => ?_
   refine Ad (Ac ?_)
   have W := W.frontM (i := 1) Aa Aa
   have W := W.frontM (i := 1) Aa Aa
   exact ⟨_, _, H, F.re ⟨rfl, trivial⟩, W⟩
  have H := AR (by rw [hb]; decide) H
  rw [hb] at F
  iterate 3 refine Dz F Aa Aa Aa Aa Aa Aa Aa fun a F => ?_
  refine ls F W Aa (As F Aa Aa Aa).q fun a w F W => ?_
  refine ls F W Aa (Ae F Aa).q fun a w F W => ?_
  refine Ad (Ac ?_)
  have W := W.frontM (i := 1) Aa Aa
  have W := W.frontM (i := 1) Aa Aa
  exact ⟨_, _, H, F.re ⟨rfl, trivial⟩, W⟩
 rintro a w ⟨x1, x2, hj, F, W⟩
 have hj := AP hj
 subst hj
 have H := K1
 refine Av ?_
 have H := AP H
 subst H
 refine AJ (.inl Aa) F W Aa (AB F Aa) ?_
 exact ⟨rfl, W.done⟩
theorem YL : Has Tryz.prog 31 := ⟨fun args w => Aj Tryz.func31 rfl (by decide) args w⟩
def Ht (p0 : Int × Int × Int × Int × Int × Int) (p1 : Int) : Bool := (decide (p0.2.1 = p1) || decide (p0.2.2.2.1 = p1))
theorem O7 (Y : Nat → Prop) (w0 : World) (q_p1 : Nat) (p0 : Int × Int × Int × Int × Int × Int) (p1 : Int) (r : Bool) (H : Ht p0 p1 = r) (a_q_p1 : At ⟨Y, [], w0⟩ q_p1 0 [.int .i64 p1]) :
    Calls Tryz.prog 40 #[.agg #[.int .i64 p0.1, .int .i64 p0.2.1, .int .i64 p0.2.2.1, .int .i64 p0.2.2.2.1, .int .i64 p0.2.2.2.2.1, .int .i64 p0.2.2.2.2.2], .pointer (some ⟨q_p1, 0, none⟩)] w0 fun e w' => e = .returned (.bool r) ∧ Below w0.heap.size w0 w' := by
 refine enter Tryz.func40 Aa Tryz.ntmps40 Aa fun a F => ?_
 have W := Stw.start Y w0
 unfold Ht at H
 refine Ah (Ab ?_)
 refine CS (cs := [.int .i64 p0.1, .int .i64 p0.2.1, .int .i64 p0.2.2.1, .int .i64 p0.2.2.2.1, .int .i64 p0.2.2.2.2.1, .int .i64 p0.2.2.2.2.2]) F W Aa Aa Aa fun b1 a w F W => ?_
 refine ls F W Aa (Ae F Aa).q fun a w F W => ?_
 refine Ad (Ac ?_)
 refine AO (fun a w => Fr 14 [] [(3, .bool (decide (p0.2.1 = p1) || decide (p0.2.2.2.1 = p1)))] a ∧ Stw ⟨Y, [], w0⟩ [(b1, [.int .i64 p0.1, .int .i64 p0.2.1, .int .i64 p0.2.2.1, .int .i64 p0.2.2.2.1, .int .i64 p0.2.2.2.2.1, .int .i64 p0.2.2.2.2.2])] [] w) ?_ ?_
 ·
  refine Ab ?_
  refine ls F W Aa (Ai O2 Aa Aa Aa T3 F Aa 1 Aa).q fun a w F W => ?_
  refine ls F W Aa (Ao (v := Value.int .i64 p0.2.1) 0 F Aa Aa T3 Aa).q fun a w F W => ?_
  refine ls F W Aa (IR (y := Value.int .i64 p1) (j := 0) F Aa (Nat.zero_add _).symm a_q_p1 T3 Aa).q fun a w F W => ?_
  refine ls F W Aa (A7 F Aa Aa).q fun a w F W => ?_
  refine ls F W Aa (Ag F Aa).q fun a w F W => ?_
  rcases bxq (decide (p0.2.1 = p1)) with hb0 | hb0
  ·
   rw [hb0] at F
   iterate 4 refine Dz F Aa Aa Aa Aa Aa Aa Aa fun a F => ?_
   refine ls F W Aa (Ax F Aa Aa Aa).q fun a w F W => ?_
   refine ls F W Aa (Ae F Aa).q fun a w F W => ?_
   refine Ad (Ac ?_)
   exact ⟨F.re ⟨(by show some (Value.bool true) = some (Value.bool (decide (p0.2.1 = p1) || decide (p0.2.2.2.1 = p1))); try rw [hb0]; all_goals simp only [Bool.not_true, Bool.not_false, Bool.true_and, Bool.false_and, Bool.true_or, Bool.false_or, Bool.and_true, Bool.or_false, cond_true, cond_false]), trivial⟩, W⟩
  rw [hb0] at F
  refine AK F W (Af F Aa Aa Aa Aa) Aa (Ak Aa) (Ai O2 Aa Aa Aa T3 F Aa 3 Aa).q fun a w F W => ?_
  refine AK F W (Af F Aa Aa Aa Aa) Aa (Ak Aa) (Ao (v := Value.int .i64 p0.2.2.2.1) 0 F Aa Aa T3 Aa).q fun a w F W => ?_
  refine AK F W (Af F Aa Aa Aa Aa) Aa (Ak Aa) (IR (y := Value.int .i64 p1) (j := 0) F Aa (Nat.zero_add _).symm a_q_p1 T3 Aa).q fun a w F W => ?_
  refine AK F W (Af F Aa Aa Aa Aa) Aa (Ak Aa) (A7 F Aa Aa).q fun a w F W => ?_
  refine ls F W Aa (As F Aa Aa Aa).q fun a w F W => ?_
  refine ls F W Aa (Ae F Aa).q fun a w F W => ?_
  refine Ad (Ac ?_)
  exact ⟨F.re ⟨(by show some (Value.bool (decide (p0.2.2.2.1 = p1))) = some (Value.bool (decide (p0.2.1 = p1) || decide (p0.2.2.2.1 = p1))); try rw [hb0]; all_goals simp only [Bool.not_true, Bool.not_false, Bool.true_and, Bool.false_and, Bool.true_or, Bool.false_or, Bool.and_true, Bool.or_false, cond_true, cond_false]), trivial⟩, W⟩
 rintro a w ⟨F, W⟩
 refine Av ?_
 subst H
 refine AJ (.inl Aa) F W Aa (AB F Aa) ?_
 exact ⟨rfl, W.done⟩
theorem Ye : Has Tryz.prog 40 := ⟨fun args w => Aj Tryz.func40 rfl (by decide) args w⟩
def CB (p0 : List (Int × Int × Int × Int × Int × Int)) (p1c0 : Int) : Int → Option (Int ⊕ (Unit ⊕ Int))
  | x1 => (if x1 < (p0.length : Int) then (ix p0 x1).bind fun x2 => (if (Ht x2 p1c0) = true then some (.inr (.inr x1)) else some (.inl (AG (x1 + 1)))) else some (.inr (.inl ())))
def Cm (p0 : List (Int × Int × Int × Int × Int × Int)) (p1c0 : Int) : Option Int := Je (A6 (CB p0 p1c0) 0) fun _ => some (-1)
theorem GY (Y : Nat → Prop) (w0 : World) (v1 : Value) (q_p1c0 : Nat) (p0 : List (Int × Int × Int × Int × Int × Int)) (p1c0 : Int) (r : Int) (H : Cm p0 p1c0 = some r) (h_v1 : Sl w0 (NX []) Qb v1 p0) (a_q_p1c0 : At ⟨Y, [], w0⟩ q_p1c0 0 [.int .i64 p1c0]) :
    Calls Tryz.prog 80 #[v1, .func (.func 40) #[] #[.pointer (some ⟨q_p1c0, 0, none⟩)]] w0 fun e w' => e = .returned (.int .i64 r) ∧ Below w0.heap.size w0 w' := by
 refine enter Tryz.func80 Aa Tryz.ntmps80 Aa fun a F => ?_
 have W := Stw.start Y w0
 unfold Cm at H
 refine Ah (Ab ?_)
 refine ls F W Aa (Ae F Aa).q fun a w F W => ?_
 refine Ad (Ac ?_)
 obtain ⟨o1, G1, K1, L1⟩ := PQ H
 refine AO (fun a w => some (Sum.inl ()) = some o1 ∧ Fr 19 [] [(4, .int .i64 0)] a ∧ Stw ⟨Y, [], w0⟩ [] [] w) ?_ ?_
 ·
  have H := G1
  refine Ah (Ab ?_)
  refine ls F W Aa (Ag F Aa).q fun a w F W => ?_
  refine ls F W Aa (CA (r := Qb) (l := p0) TO Aa F Aa (Aq h_v1)).q fun a w F W => ?_
  refine ls F W Aa (Ag F Aa).q fun a w F W => ?_
  refine Ad (Ac (Az ?_))
  refine BG H (fun s a w => Fr 19 [] [(0, v1), (1, .func (.func 40) #[] #[.pointer (some ⟨q_p1c0, 0, none⟩)]), (4, .int .i64 0), (7, .int .i64 (p0.length : Int)), (8, .int .i64 s)] a ∧ Stw ⟨Y, [], w0⟩ [] [] w) ⟨F.re ⟨rfl, Aa, Aa, Aa, Aa, trivial⟩, W⟩ fun s o a w H L2 hR => ?_
  obtain ⟨x1, rfl⟩ : ∃ x, x = s := ⟨s, rfl⟩
  obtain ⟨F, W⟩ := hR
  have F : Fr 19 [] [(0, v1), (1, .func (.func 40) #[] #[.pointer (some ⟨q_p1c0, 0, none⟩)]), (4, .int .i64 0), (7, .int .i64 (p0.length : Int)), (8, .int .i64 x1)] a := F
  have W : Stw ⟨Y, [], w0⟩ [] [] w := W
  rw [CB] at H
  refine Ah (Ab ?_)
  refine ls F W Aa (Cu F Aa Aa).q fun a w F W => ?_
  refine Ad (Ac (Ah ?_))
  refine Aw F Aa (fun hb => ?_) fun hb => ?_
  ·
   have H := AV (Bg hb) H
   rw [hb] at F
   refine Ay (Ac (Ah (Az (Ah (Ab ?_)))))
   refine ls F W Aa (Ag F Aa).q fun a w F W => ?_
   refine ls F W Aa (Ae F Aa).q fun a w F W => ?_
   refine Ad (Ac (Ah (Ab ?_)))
   iterate 3 refine ls F W Aa (Ag F Aa).q fun a w F W => ?_
   obtain ⟨x2, h1, H⟩ := Am H
   refine ls F W Aa (AM (r := Qb) WZ F Aa Aa (Aq h_v1) h1).q fun a w F W => ?_
   refine ls F W Aa (AA (y := Value.agg #[.int .i64 x2.1, .int .i64 x2.2.1, .int .i64 x2.2.2.1, .int .i64 x2.2.2.2.1, .int .i64 x2.2.2.2.2.1, .int .i64 x2.2.2.2.2.2]) (j := 0) (i := x1) F Aa Aa (Aq h_v1) h1 XA.to WL Aa).q fun a w F W => ?_
   refine ls F W Aa (I7 (ws := [.agg #[.int .i64 x2.1, .int .i64 x2.2.1, .int .i64 x2.2.2.1, .int .i64 x2.2.2.2.1, .int .i64 x2.2.2.2.2.1, .int .i64 x2.2.2.2.2.2], .pointer (some ⟨q_p1c0, 0, none⟩)]) (v := Value.bool (Ht x2 p1c0)) F Ye Aa (fun w W => O7 any w q_p1c0 x2 p1c0 _ Aa (At.re a_q_p1c0 W))) fun a w F W => ?_
   refine Ad (Ac ?_)
   refine Aw F Aa (fun hb => ?_) fun hb => ?_
   ·
    have H := AV hb H
    rw [hb] at F
    refine Ah (Ab ?_)
    refine ls F W Aa (Ag F Aa).q fun a w F W => ?_
    refine ls F W Aa (Ae F Aa).q fun a w F W => ?_
    refine Ad (Ac (Av (AQ ?_)))
    iterate 2 refine AN ?_
    refine AQ (AN ?_)
    have H := L2 _ H
    have H := L1 _ H
    have H := AP H
    subst H
    refine AJ (.inl Aa) F W Aa (AB F Aa) ?_
    exact ⟨rfl, W.done⟩
   have H := AR (by rw [hb]; decide) H
   rw [hb] at F
   refine Ay (AU (Ac (Ab ?_)))
   refine ls F W Aa (BL F Aa Aa Aa).q fun a w F W => ?_
   refine ls F W Aa (Ag F Aa).q fun a w F W => ?_
   refine Ad (Ac ?_)
   exact ⟨_, H, F.re ⟨rfl, Aa, Aa, Aa, Aa, trivial⟩, W⟩
  have H := AR (Bf hb) H
  rw [hb] at F
  refine Bz ?_
  iterate 2 refine BS ?_
  refine Bx (Ac ?_)
  have H := L2 _ H
  exact ⟨H, F.re ⟨rfl, trivial⟩, W⟩
 rintro a w ⟨hj, F, W⟩
 have H := K1 _ hj
 refine Ah (Ab ?_)
 refine ls F W Aa (Ae F Aa).q fun a w F W => ?_
 refine Ad (Ac (Av ?_))
 have H := AP H
 subst H
 refine AJ (.inl Aa) F W Aa (AB F Aa) ?_
 exact ⟨rfl, W.done⟩
def Cc (p0 : List (Int × Int × Int × Int × Int × Int)) (p1c0 : Int) : Option Bool := (Cm p0 p1c0).bind fun x1 => some (decide (0 ≤ x1))
theorem Gp (Y : Nat → Prop) (w0 : World) (v1 : Value) (q_p1c0 : Nat) (p0 : List (Int × Int × Int × Int × Int × Int)) (p1c0 : Int) (r : Bool) (H : Cc p0 p1c0 = some r) (h_v1 : Sl w0 (NX []) Qb v1 p0) (a_q_p1c0 : At ⟨Y, [], w0⟩ q_p1c0 0 [.int .i64 p1c0]) :
    Calls Tryz.prog 39 #[v1, .func (.func 40) #[] #[.pointer (some ⟨q_p1c0, 0, none⟩)]] w0 fun e w' => e = .returned (.bool r) ∧ Below w0.heap.size w0 w' := by
 refine enter Tryz.func39 Aa Tryz.ntmps39 Aa fun a F => ?_
 have W := Stw.start Y w0
 unfold Cc at H
 refine Ah (Ab ?_)
 refine ls F W Aa (Ae F Aa).q fun a w F W => ?_
 refine Ad (Ac (Ah (Ab ?_)))
 iterate 2 refine ls F W Aa (Ag F Aa).q fun a w F W => ?_
 obtain ⟨x1, h1, H⟩ := Am H
 refine ls F W Aa (A3 (v := Value.int .i64 x1) F XM Aa (fun w W => GY any w (v1) q_p1c0 p0 p1c0 _ h1 (((Aq h_v1) : D1 _ _ _ _ _ _) w W).nx (At.re a_q_p1c0 W))) fun a w F W => ?_
 refine ls F W Aa (D4 F Aa Aa).q fun a w F W => ?_
 refine ls F W Aa (Ae F Aa).q fun a w F W => ?_
 refine Ad (Ac (Av ?_))
 have H := AP H
 subst H
 refine AJ (.inl Aa) F W Aa (AB F Aa) ?_
 exact ⟨rfl, W.done⟩
def Hs (p0 : Int × Int) (p1 : Int) : Bool := decide (p0.2 = p1)
theorem O6 (Y : Nat → Prop) (w0 : World) (q_p1 : Nat) (p0 : Int × Int) (p1 : Int) (r : Bool) (H : Hs p0 p1 = r) (a_q_p1 : At ⟨Y, [], w0⟩ q_p1 0 [.int .i64 p1]) :
    Calls Tryz.prog 42 #[.agg #[.int .i64 p0.1, .int .i64 p0.2], .pointer (some ⟨q_p1, 0, none⟩)] w0 fun e w' => e = .returned (.bool r) ∧ Below w0.heap.size w0 w' := by
 refine enter Tryz.func42 Aa Tryz.ntmps42 Aa fun a F => ?_
 have W := Stw.start Y w0
 unfold Hs at H
 refine Ah (Ab ?_)
 refine CS (cs := [.int .i64 p0.1, .int .i64 p0.2]) F W Aa Aa Aa fun b1 a w F W => ?_
 refine ls F W Aa (Ae F Aa).q fun a w F W => ?_
 refine Ad (Ac (Ah (Ab ?_)))
 refine ls F W Aa (Ai VE Aa Aa Aa T3 F Aa 1 Aa).q fun a w F W => ?_
 refine ls F W Aa (Ao (v := Value.int .i64 p0.2) 0 F Aa Aa T3 Aa).q fun a w F W => ?_
 refine ls F W Aa (IR (y := Value.int .i64 p1) (j := 0) F Aa (Nat.zero_add _).symm a_q_p1 T3 Aa).q fun a w F W => ?_
 refine ls F W Aa (A7 F Aa Aa).q fun a w F W => ?_
 refine ls F W Aa (Ae F Aa).q fun a w F W => ?_
 refine Ad (Ac (Av ?_))
 subst H
 refine AJ (.inl Aa) F W Aa (AB F Aa) ?_
 exact ⟨rfl, W.done⟩
end
end Go.Proofs.YtgoifghhcekahaaGreatDoor
