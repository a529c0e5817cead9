/- The functions of layer 29, EO. Conditions: none. -/
import Derived.Test.YtlgjpoapclifbaaDoorbA3
namespace Go.Proofs.YtlgjpoapclifbaaDoor
open Go Go.RowKit
set_option linter.unusedVariables false
set_option linter.unusedSimpArgs false
set_option maxRecDepth 20000
abbrev GP (a0 : Tr28 × Int × Int) (a1 : Value) (a2 : Value) : List Value := [.int .i64 a0.1.un.1, .int .i64 a0.1.un.2.1.un.1, .int .i64 a0.1.un.2.1.un.2.1, .int .i64 a0.1.un.2.1.un.2.2.1, a1, .int .i64 a0.1.un.2.2.1, .int .i64 a0.1.un.2.2.2.1, a2]
abbrev NS (a0 : Nat) (a1 : Tr28 × Int × Int) (a2 : Value) (a3 : Value) : List (Nat × List Value) := [(a0, [.int .i64 a1.1.un.1, .int .i64 a1.1.un.2.1.un.1, .int .i64 a1.1.un.2.1.un.2.1, .int .i64 a1.1.un.2.1.un.2.2.1, a2, .int .i64 a1.1.un.2.2.1, .int .i64 a1.1.un.2.2.2.1, a3])]
noncomputable def FL  : Option Bool := (DX ([100, 115, 116, 32, 58, 61, 32, 51, 59, 32, 112, 111, 114, 116, 32, 58, 61, 32, 49, 32, 124, 32, 100, 114, 111, 112] : List UInt8)).bind fun x1 => (if x1.2.2 = 0 then (if x1.2.1 = 0 then (II (Tr28.of (x1.1.un.1, Tr25.of (x1.1.un.2.1.un.1, x1.1.un.2.1.un.2.1, x1.1.un.2.1.un.2.2.1, x1.1.un.2.1.un.2.2.2), x1.1.un.2.2.1, x1.1.un.2.2.2.1, x1.1.un.2.2.2.2))).bind fun x3 => (if x3 = ([40, 100, 115, 116, 32, 58, 61, 32, 51, 59, 32, 112, 111, 114, 116, 32, 58, 61, 32, 49, 41, 32, 124, 32, 100, 114, 111, 112] : List UInt8) then (if x1.1.un.1 = 4 then some (decide ((x1.1.un.2.2.2.2.length : Int) = 2)) else some false) else some false) else some false) else some false).bind fun x2 => some x2
theorem Ki (Y : Nat → Prop) (w0 : World)   (r : Bool) (H : FL  = some r) (hG : Gk [] w0) :
    Calls Tryd.prog 6 #[] w0 fun e w' => e = .returned (.bool r) ∧ Below w0.heap.size w0 w' := by
 refine enter Tryd.func6 Aa Tryd.ntmps6 Aa fun a F => ?_
 have W := Stw.start Y w0
 unfold FL at H
 refine Ai (Ab ?_)
 refine ls F W Aa (Ag F Aa).q fun a w F W => ?_
 refine Ae (Ad (Ai (Ab ?_)))
 obtain ⟨x1, h1, H⟩ := An H
 refine AO (Ml := []) (Zl := []) (M := []) (Z := []) (β := Value × Value) (rv := fun x => .tuple #[.agg #[.int .i64 x1.1.un.1, .int .i64 x1.1.un.2.1.un.1, .int .i64 x1.1.un.2.1.un.2.1, .int .i64 x1.1.un.2.1.un.2.2.1, x.1, .int .i64 x1.1.un.2.2.1, .int .i64 x1.1.un.2.2.2.1, x.2], .int .i64 x1.2.1, .int .i64 x1.2.2]) (MM := fun x => []) (ZZ := fun x => [Av x.1 AY x1.1.un.2.1.un.2.2.2, Av x.2 BJ x1.1.un.2.2.2.2]) F W H7 Aa Aa (fun hL => Je _ w ([100, 115, 116, 32, 58, 61, 32, 51, 59, 32, 112, 111, 114, 116, 32, 58, 61, 32, 49, 32, 124, 32, 100, 114, 111, 112] : List UInt8) _ h1) fun x a w F W => ?_
 obtain ⟨v1, v2⟩ := x
 have W : Stw ⟨Y, [], w0⟩ [] [Av v1 AY x1.1.un.2.1.un.2.2.2, Av v2 BJ x1.1.un.2.2.2.2] w := W
 refine ls F W Aa (Ah F Aa).q fun a w F W => ?_
 refine ls F W Aa (As (v := Value.agg #[.int .i64 x1.1.un.1, .int .i64 x1.1.un.2.1.un.1, .int .i64 x1.1.un.2.1.un.2.1, .int .i64 x1.1.un.2.1.un.2.2.1, v1, .int .i64 x1.1.un.2.2.1, .int .i64 x1.1.un.2.2.2.1, v2]) F Aa Aa).q fun a w F W => ?_
 refine ls F W Aa (As (v := Value.int .i64 x1.2.1) F Aa Aa).q fun a w F W => ?_
 refine ls F W Aa (As (v := Value.int .i64 x1.2.2) F Aa Aa).q fun a w F W => ?_
 refine AU (cs := (Bl)) F W Aa L4 Aa fun b1 a w F W => ?_
 refine Au (vs := (GP x1 v1 v2)) (M' := (NS b1 x1 v1 v2)) 0 F W Aa Aa Aa FG Aa Aa Aa (Ac Aa (Ac Aa (Ac Aa (Ac Aa (Ac (W.oneF (k := 0) Aa) (Ac Aa (Ac Aa (Ac (W.oneF (k := 1) Aa) AM)))))))) Aa fun w W => ?_
 iterate 2 refine ls F W Aa (Ag F Aa).q fun a w F W => ?_
 refine Ae (Ad ?_)
 obtain ⟨o1, G1, K1⟩ := An H
 refine Bd (fun a w => ∃ x2 : Bool, some (x2) = some o1 ∧ Fr 31 [] [(0, .bool x2)] a ∧ Stw ⟨Y, [], w0⟩ (NS b1 x1 v1 v2) [Av v1 AY x1.1.un.2.1.un.2.2.2, Av v2 BJ x1.1.un.2.2.2.2] w) ?_ ?_
 ·
  have H := G1
  clear G1 K1
  refine Ab ?_
  refine ls F W Aa (Ah F Aa).q fun a w F W => ?_
  refine ls F W Aa (Bn F Aa Aa).q fun a w F W => ?_
  refine ls F W Aa (Ah F Aa).q fun a w F W => ?_
  rcases Bool.eq_false_or_eq_true (decide (x1.2.2 = 0)) with hb | hb
  ·
   have H := AQ (BB hb) H
   rw [hb] at F
   clear hb
   refine AX F W (Ak F Aa Aa Aa Aa) Aa (Ay Aa) (Ah F Aa).q fun a w F W => ?_
   refine AX F W (Ak F Aa Aa Aa Aa) Aa (Ay Aa) (Bn F Aa Aa).q fun a w F W => ?_
   refine ls F W Aa (AE F Aa Aa Aa).q fun a w F W => ?_
   refine ls F W Aa (Ah F Aa).q fun a w F W => ?_
   rcases Bool.eq_false_or_eq_true (decide (x1.2.1 = 0)) with hb | hb
   ·
    have H := AQ (BB hb) H
    rw [hb] at F
    clear hb
    refine AX F W (Ak F Aa Aa Aa Aa) Aa (Ay Aa) (AJ (v := Value.agg #[.int .i64 x1.1.un.1, .int .i64 x1.1.un.2.1.un.1, .int .i64 x1.1.un.2.1.un.2.1, .int .i64 x1.1.un.2.1.un.2.2.1, v1, .int .i64 x1.1.un.2.2.1, .int .i64 x1.1.un.2.2.2.1, v2]) 0 F Aa Aa FG Aa).q fun a w F W => ?_
    refine JT (Ak F Aa Aa Aa Aa) ?_
    obtain ⟨x3, h2, H⟩ := An H
    refine ls F W Aa (A1 (v := Value.string (bs x3)) F Td Aa (fun w W => LS any w (v1) (v2) (Tr28.of (x1.1.un.1, Tr25.of (x1.1.un.2.1.un.1, x1.1.un.2.1.un.2.1, x1.1.un.2.1.un.2.2.1, x1.1.un.2.1.un.2.2.2), x1.1.un.2.2.1, x1.1.un.2.2.2.1, x1.1.un.2.2.2.2)) _ h2 (((Gt 0 Aa) : EN _ _ _ _ _ _) w W).nx (((Gt 1 Aa) : EN _ _ _ _ _ _) w W).nx (hG.go0 W))) fun a w F W => ?_
    refine AX F W (Ak F Aa Aa Aa Aa) Aa (Ay Aa) (Iw (l := x3) (m := ([40, 100, 115, 116, 32, 58, 61, 32, 51, 59, 32, 112, 111, 114, 116, 32, 58, 61, 32, 49, 41, 32, 124, 32, 100, 114, 111, 112] : List UInt8)) F Aa Aa).q fun a w F W => ?_
    refine ls F W Aa (AE F Aa Aa Aa).q fun a w F W => ?_
    refine ls F W Aa (Ah F Aa).q fun a w F W => ?_
    rcases Bool.eq_false_or_eq_true (decide (x3 = ([40, 100, 115, 116, 32, 58, 61, 32, 51, 59, 32, 112, 111, 114, 116, 32, 58, 61, 32, 49, 41, 32, 124, 32, 100, 114, 111, 112] : List UInt8))) with hb | hb
    ·
     have H := AQ (BB hb) H
     rw [hb] at F
     clear hb
     refine AX F W (Ak F Aa Aa Aa Aa) Aa (Ay Aa) (Ao Hv Aa Aa Aa T3 F Aa 0 Aa).q fun a w F W => ?_
     refine AX F W (Ak F Aa Aa Aa Aa) Aa (Ay Aa) (AJ (v := Value.int .i64 x1.1.un.1) 0 F Aa Aa T3 Aa).q fun a w F W => ?_
     refine AX F W (Ak F Aa Aa Aa Aa) Aa (Ay Aa) (Bn F Aa Aa).q fun a w F W => ?_
     refine ls F W Aa (AE F Aa Aa Aa).q fun a w F W => ?_
     refine ls F W Aa (Ah F Aa).q fun a w F W => ?_
     rcases Bool.eq_false_or_eq_true (decide (x1.1.un.1 = 4)) with hb | hb
     ·
      have H := AQ (BB hb) H
      rw [hb] at F
      clear hb
      refine AX F W (Ak F Aa Aa Aa Aa) Aa (Ay Aa) (Ao Hv Aa Aa Aa PE F Aa 7 Aa).q fun a w F W => ?_
      refine AX F W (Ak F Aa Aa Aa Aa) Aa (Ay Aa) (AJ (v := v2) 0 F Aa Aa PE Aa).q fun a w F W => ?_
      refine AX F W (Ak F Aa Aa Aa Aa) Aa (Ay Aa) (E4 (r := BJ) (l := x1.1.un.2.2.2.2) Pj Aa F Aa (Gt 1 Aa)).q fun a w F W => ?_
      refine AX F W (Ak F Aa Aa Aa Aa) Aa (Ay Aa) (Bn F Aa Aa).q fun a w F W => ?_
      refine ls F W Aa (AE F Aa Aa Aa).q fun a w F W => ?_
      refine ls F W Aa (Ag F Aa).q fun a w F W => ?_
      refine Ae (Ad ?_)
      have W := W.frontZ (i := 1) Aa Aa
      have W := W.frontZ (i := 1) Aa Aa
      exact ⟨_, H, F.re ⟨rfl, trivial⟩, W⟩
     have H := AR (Bz hb) H
     rw [hb] at F
     clear hb
     iterate 4 refine Ec F Aa Aa Aa Aa Aa Aa Aa fun a F => ?_
     refine ls F W Aa (AN F Aa Aa Aa).q fun a w F W => ?_
     refine ls F W Aa (Ag F Aa).q fun a w F W => ?_
     refine Ae (Ad ?_)
     have W := W.frontZ (i := 1) Aa Aa
     have W := W.frontZ (i := 1) Aa Aa
     exact ⟨_, H, F.re ⟨rfl, trivial⟩, W⟩
    have H := AR (Bz hb) H
    rw [hb] at F
    clear hb
    iterate 3 refine Ec F Aa Aa Aa Aa Aa Aa Aa fun a F => ?_
    refine ls F W Aa (AN F Aa Aa Aa).q fun a w F W => ?_
    refine ls F W Aa (Ah F Aa).q fun a w F W => ?_
    iterate 4 refine Ec F Aa Aa Aa Aa Aa Aa Aa fun a F => ?_
    refine ls F W Aa (AN F Aa Aa Aa).q fun a w F W => ?_
    refine ls F W Aa (Ag F Aa).q fun a w F W => ?_
    refine Ae (Ad ?_)
    have W := W.frontZ (i := 1) Aa Aa
    have W := W.frontZ (i := 1) Aa Aa
    exact ⟨_, H, F.re ⟨rfl, trivial⟩, W⟩
   have H := AR (Bz hb) H
   rw [hb] at F
   clear hb
   iterate 3 refine Ec F Aa Aa Aa Aa Aa Aa Aa fun a F => ?_
   refine ls F W Aa (AN F Aa Aa Aa).q fun a w F W => ?_
   refine ls F W Aa (Ah F Aa).q fun a w F W => ?_
   iterate 3 refine Ec F Aa Aa Aa Aa Aa Aa Aa fun a F => ?_
   refine ls F W Aa (AN F Aa Aa Aa).q fun a w F W => ?_
   refine ls F W Aa (Ah F Aa).q fun a w F W => ?_
   iterate 4 refine Ec F Aa Aa Aa Aa Aa Aa Aa fun a F => ?_
   refine ls F W Aa (AN F Aa Aa Aa).q fun a w F W => ?_
   refine ls F W Aa (Ag F Aa).q fun a w F W => ?_
   refine Ae (Ad ?_)
   have W := W.frontZ (i := 1) Aa Aa
   have W := W.frontZ (i := 1) Aa Aa
   exact ⟨_, H, F.re ⟨rfl, trivial⟩, W⟩
  have H := AR (Bz hb) H
  rw [hb] at F
  clear hb
  iterate 2 refine Ec F Aa Aa Aa Aa Aa Aa Aa fun a F => ?_
  refine ls F W Aa (AN F Aa Aa Aa).q fun a w F W => ?_
  refine ls F W Aa (Ah F Aa).q fun a w F W => ?_
  iterate 3 refine Ec F Aa Aa Aa Aa Aa Aa Aa fun a F => ?_
  refine ls F W Aa (AN F Aa Aa Aa).q fun a w F W => ?_
  refine ls F W Aa (Ah F Aa).q fun a w F W => ?_
  iterate 3 refine Ec F Aa Aa Aa Aa Aa Aa Aa fun a F => ?_
  refine ls F W Aa (AN F Aa Aa Aa).q fun a w F W => ?_
  refine ls F W Aa (Ah F Aa).q fun a w F W => ?_
  iterate 4 refine Ec F Aa Aa Aa Aa Aa Aa Aa fun a F => ?_
  refine ls F W Aa (AN F Aa Aa Aa).q fun a w F W => ?_
  refine ls F W Aa (Ag F Aa).q fun a w F W => ?_
  refine Ae (Ad ?_)
  have W := W.frontZ (i := 1) Aa Aa
  have W := W.frontZ (i := 1) Aa Aa
  exact ⟨_, H, F.re ⟨rfl, trivial⟩, W⟩
 rintro a w ⟨x2, hj, F, W⟩
 have hj := AH hj
 subst hj
 have H := K1
 clear G1 K1
 refine Aq ?_
 have H := AH H
 subst H
 refine AP (.inl Aa) F W Aa (Ap F Aa) ?_
 exact ⟨rfl, W.done⟩
theorem H6 : Has Tryd.prog 6 := ⟨fun args w => Al Tryd.func6 rfl (by decide) args w⟩
theorem LH : (Tryd.prog.info? 37).bind (·.zero) = some (.agg #[.int .i64 0, .int .i64 0, .int .i64 0, .int .i64 0, .slice none 0 0, .int .i64 0, .int .i64 0, .slice none 0 0]) := by kernel_rfl
def BO (p0 : Int) : Int := (if (decide (p0 = 32) || (decide (p0 = 9) || decide (p0 = 10))) = true then 0 else (if (decide (97 ≤ p0) && decide (p0 ≤ 122)) = true then 1 else (if (decide (48 ≤ p0) && decide (p0 ≤ 57)) = true then 2 else (if (decide (p0 = 40) || (decide (p0 = 41) || (decide (p0 = 59) || (decide (p0 = 124) || decide (p0 = 61))))) = true then 3 else (if p0 = 35 then 4 else (if p0 = 58 then 5 else 6))))))
theorem HR (Y : Nat → Prop) (w0 : World)  (p0 : Int) (r : Int) (H : BO p0 = r)  :
    Calls Tryd.prog 61 #[.int .u8 p0] w0 fun e w' => e = .returned (.int .i64 r) ∧ Below w0.heap.size w0 w' := by
 refine enter Tryd.func61 Aa Tryd.ntmps61 Aa fun a F => ?_
 have W := Stw.start Y w0
 unfold BO at H
 refine Ai (Ab ?_)
 refine ls F W Aa (Ag F Aa).q fun a w F W => ?_
 refine Ae (Ad (Ai ?_))
 refine Bd (fun a w => Fr 47 [] [(0, .int .u8 p0), (2, .int .i64 0), (12, .bool (decide (p0 = 32) || (decide (p0 = 9) || decide (p0 = 10))))] a ∧ Stw ⟨Y, [], w0⟩ [] [] w) ?_ ?_
 ·
  refine Ab ?_
  refine ls F W Aa (Ah F Aa).q fun a w F W => ?_
  refine ls F W Aa (Bn F Aa Aa).q fun a w F W => ?_
  refine ls F W Aa (Ah F Aa).q fun a w F W => ?_
  rcases Bool.eq_false_or_eq_true (decide (p0 = 32)) with hb0 | hb0
  ·
   rw [hb0] at F
   iterate 2 refine Ec F Aa Aa Aa Aa Aa Aa Aa fun a F => ?_
   refine ls F W Aa (AE F Aa Aa Aa).q fun a w F W => ?_
   refine ls F W Aa (Ah F Aa).q fun a w F W => ?_
   iterate 2 refine Ec F Aa Aa Aa Aa Aa Aa Aa fun a F => ?_
   refine ls F W Aa (AE F Aa Aa Aa).q fun a w F W => ?_
   refine Ae (Ad ?_)
   exact ⟨F.re ⟨rfl, Aa, (I2 (by try rw [hb0]; all_goals simp only [IZ])), trivial⟩, W⟩
  rw [hb0] at F
  refine AX F W (Ak F Aa Aa Aa Aa) Aa (Ay Aa) (Ah F Aa).q fun a w F W => ?_
  refine AX F W (Ak F Aa Aa Aa Aa) Aa (Ay Aa) (Bn F Aa Aa).q fun a w F W => ?_
  refine ls F W Aa (AN F Aa Aa Aa).q fun a w F W => ?_
  refine ls F W Aa (Ah F Aa).q fun a w F W => ?_
  rcases Bool.eq_false_or_eq_true (decide (p0 = 9)) with hb1 | hb1
  ·
   rw [hb1] at F
   iterate 2 refine Ec F Aa Aa Aa Aa Aa Aa Aa fun a F => ?_
   refine ls F W Aa (AE F Aa Aa Aa).q fun a w F W => ?_
   refine Ae (Ad ?_)
   exact ⟨F.re ⟨rfl, Aa, (I2 (by try rw [hb0]; try rw [hb1]; all_goals simp only [IZ])), trivial⟩, W⟩
  rw [hb1] at F
  refine AX F W (Ak F Aa Aa Aa Aa) Aa (Ay Aa) (Ah F Aa).q fun a w F W => ?_
  refine AX F W (Ak F Aa Aa Aa Aa) Aa (Ay Aa) (Bn F Aa Aa).q fun a w F W => ?_
  refine ls F W Aa (AN F Aa Aa Aa).q fun a w F W => ?_
  refine Ae (Ad ?_)
  exact ⟨F.re ⟨rfl, Aa, (I2 (by try rw [hb0]; try rw [hb1]; all_goals simp only [IZ])), trivial⟩, W⟩
 rintro a w ⟨F, W⟩
 refine Aw F Aa (fun hb => ?_) fun hb => ?_
 ·
  have H := AQ hb H
  rw [hb] at F
  clear hb
  refine Ai (Ab ?_)
  refine ls F W Aa (Ag F Aa).q fun a w F W => ?_
  refine Ae (Ad (Aq (AD ?_)))
  subst H
  refine AP (.inl Aa) F W Aa (Ap F Aa) ?_
  exact ⟨rfl, W.done⟩
 have H := AR (by rw [hb]; decide) H
 rw [hb] at F
 clear hb
 refine Ax (Ad (Ai ?_))
 refine Bd (fun a w => Fr 47 [] [(0, .int .u8 p0), (2, .int .i64 0), (18, .bool (decide (97 ≤ p0) && decide (p0 ≤ 122)))] a ∧ Stw ⟨Y, [], w0⟩ [] [] w) ?_ ?_
 ·
  refine Ab ?_
  refine ls F W Aa (Ah F Aa).q fun a w F W => ?_
  refine ls F W Aa (OW F Aa Aa).q fun a w F W => ?_
  refine ls F W Aa (Ah F Aa).q fun a w F W => ?_
  rcases Bool.eq_false_or_eq_true (decide (97 ≤ p0)) with hb0 | hb0
  ·
   rw [hb0] at F
   refine AX F W (Ak F Aa Aa Aa Aa) Aa (Ay Aa) (Ah F Aa).q fun a w F W => ?_
   refine AX F W (Ak F Aa Aa Aa Aa) Aa (Ay Aa) (Mf F Aa Aa).q fun a w F W => ?_
   refine ls F W Aa (AE F Aa Aa Aa).q fun a w F W => ?_
   refine Ae (Ad ?_)
   exact ⟨F.re ⟨rfl, Aa, (I2 (by try rw [hb0]; all_goals simp only [IZ])), trivial⟩, W⟩
  rw [hb0] at F
  iterate 2 refine Ec F Aa Aa Aa Aa Aa Aa Aa fun a F => ?_
  refine ls F W Aa (AN F Aa Aa Aa).q fun a w F W => ?_
  refine Ae (Ad ?_)
  exact ⟨F.re ⟨rfl, Aa, (I2 (by try rw [hb0]; all_goals simp only [IZ])), trivial⟩, W⟩
 rintro a w ⟨F, W⟩
 refine Aw F Aa (fun hb => ?_) fun hb => ?_
 ·
  have H := AQ hb H
  rw [hb] at F
  clear hb
  refine Ai (Ab ?_)
  refine ls F W Aa (Ag F Aa).q fun a w F W => ?_
  refine Ae (Ad (Aq (AD ?_)))
  subst H
  refine AP (.inl Aa) F W Aa (Ap F Aa) ?_
  exact ⟨rfl, W.done⟩
 have H := AR (by rw [hb]; decide) H
 rw [hb] at F
 clear hb
 refine Ax (Ad (Ai ?_))
 refine Bd (fun a w => Fr 47 [] [(0, .int .u8 p0), (2, .int .i64 0), (24, .bool (decide (48 ≤ p0) && decide (p0 ≤ 57)))] a ∧ Stw ⟨Y, [], w0⟩ [] [] w) ?_ ?_
 ·
  refine Ab ?_
  refine ls F W Aa (Ah F Aa).q fun a w F W => ?_
  refine ls F W Aa (OW F Aa Aa).q fun a w F W => ?_
  refine ls F W Aa (Ah F Aa).q fun a w F W => ?_
  rcases Bool.eq_false_or_eq_true (decide (48 ≤ p0)) with hb0 | hb0
  ·
   rw [hb0] at F
   refine AX F W (Ak F Aa Aa Aa Aa) Aa (Ay Aa) (Ah F Aa).q fun a w F W => ?_
   refine AX F W (Ak F Aa Aa Aa Aa) Aa (Ay Aa) (Mf F Aa Aa).q fun a w F W => ?_
   refine ls F W Aa (AE F Aa Aa Aa).q fun a w F W => ?_
   refine Ae (Ad ?_)
   exact ⟨F.re ⟨rfl, Aa, (I2 (by try rw [hb0]; all_goals simp only [IZ])), trivial⟩, W⟩
  rw [hb0] at F
  iterate 2 refine Ec F Aa Aa Aa Aa Aa Aa Aa fun a F => ?_
  refine ls F W Aa (AN F Aa Aa Aa).q fun a w F W => ?_
  refine Ae (Ad ?_)
  exact ⟨F.re ⟨rfl, Aa, (I2 (by try rw [hb0]; all_goals simp only [IZ])), trivial⟩, W⟩
 rintro a w ⟨F, W⟩
 refine Aw F Aa (fun hb => ?_) fun hb => ?_
 ·
  have H := AQ hb H
  rw [hb] at F
  clear hb
  refine Ai (Ab ?_)
  refine ls F W Aa (Ag F Aa).q fun a w F W => ?_
  refine Ae (Ad (Aq (AD ?_)))
  subst H
  refine AP (.inl Aa) F W Aa (Ap F Aa) ?_
  exact ⟨rfl, W.done⟩
 have H := AR (by rw [hb]; decide) H
 rw [hb] at F
 clear hb
 refine Ax (Ad (Ai ?_))
 refine Bd (fun a w => Fr 47 [] [(0, .int .u8 p0), (2, .int .i64 0), (42, .bool (decide (p0 = 40) || (decide (p0 = 41) || (decide (p0 = 59) || (decide (p0 = 124) || decide (p0 = 61))))))] a ∧ Stw ⟨Y, [], w0⟩ [] [] w) ?_ ?_
 ·
  refine Ab ?_
  refine ls F W Aa (Ah F Aa).q fun a w F W => ?_
  refine ls F W Aa (Bn F Aa Aa).q fun a w F W => ?_
  refine ls F W Aa (Ah F Aa).q fun a w F W => ?_
  rcases Bool.eq_false_or_eq_true (decide (p0 = 40)) with hb0 | hb0
  ·
   rw [hb0] at F
   iterate 2 refine Ec F Aa Aa Aa Aa Aa Aa Aa fun a F => ?_
   refine ls F W Aa (AE F Aa Aa Aa).q fun a w F W => ?_
   refine ls F W Aa (Ah F Aa).q fun a w F W => ?_
   iterate 2 refine Ec F Aa Aa Aa Aa Aa Aa Aa fun a F => ?_
   refine ls F W Aa (AE F Aa Aa Aa).q fun a w F W => ?_
   refine ls F W Aa (Ah F Aa).q fun a w F W => ?_
   iterate 2 refine Ec F Aa Aa Aa Aa Aa Aa Aa fun a F => ?_
   refine ls F W Aa (AE F Aa Aa Aa).q fun a w F W => ?_
   refine ls F W Aa (Ah F Aa).q fun a w F W => ?_
   iterate 2 refine Ec F Aa Aa Aa Aa Aa Aa Aa fun a F => ?_
   refine ls F W Aa (AE F Aa Aa Aa).q fun a w F W => ?_
   refine Ae (Ad ?_)
   exact ⟨F.re ⟨rfl, Aa, (I2 (by try rw [hb0]; all_goals simp only [IZ])), trivial⟩, W⟩
  rw [hb0] at F
  refine AX F W (Ak F Aa Aa Aa Aa) Aa (Ay Aa) (Ah F Aa).q fun a w F W => ?_
  refine AX F W (Ak F Aa Aa Aa Aa) Aa (Ay Aa) (Bn F Aa Aa).q fun a w F W => ?_
  refine ls F W Aa (AN F Aa Aa Aa).q fun a w F W => ?_
  refine ls F W Aa (Ah F Aa).q fun a w F W => ?_
  rcases Bool.eq_false_or_eq_true (decide (p0 = 41)) with hb1 | hb1
  ·
   rw [hb1] at F
   iterate 2 refine Ec F Aa Aa Aa Aa Aa Aa Aa fun a F => ?_
   refine ls F W Aa (AE F Aa Aa Aa).q fun a w F W => ?_
   refine ls F W Aa (Ah F Aa).q fun a w F W => ?_
   iterate 2 refine Ec F Aa Aa Aa Aa Aa Aa Aa fun a F => ?_
   refine ls F W Aa (AE F Aa Aa Aa).q fun a w F W => ?_
   refine ls F W Aa (Ah F Aa).q fun a w F W => ?_
   iterate 2 refine Ec F Aa Aa Aa Aa Aa Aa Aa fun a F => ?_
   refine ls F W Aa (AE F Aa Aa Aa).q fun a w F W => ?_
   refine Ae (Ad ?_)
   exact ⟨F.re ⟨rfl, Aa, (I2 (by try rw [hb0]; try rw [hb1]; all_goals simp only [IZ])), trivial⟩, W⟩
  rw [hb1] at F
  refine AX F W (Ak F Aa Aa Aa Aa) Aa (Ay Aa) (Ah F Aa).q fun a w F W => ?_
  refine AX F W (Ak F Aa Aa Aa Aa) Aa (Ay Aa) (Bn F Aa Aa).q fun a w F W => ?_
  refine ls F W Aa (AN F Aa Aa Aa).q fun a w F W => ?_
  refine ls F W Aa (Ah F Aa).q fun a w F W => ?_
  rcases Bool.eq_false_or_eq_true (decide (p0 = 59)) with hb2 | hb2
  ·
   rw [hb2] at F
   iterate 2 refine Ec F Aa Aa Aa Aa Aa Aa Aa fun a F => ?_
   refine ls F W Aa (AE F Aa Aa Aa).q fun a w F W => ?_
   refine ls F W Aa (Ah F Aa).q fun a w F W => ?_
   iterate 2 refine Ec F Aa Aa Aa Aa Aa Aa Aa fun a F => ?_
   refine ls F W Aa (AE F Aa Aa Aa).q fun a w F W => ?_
   refine Ae (Ad ?_)
   exact ⟨F.re ⟨rfl, Aa, (I2 (by try rw [hb0]; try rw [hb1]; try rw [hb2]; all_goals simp only [IZ])), trivial⟩, W⟩
  rw [hb2] at F
  refine AX F W (Ak F Aa Aa Aa Aa) Aa (Ay Aa) (Ah F Aa).q fun a w F W => ?_
  refine AX F W (Ak F Aa Aa Aa Aa) Aa (Ay Aa) (Bn F Aa Aa).q fun a w F W => ?_
  refine ls F W Aa (AN F Aa Aa Aa).q fun a w F W => ?_
  refine ls F W Aa (Ah F Aa).q fun a w F W => ?_
  rcases Bool.eq_false_or_eq_true (decide (p0 = 124)) with hb3 | hb3
  ·
   rw [hb3] at F
   iterate 2 refine Ec F Aa Aa Aa Aa Aa Aa Aa fun a F => ?_
   refine ls F W Aa (AE F Aa Aa Aa).q fun a w F W => ?_
   refine Ae (Ad ?_)
   exact ⟨F.re ⟨rfl, Aa, (I2 (by try rw [hb3]; try rw [hb0]; try rw [hb1]; try rw [hb2]; all_goals simp only [IZ])), trivial⟩, W⟩
  rw [hb3] at F
  refine AX F W (Ak F Aa Aa Aa Aa) Aa (Ay Aa) (Ah F Aa).q fun a w F W => ?_
  refine AX F W (Ak F Aa Aa Aa Aa) Aa (Ay Aa) (Bn F Aa Aa).q fun a w F W => ?_
  refine ls F W Aa (AN F Aa Aa Aa).q fun a w F W => ?_
  refine Ae (Ad ?_)
  exact ⟨F.re ⟨rfl, Aa, (I2 (by try rw [hb3]; try rw [hb0]; try rw [hb1]; try rw [hb2]; all_goals simp only [IZ])), trivial⟩, W⟩
 rintro a w ⟨F, W⟩
 refine Aw F Aa (fun hb => ?_) fun hb => ?_
 ·
  have H := AQ hb H
  rw [hb] at F
  clear hb
  refine Ai (Ab ?_)
  refine ls F W Aa (Ag F Aa).q fun a w F W => ?_
  refine Ae (Ad (Aq (AD ?_)))
  subst H
  refine AP (.inl Aa) F W Aa (Ap F Aa) ?_
  exact ⟨rfl, W.done⟩
 have H := AR (by rw [hb]; decide) H
 rw [hb] at F
 clear hb
 refine Ax (Ad (Ai (Ai (Ab ?_))))
 refine ls F W Aa (Ah F Aa).q fun a w F W => ?_
 refine ls F W Aa (Bn F Aa Aa).q fun a w F W => ?_
 refine Ae (Ad ?_)
 refine Aw F Aa (fun hb => ?_) fun hb => ?_
 ·
  have H := AQ (BB hb) H
  rw [hb] at F
  clear hb
  refine Ai (Ab ?_)
  refine ls F W Aa (Ag F Aa).q fun a w F W => ?_
  refine Ae (Ad (Aq (AD ?_)))
  subst H
  refine AP (.inl Aa) F W Aa (Ap F Aa) ?_
  exact ⟨rfl, W.done⟩
 have H := AR (Bz hb) H
 rw [hb] at F
 clear hb
 refine Ax (Ad (Ai (Ai (Ab ?_))))
 refine ls F W Aa (Ah F Aa).q fun a w F W => ?_
 refine ls F W Aa (Bn F Aa Aa).q fun a w F W => ?_
 refine Ae (Ad ?_)
 refine Aw F Aa (fun hb => ?_) fun hb => ?_
 ·
  have H := AQ (BB hb) H
  rw [hb] at F
  clear hb
  refine Ai (Ab ?_)
  refine ls F W Aa (Ag F Aa).q fun a w F W => ?_
  refine Ae (Ad (Aq (AD ?_)))
  subst H
  refine AP (.inl Aa) F W Aa (Ap F Aa) ?_
  exact ⟨rfl, W.done⟩
 have H := AR (Bz hb) H
 rw [hb] at F
 clear hb
 refine Ax (Ad (Ai (Ab ?_)))
 refine ls F W Aa (Ag F Aa).q fun a w F W => ?_
 refine Ae (Ad (Aq ?_))
 subst H
 refine AP (.inl Aa) F W Aa (Ap F Aa) ?_
 exact ⟨rfl, W.done⟩
theorem Sz : Has Tryd.prog 61 := ⟨fun args w => Al Tryd.func61 rfl (by decide) args w⟩
noncomputable def E3 (p0 : List UInt8) (p1 : Int) : Int → Option (Int ⊕ Int)
  | x2 => (if (Co (p1 + x2)) < (p0.length : Int) then (ix p0 (Co (p1 + x2))).bind fun x4 => some (decide ((x4.toNat : Int) ≠ 10)) else some false).bind fun x3 => (if x3 = true then some (.inl (Co (x2 + 1))) else some (.inr x2))
noncomputable def GA (p0 : List UInt8) (p1 : Int) : Option Int := (Bx (E3 p0 p1) 0).bind fun x1 => some x1
theorem M4 (Y : Nat → Prop) (w0 : World)  (p0 : List UInt8) (p1 : Int) (r : Int) (H : GA p0 p1 = some r)  :
    Calls Tryd.prog 62 #[.string (bs p0), .int .i64 p1] w0 fun e w' => e = .returned (.int .i64 r) ∧ Below w0.heap.size w0 w' := by
 refine enter Tryd.func62 Aa Tryd.ntmps62 Aa fun a F => ?_
 have W := Stw.start Y w0
 unfold GA at H
 refine Ai (Ab ?_)
 refine ls F W Aa (Ag F Aa).q fun a w F W => ?_
 refine Ae (Ad (Ai (Ab ?_)))
 refine ls F W Aa (Ag F Aa).q fun a w F W => ?_
 refine Ae (Ad ?_)
 obtain ⟨o1, G1, K1⟩ := An H
 refine Bd (fun a w => ∃ x1 : Int, some (x1) = some o1 ∧ Fr 23 [] [(4, .int .i64 0), (5, .int .i64 x1)] a ∧ Stw ⟨Y, [], w0⟩ [] [] w) ?_ ?_
 ·
  have H := G1
  clear G1 K1
  refine AV ?_
  refine Cr H (fun s a w => Fr 23 [] [(0, .string (bs p0)), (1, .int .i64 p1), (4, .int .i64 0), (5, .int .i64 s)] a ∧ Stw ⟨Y, [], w0⟩ [] [] w) ⟨F.re ⟨rfl, Aa, Aa, Aa, trivial⟩, W⟩ fun s o a w H L2 hR => ?_
  obtain ⟨x2, rfl⟩ : ∃ x, x = s := ⟨s, rfl⟩
  obtain ⟨F, W⟩ := hR
  have F : Fr 23 [] [(0, .string (bs p0)), (1, .int .i64 p1), (4, .int .i64 0), (5, .int .i64 x2)] a := F
  have W : Stw ⟨Y, [], w0⟩ [] [] w := W
  rw [E3] at H
  refine Ai ?_
  obtain ⟨o3, G3, K3⟩ := An H
  refine Bd (fun a w => ∃ x3 : Bool, some (x3) = some o3 ∧ Fr 23 [] [(0, .string (bs p0)), (1, .int .i64 p1), (4, .int .i64 0), (5, .int .i64 x2), (19, .bool x3)] a ∧ Stw ⟨Y, [], w0⟩ [] [] w) ?_ ?_
  ·
   have H := G3
   clear G3 K3
   refine Ab ?_
   iterate 2 refine ls F W Aa (Ah F Aa).q fun a w F W => ?_
   refine ls F W Aa (BT F Aa Aa Aa).q fun a w F W => ?_
   refine ls F W Aa (Ah F Aa).q fun a w F W => ?_
   refine ls F W Aa (DK (l := p0) Ho Aa F Aa).q fun a w F W => ?_
   refine ls F W Aa (Fd F Aa Aa).q fun a w F W => ?_
   refine ls F W Aa (Ah F Aa).q fun a w F W => ?_
   rcases Bool.eq_false_or_eq_true (decide ((Co (p1 + x2)) < (p0.length : Int))) with hb | hb
   ·
    have H := AQ (BB hb) H
    rw [hb] at F
    clear hb
    iterate 3 refine AX F W (Ak F Aa Aa Aa Aa) Aa (Ay Aa) (Ah F Aa).q fun a w F W => ?_
    refine AX F W (Ak F Aa Aa Aa Aa) Aa (Ay Aa) (BT F Aa Aa Aa).q fun a w F W => ?_
    obtain ⟨x4, h1, H⟩ := An H
    refine AX F W (Ak F Aa Aa Aa Aa) Aa (Ay Aa) (Ei (l := p0) Ho F Aa Aa h1).q fun a w F W => ?_
    refine AX F W (Ak F Aa Aa Aa Aa) Aa (Ay Aa) (Ev F Aa Aa).q fun a w F W => ?_
    refine ls F W Aa (AE F Aa Aa Aa).q fun a w F W => ?_
    refine Ae (Ad ?_)
    exact ⟨_, H, F.re ⟨rfl, Aa, Aa, Aa, Aa, trivial⟩, W⟩
   have H := AR (Bz hb) H
   rw [hb] at F
   clear hb
   iterate 6 refine Ec F Aa Aa Aa Aa Aa Aa Aa fun a F => ?_
   refine ls F W Aa (AN F Aa Aa Aa).q fun a w F W => ?_
   refine Ae (Ad ?_)
   exact ⟨_, H, F.re ⟨rfl, Aa, Aa, Aa, Aa, trivial⟩, W⟩
  rintro a w ⟨x3, hj, F, W⟩
  have hj := AH hj
  subst hj
  have H := K3
  clear G3 K3
  refine Aw F Aa (fun hb => ?_) fun hb => ?_
  ·
   have H := AQ hb H
   rw [hb] at F
   clear hb
   refine Ax (Ad (AV (Ab ?_)))
   refine ls F W Aa (Ah F Aa).q fun a w F W => ?_
   refine ls F W Aa (BT F Aa Aa Aa).q fun a w F W => ?_
   refine ls F W Aa (Ag F Aa).q fun a w F W => ?_
   refine Ae (Bw (Ad ?_))
   exact ⟨_, H, F.re ⟨rfl, Aa, Aa, Aa, trivial⟩, W⟩
  have H := AR (by rw [hb]; decide) H
  rw [hb] at F
  clear hb
  refine Cl ?_
  iterate 2 refine CO ?_
  refine Ck (Ad ?_)
  have H := L2 _ H
  exact ⟨_, H, F.re ⟨rfl, Aa, trivial⟩, W⟩
 rintro a w ⟨x1, hj, F, W⟩
 have hj := AH hj
 subst hj
 have H := K1
 clear G1 K1
 refine Ai (Ab ?_)
 refine ls F W Aa (Ah F Aa).q fun a w F W => ?_
 refine ls F W Aa (Ag F Aa).q fun a w F W => ?_
 refine Ae (Ad (Aq ?_))
 have H := AH H
 subst H
 refine AP (.inl Aa) F W Aa (Ap F Aa) ?_
 exact ⟨rfl, W.done⟩
theorem TQ : Has Tryd.prog 62 := ⟨fun args w => Al Tryd.func62 rfl (by decide) args w⟩
theorem SD : (Tryd.prog.info? 71).bind (·.zero) = some (.agg #[.int .i64 0, .int .i64 0, .string (bs ([] : List UInt8)), .int .i64 0]) := by kernel_rfl
noncomputable def FZ (p0 : List UInt8) (p1 : Int) : Int → Option (Int ⊕ Int)
  | x2 => (if (Co (p1 + x2)) < (p0.length : Int) then (ix p0 (Co (p1 + x2))).bind fun x4 => (ix p0 p1).bind fun x5 => some (decide ((BO (x4.toNat : Int)) = (BO (x5.toNat : Int)))) else some false).bind fun x3 => (if x3 = true then some (.inl (Co (x2 + 1))) else some (.inr x2))
noncomputable def E2 (p0 : List UInt8) (p1 : Int) : Option Int := (Bx (FZ p0 p1) 0).bind fun x1 => some x1
theorem Jt (Y : Nat → Prop) (w0 : World)  (p0 : List UInt8) (p1 : Int) (r : Int) (H : E2 p0 p1 = some r)  :
    Calls Tryd.prog 64 #[.string (bs p0), .int .i64 p1] w0 fun e w' => e = .returned (.int .i64 r) ∧ Below w0.heap.size w0 w' := by
 refine enter Tryd.func64 Aa Tryd.ntmps64 Aa fun a F => ?_
 have W := Stw.start Y w0
 unfold E2 at H
 refine Ai (Ab ?_)
 refine ls F W Aa (Ag F Aa).q fun a w F W => ?_
 refine Ae (Ad (Ai (Ab ?_)))
 refine ls F W Aa (Ag F Aa).q fun a w F W => ?_
 refine Ae (Ad ?_)
 obtain ⟨o1, G1, K1⟩ := An H
 refine Bd (fun a w => ∃ x1 : Int, some (x1) = some o1 ∧ Fr 28 [] [(4, .int .i64 0), (5, .int .i64 x1)] a ∧ Stw ⟨Y, [], w0⟩ [] [] w) ?_ ?_
 ·
  have H := G1
  clear G1 K1
  refine AV ?_
  refine Cr H (fun s a w => Fr 28 [] [(0, .string (bs p0)), (1, .int .i64 p1), (4, .int .i64 0), (5, .int .i64 s)] a ∧ Stw ⟨Y, [], w0⟩ [] [] w) ⟨F.re ⟨rfl, Aa, Aa, Aa, trivial⟩, W⟩ fun s o a w H L2 hR => ?_
  obtain ⟨x2, rfl⟩ : ∃ x, x = s := ⟨s, rfl⟩
  obtain ⟨F, W⟩ := hR
  have F : Fr 28 [] [(0, .string (bs p0)), (1, .int .i64 p1), (4, .int .i64 0), (5, .int .i64 x2)] a := F
  have W : Stw ⟨Y, [], w0⟩ [] [] w := W
  rw [FZ] at H
  refine Ai ?_
  obtain ⟨o3, G3, K3⟩ := An H
  refine Bd (fun a w => ∃ x3 : Bool, some (x3) = some o3 ∧ Fr 28 [] [(0, .string (bs p0)), (1, .int .i64 p1), (4, .int .i64 0), (5, .int .i64 x2), (24, .bool x3)] a ∧ Stw ⟨Y, [], w0⟩ [] [] w) ?_ ?_
  ·
   have H := G3
   clear G3 K3
   refine Fc W MO (by kernel_rfl) ?_
   iterate 2 refine qs F Aa (Ah F Aa).q fun a F => ?_
   refine qs F Aa (BT F Aa Aa Aa).q fun a F => ?_
   refine qs F Aa (Ah F Aa).q fun a F => ?_
   refine qs F Aa (DK (l := p0) Ho Aa F Aa).q fun a F => ?_
   refine qs F Aa (Fd F Aa Aa).q fun a F => ?_
   refine qs F Aa (Ah F Aa).q fun a F => ?_
   rcases Bool.eq_false_or_eq_true (decide ((Co (p1 + x2)) < (p0.length : Int))) with hb | hb
   ·
    have H := AQ (BB hb) H
    rw [hb] at F
    clear hb
    iterate 3 refine MQ F (Ak F Aa Aa Aa Aa) Aa (Ay Aa) (Ah F Aa).q fun a F => ?_
    refine MQ F (Ak F Aa Aa Aa Aa) Aa (Ay Aa) (BT F Aa Aa Aa).q fun a F => ?_
    obtain ⟨x4, h1, H⟩ := An H
    refine MQ F (Ak F Aa Aa Aa Aa) Aa (Ay Aa) (Ei (l := p0) Ho F Aa Aa h1).q fun a F => ?_
    refine MQ F (Ak F Aa Aa Aa Aa) Aa (Ay Aa) (A1 (v := Value.int .i64 (BO (x4.toNat : Int))) F Sz Aa (fun w W => HR any w (x4.toNat : Int) _ Aa)) fun a F => ?_
    iterate 2 refine MQ F (Ak F Aa Aa Aa Aa) Aa (Ay Aa) (Ah F Aa).q fun a F => ?_
    obtain ⟨x5, h2, H⟩ := An H
    refine MQ F (Ak F Aa Aa Aa Aa) Aa (Ay Aa) (Ei (l := p0) Ho F Aa Aa h2).q fun a F => ?_
    refine MQ F (Ak F Aa Aa Aa Aa) Aa (Ay Aa) (A1 (v := Value.int .i64 (BO (x5.toNat : Int))) F Sz Aa (fun w W => HR any w (x5.toNat : Int) _ Aa)) fun a F => ?_
    refine MQ F (Ak F Aa Aa Aa Aa) Aa (Ay Aa) (Bn F Aa Aa).q fun a F => ?_
    refine qs F Aa (AE F Aa Aa Aa).q fun a F => ?_
    refine Ek fun w W => ?_
    refine Ad ?_
    exact ⟨_, H, F.re ⟨rfl, Aa, Aa, Aa, Aa, trivial⟩, W⟩
   have H := AR (Bz hb) H
   rw [hb] at F
   clear hb
   iterate 11 refine QL F (Gb F Aa Aa Aa Aa Aa) Aa Aa fun a F => ?_
   refine qs F Aa (AN F Aa Aa Aa).q fun a F => ?_
   refine Ek fun w W => ?_
   refine Ad ?_
   exact ⟨_, H, F.re ⟨rfl, Aa, Aa, Aa, Aa, trivial⟩, W⟩
  rintro a w ⟨x3, hj, F, W⟩
  have hj := AH hj
  subst hj
  have H := K3
  clear G3 K3
  refine Aw F Aa (fun hb => ?_) fun hb => ?_
  ·
   have H := AQ hb H
   rw [hb] at F
   clear hb
   refine Ax (Ad (AV (Ab ?_)))
   refine ls F W Aa (Ah F Aa).q fun a w F W => ?_
   refine ls F W Aa (BT F Aa Aa Aa).q fun a w F W => ?_
   refine ls F W Aa (Ag F Aa).q fun a w F W => ?_
   refine Ae (Bw (Ad ?_))
   exact ⟨_, H, F.re ⟨rfl, Aa, Aa, Aa, trivial⟩, W⟩
  have H := AR (by rw [hb]; decide) H
  rw [hb] at F
  clear hb
  refine Cl ?_
  iterate 2 refine CO ?_
  refine Ck (Ad ?_)
  have H := L2 _ H
  exact ⟨_, H, F.re ⟨rfl, Aa, trivial⟩, W⟩
 rintro a w ⟨x1, hj, F, W⟩
 have hj := AH hj
 subst hj
 have H := K1
 clear G1 K1
 refine Ai (Ab ?_)
 refine ls F W Aa (Ah F Aa).q fun a w F W => ?_
 refine ls F W Aa (Ag F Aa).q fun a w F W => ?_
 refine Ae (Ad (Aq ?_))
 have H := AH H
 subst H
 refine AP (.inl Aa) F W Aa (Ap F Aa) ?_
 exact ⟨rfl, W.done⟩
theorem Kv : type_of% Tryd.underlying71 := Tryd.underlying71
theorem SP : Has Tryd.prog 64 := ⟨fun args w => Al Tryd.func64 rfl (by decide) args w⟩
theorem RX : Bt Tryd.prog 71 [.int .i64 0, .int .i64 0, .string (bs ([] : List UInt8)), .int .i64 0] [(0, 1), (1, 1), (2, 1), (3, 1)] := ⟨⟨.agg #[.int .i64 0, .int .i64 0, .string (bs ([] : List UInt8)), .int .i64 0], by kernel_rfl, rfl⟩, ⟨_, Kv, fun w => by kernel_rfl⟩⟩
theorem PF : Ty Tryd.prog 71 true 4 := ⟨by kernel_rfl, by kernel_rfl⟩
theorem R3 : Has Tryd.prog 40 := ⟨fun args w => Al Tryd.func40 rfl (by decide) args w⟩
noncomputable def FU (fRec : Int → Option (List UInt8)) (p0 : Int) : Option (List UInt8) := (if p0 < 0 then (if (-10) < p0 then (fRec (Co (0 - p0))).bind fun x1 => (Eo ([45] : List UInt8) x1).bind fun x2 => some x2 else (fRec (Co (0 - (Co (Int.tdiv p0 10))))).bind fun x3 => (Eo ([45] : List UInt8) x3).bind fun x4 => (fRec (Co (0 - (Int.tmod p0 10)))).bind fun x5 => (Eo x4 x5).bind fun x6 => some x6) else (if p0 < 10 then (Fy ([48, 49, 50, 51, 52, 53, 54, 55, 56, 57] : List UInt8) p0 (Co (p0 + 1))).bind fun x7 => some x7 else (fRec (Co (Int.tdiv p0 10))).bind fun x8 => (Fy ([48, 49, 50, 51, 52, 53, 54, 55, 56, 57] : List UInt8) (Int.tmod p0 10) (Co ((Int.tmod p0 10) + 1))).bind fun x9 => (Eo x8 x9).bind fun x10 => some x10))
noncomputable def Fm : Nat → Int → Option (List UInt8)
  | 0 => fun _ => none
  | n + 1 => FU (Fm n)
noncomputable def HX (p0 : Int) : Option (List UInt8) := Gx fun n => Fm n p0
theorem K6 (fRec : Int → Option (List UInt8)) (ih : ∀ (Y : Nat → Prop) (w0 : World)  (p0 : Int) (r : List UInt8) (H : fRec p0 = some r) , Calls Tryd.prog 40 #[.int .i64 p0] w0 fun e w' => e = .returned (.string (bs r)) ∧ Below w0.heap.size w0 w') (Y : Nat → Prop) (w0 : World)  (p0 : Int) (r : List UInt8) (H : FU fRec p0 = some r)  :
    Calls Tryd.prog 40 #[.int .i64 p0] w0 fun e w' => e = .returned (.string (bs r)) ∧ Below w0.heap.size w0 w' := by
 refine enter Tryd.func40 Aa Tryd.ntmps40 Aa fun a F => ?_
 have W := Stw.start Y w0
 unfold FU at H
 refine Ai (Ab ?_)
 refine ls F W Aa (Ag (v := Value.string (bs ([] : List UInt8))) F Aa).q fun a w F W => ?_
 refine Ae (Ad (Ai (Ai (Ab ?_))))
 refine ls F W Aa (Ah F Aa).q fun a w F W => ?_
 refine ls F W Aa (Fd F Aa Aa).q fun a w F W => ?_
 refine Ae (Ad ?_)
 refine Aw F Aa (fun hb => ?_) fun hb => ?_
 ·
  have H := AQ (BB hb) H
  rw [hb] at F
  clear hb
  refine Ai (Ai (Ab ?_))
  refine ls F W Aa (Ah F Aa).q fun a w F W => ?_
  refine ls F W Aa (JE F Aa Aa).q fun a w F W => ?_
  refine Ae (Ad ?_)
  refine Aw F Aa (fun hb => ?_) fun hb => ?_
  ·
   have H := AQ (BB hb) H
   rw [hb] at F
   clear hb
   refine Ai (Ab ?_)
   refine ls F W Aa (Ah F Aa).q fun a w F W => ?_
   refine ls F W Aa (OH F Aa Aa Aa).q fun a w F W => ?_
   obtain ⟨x1, h1, H⟩ := An H
   refine ls F W Aa (A1 (v := Value.string (bs x1)) F R3 Aa (fun w W => ih any w (Co (0 - p0)) _ h1)) fun a w F W => ?_
   obtain ⟨x2, h2, H⟩ := An H
   refine ls F W Aa (EG (l := ([45] : List UInt8)) (m := x1) F Aa Aa h2).q fun a w F W => ?_
   refine ls F W Aa (Ag F Aa).q fun a w F W => ?_
   refine Ae (Ad (Aq ?_))
   iterate 2 refine AD ?_
   have H := AH H
   subst H
   refine AP (.inl Aa) F W Aa (Ap F Aa) ?_
   exact ⟨rfl, W.done⟩
  have H := AR (Bz hb) H
  rw [hb] at F
  clear hb
  refine Ax (Ad (Ai (Ab ?_)))
  refine ls F W Aa (Ah F Aa).q fun a w F W => ?_
  refine ls F W Aa (Rm F Aa Aa (by decide) Aa).q fun a w F W => ?_
  refine ls F W Aa (OH F Aa Aa Aa).q fun a w F W => ?_
  obtain ⟨x3, h3, H⟩ := An H
  refine ls F W Aa (A1 (v := Value.string (bs x3)) F R3 Aa (fun w W => ih any w (Co (0 - (Co (Int.tdiv p0 10)))) _ h3)) fun a w F W => ?_
  obtain ⟨x4, h4, H⟩ := An H
  refine ls F W Aa (EG (l := ([45] : List UInt8)) (m := x3) F Aa Aa h4).q fun a w F W => ?_
  refine ls F W Aa (Ah F Aa).q fun a w F W => ?_
  refine ls F W Aa (Qj F Aa Aa (by decide) Aa).q fun a w F W => ?_
  refine ls F W Aa (OH F Aa Aa Aa).q fun a w F W => ?_
  obtain ⟨x5, h5, H⟩ := An H
  refine ls F W Aa (A1 (v := Value.string (bs x5)) F R3 Aa (fun w W => ih any w (Co (0 - (Int.tmod p0 10))) _ h5)) fun a w F W => ?_
  obtain ⟨x6, h6, H⟩ := An H
  refine ls F W Aa (EG (l := x4) (m := x5) F Aa Aa h6).q fun a w F W => ?_
  refine ls F W Aa (Ag F Aa).q fun a w F W => ?_
  refine Ae (Ad (Aq (AD ?_)))
  have H := AH H
  subst H
  refine AP (.inl Aa) F W Aa (Ap F Aa) ?_
  exact ⟨rfl, W.done⟩
 have H := AR (Bz hb) H
 rw [hb] at F
 clear hb
 refine Ax (Ad (Ai (Ai (Ab ?_))))
 refine ls F W Aa (Ah F Aa).q fun a w F W => ?_
 refine ls F W Aa (Fd F Aa Aa).q fun a w F W => ?_
 refine Ae (Ad ?_)
 refine Aw F Aa (fun hb => ?_) fun hb => ?_
 ·
  have H := AQ (BB hb) H
  rw [hb] at F
  clear hb
  refine Ai (Ab ?_)
  iterate 2 refine ls F W Aa (Ah F Aa).q fun a w F W => ?_
  refine ls F W Aa (BT F Aa Aa Aa).q fun a w F W => ?_
  obtain ⟨x7, h7, H⟩ := An H
  refine ls F W Aa (EY (l := ([48, 49, 50, 51, 52, 53, 54, 55, 56, 57] : List UInt8)) Ho F Aa Aa Aa h7).q fun a w F W => ?_
  refine ls F W Aa (Ag F Aa).q fun a w F W => ?_
  refine Ae (Ad (Aq (AD ?_)))
  have H := AH H
  subst H
  refine AP (.inl Aa) F W Aa (Ap F Aa) ?_
  exact ⟨rfl, W.done⟩
 have H := AR (Bz hb) H
 rw [hb] at F
 clear hb
 refine Ax (Ad (Ai ?_))
 refine Fc W MO (by kernel_rfl) ?_
 refine qs F Aa (Ah F Aa).q fun a F => ?_
 refine qs F Aa (Rm F Aa Aa (by decide) Aa).q fun a F => ?_
 obtain ⟨x8, h8, H⟩ := An H
 refine qs F Aa (A1 (v := Value.string (bs x8)) F R3 Aa (fun w W => ih any w (Co (Int.tdiv p0 10)) _ h8)) fun a F => ?_
 refine qs F Aa (Ah F Aa).q fun a F => ?_
 refine qs F Aa (Qj F Aa Aa (by decide) Aa).q fun a F => ?_
 refine qs F Aa (Ah F Aa).q fun a F => ?_
 refine qs F Aa (Qj F Aa Aa (by decide) Aa).q fun a F => ?_
 refine qs F Aa (BT F Aa Aa Aa).q fun a F => ?_
 obtain ⟨x9, h9, H⟩ := An H
 refine qs F Aa (EY (l := ([48, 49, 50, 51, 52, 53, 54, 55, 56, 57] : List UInt8)) Ho F Aa Aa Aa h9).q fun a F => ?_
 obtain ⟨x10, h10, H⟩ := An H
 refine qs F Aa (EG (l := x8) (m := x9) F Aa Aa h10).q fun a F => ?_
 refine qs F Aa (Ag F Aa).q fun a F => ?_
 refine Ek fun w W => ?_
 refine Ad (Aq ?_)
 have H := AH H
 subst H
 refine AP (.inl Aa) F W Aa (Ap F Aa) ?_
 exact ⟨rfl, W.done⟩
theorem LX : ∀ (n : Nat) (Y : Nat → Prop) (w0 : World)  (p0 : Int) (r : List UInt8) (H : Fm n p0 = some r) , Calls Tryd.prog 40 #[.int .i64 p0] w0 fun e w' => e = .returned (.string (bs r)) ∧ Below w0.heap.size w0 w' := by
  intro n
  induction n with
  | zero => intro Y w0  p0 r H; exact nomatch H
  | succ n ih => intro Y w0  p0 r H ; exact K6 (Fm n) ih Y w0  p0 r H 
theorem M6 (Y : Nat → Prop) (w0 : World)  (p0 : Int) (r : List UInt8) (H : HX p0 = some r)  :
    Calls Tryd.prog 40 #[.int .i64 p0] w0 fun e w' => e = .returned (.string (bs r)) ∧ Below w0.heap.size w0 w' := by
  obtain ⟨n, H⟩ := Ch H
  exact LX n Y w0  p0 r H 
noncomputable def E1 (p0 : List UInt8) : Int → Option (Int ⊕ (Unit ⊕ Int))
  | x1 => (if x1 < 1000 then (HX x1).bind fun x2 => (if x2 = p0 then some (.inr (.inr x1)) else some (.inl (Co (x1 + 1)))) else some (.inr (.inl ())))
noncomputable def EA (p0 : List UInt8) : Option Int := J4 (Bx (E1 p0) 0) fun _ => some (-1)
theorem ME (Y : Nat → Prop) (w0 : World)  (p0 : List UInt8) (r : Int) (H : EA p0 = some r)  :
    Calls Tryd.prog 86 #[.string (bs p0)] w0 fun e w' => e = .returned (.int .i64 r) ∧ Below w0.heap.size w0 w' := by
 refine enter Tryd.func86 Aa Tryd.ntmps86 Aa fun a F => ?_
 have W := Stw.start Y w0
 unfold EA at H
 refine Ai (Ab ?_)
 refine ls F W Aa (Ag F Aa).q fun a w F W => ?_
 refine Ae (Ad ?_)
 obtain ⟨o1, G1, K1, L1⟩ := O9 H
 refine Bd (fun a w => some (Sum.inl ()) = some o1 ∧ Fr 13 [] [(2, .int .i64 0)] a ∧ Stw ⟨Y, [], w0⟩ [] [] w) ?_ ?_
 ·
  have H := G1
  clear G1 K1
  refine Ai (Ab ?_)
  refine ls F W Aa (Ag F Aa).q fun a w F W => ?_
  refine Ae (Ad (AV ?_))
  refine Cr H (fun s a w => Fr 13 [] [(0, .string (bs p0)), (2, .int .i64 0), (3, .int .i64 s)] a ∧ Stw ⟨Y, [], w0⟩ [] [] w) ⟨F.re ⟨rfl, Aa, Aa, trivial⟩, W⟩ fun s o a w H L2 hR => ?_
  obtain ⟨x1, rfl⟩ : ∃ x, x = s := ⟨s, rfl⟩
  obtain ⟨F, W⟩ := hR
  have F : Fr 13 [] [(0, .string (bs p0)), (2, .int .i64 0), (3, .int .i64 x1)] a := F
  have W : Stw ⟨Y, [], w0⟩ [] [] w := W
  rw [E1] at H
  refine Ai (Ai (Ab ?_))
  refine ls F W Aa (Ah F Aa).q fun a w F W => ?_
  refine ls F W Aa (Fd F Aa Aa).q fun a w F W => ?_
  refine Ae (Ad ?_)
  refine Aw F Aa (fun hb => ?_) fun hb => ?_
  ·
   have H := AQ (BB hb) H
   rw [hb] at F
   clear hb
   refine Ax (Ad (Ai (AV (Ai (Ab ?_)))))
   refine ls F W Aa (Ah F Aa).q fun a w F W => ?_
   obtain ⟨x2, h1, H⟩ := An H
   refine ls F W Aa (A1 (v := Value.string (bs x2)) F R3 Aa (fun w W => M6 any w x1 _ h1)) fun a w F W => ?_
   refine ls F W Aa (Ah F Aa).q fun a w F W => ?_
   refine ls F W Aa (Iw (l := x2) (m := p0) F Aa Aa).q fun a w F W => ?_
   refine Ae (Ad ?_)
   refine Aw F Aa (fun hb => ?_) fun hb => ?_
   ·
    have H := AQ (BB hb) H
    rw [hb] at F
    clear hb
    refine Ai (Ab ?_)
    refine ls F W Aa (Ah F Aa).q fun a w F W => ?_
    refine ls F W Aa (Ag F Aa).q fun a w F W => ?_
    refine Ae (Ad (Aq (A5 ?_)))
    iterate 2 refine AD ?_
    refine A5 (AD ?_)
    have H := L2 _ H
    have H := L1 _ H
    have H := AH H
    subst H
    refine AP (.inl Aa) F W Aa (Ap F Aa) ?_
    exact ⟨rfl, W.done⟩
   have H := AR (Bz hb) H
   rw [hb] at F
   clear hb
   refine Ax (Bw (Ad (Ab ?_)))
   refine ls F W Aa (Ah F Aa).q fun a w F W => ?_
   refine ls F W Aa (BT F Aa Aa Aa).q fun a w F W => ?_
   refine ls F W Aa (Ag F Aa).q fun a w F W => ?_
   refine Ae (Ad ?_)
   exact ⟨_, H, F.re ⟨rfl, Aa, Aa, trivial⟩, W⟩
  have H := AR (Bz hb) H
  rw [hb] at F
  clear hb
  refine Cl ?_
  iterate 2 refine CO ?_
  refine Ck (Ad ?_)
  have H := L2 _ H
  exact ⟨H, F.re ⟨rfl, trivial⟩, W⟩
 rintro a w ⟨hj, F, W⟩
 have H := K1 _ hj
 clear hj G1 K1 L1
 refine Ai (Ab ?_)
 refine ls F W Aa (Ag F Aa).q fun a w F W => ?_
 refine Ae (Ad (Aq ?_))
 have H := AH H
 subst H
 refine AP (.inl Aa) F W Aa (Ap F Aa) ?_
 exact ⟨rfl, W.done⟩
theorem To : Has Tryd.prog 86 := ⟨fun args w => Al Tryd.func86 rfl (by decide) args w⟩
noncomputable def Dg (p0 : List UInt8) (p1 : Int) : Option (Int × Int × List UInt8 × Int) := (ix p0 p1).bind fun x1 => (if (BO (x1.toNat : Int)) = 1 then (E2 p0 p1).bind fun x2 => (Fy p0 p1 (Co (p1 + x2))).bind fun x3 => some (1, 0, x3, p1) else J4 (if (BO (x1.toNat : Int)) = 2 then (E2 p0 p1).bind fun x4 => (Fy p0 p1 (Co (p1 + x4))).bind fun x5 => (EA x5).bind fun x6 => (if 0 ≤ x6 then some (.inr (2, x6, ([] : List UInt8), p1)) else some (.inl ())) else some (.inl ())) fun _ => (if (BO (x1.toNat : Int)) = 3 then (Fy p0 p1 (Co (p1 + 1))).bind fun x7 => some (3, 0, x7, p1) else (if (BO (x1.toNat : Int)) = 5 then (if (Co (p1 + 1)) < (p0.length : Int) then (ix p0 (Co (p1 + 1))).bind fun x9 => some (decide ((x9.toNat : Int) = 61)) else some false) else some false).bind fun x8 => (if x8 = true then some (3, 0, ([58, 61] : List UInt8), p1) else some (0, 0, ([] : List UInt8), p1))))
theorem Ng (Y : Nat → Prop) (w0 : World)  (p0 : List UInt8) (p1 : Int) (r : (Int × Int × List UInt8 × Int)) (H : Dg p0 p1 = some r)  :
    Calls Tryd.prog 63 #[.string (bs p0), .int .i64 p1] w0 fun e w' => e = .returned (.agg #[.int .i64 r.1, .int .i64 r.2.1, .string (bs r.2.2.1), .int .i64 r.2.2.2]) ∧ Below w0.heap.size w0 w' := by
 refine enter Tryd.func63 Aa Tryd.ntmps63 Aa fun a F => ?_
 have W := Stw.start Y w0
 unfold Dg at H
 refine Ai (Ab ?_)
 refine AU (cs := [.int .i64 0, .int .i64 0, .string (bs ([] : List UInt8)), .int .i64 0]) F W Aa SD Aa fun b1 a w F W => ?_
 refine Ae (Ad (Ai (Ab ?_)))
 iterate 2 refine ls F W Aa (Ah F Aa).q fun a w F W => ?_
 obtain ⟨x1, h1, H⟩ := An H
 refine ls F W Aa (Ei (l := p0) Ho F Aa Aa h1).q fun a w F W => ?_
 refine ls F W Aa (A1 (v := Value.int .i64 (BO (x1.toNat : Int))) F Sz Aa (fun w W => HR any w (x1.toNat : Int) _ Aa)) fun a w F W => ?_
 refine ls F W Aa (Ag F Aa).q fun a w F W => ?_
 refine Ae (Ad (Ai (Ai (Ab ?_))))
 refine ls F W Aa (Ah F Aa).q fun a w F W => ?_
 refine ls F W Aa (Bn F Aa Aa).q fun a w F W => ?_
 refine Ae (Ad ?_)
 refine Aw F Aa (fun hb => ?_) fun hb => ?_
 ·
  have H := AQ (BB hb) H
  rw [hb] at F
  clear hb
  refine Ai (Ab ?_)
  iterate 5 refine ls F W Aa (Ah F Aa).q fun a w F W => ?_
  obtain ⟨x2, h2, H⟩ := An H
  refine ls F W Aa (A1 (v := Value.int .i64 x2) F SP Aa (fun w W => Jt any w p0 p1 _ h2)) fun a w F W => ?_
  refine ls F W Aa (BT F Aa Aa Aa).q fun a w F W => ?_
  obtain ⟨x3, h3, H⟩ := An H
  refine ls F W Aa (EY (l := p0) Ho F Aa Aa Aa h3).q fun a w F W => ?_
  refine ls F W Aa (Ah F Aa).q fun a w F W => ?_
  refine ls F W Aa (Ba (v := Value.agg #[.int .i64 1, .int .i64 0, .string (bs x3), .int .i64 p1]) RX F Aa Aa Aa).q fun a w F W => ?_
  refine Au (vs := [.int .i64 1, .int .i64 0, .string (bs x3), .int .i64 p1]) (M' := [(b1, [.int .i64 1, .int .i64 0, .string (bs x3), .int .i64 p1])]) 0 F W Aa Aa Aa PF Aa Aa Aa Aa Aa fun w W => ?_
  refine Ae (Ad (Aq (AD ?_)))
  have H := AH H
  subst H
  refine AP (.inl Aa) F W Aa (AB 0 F Aa Aa PF Aa) ?_
  exact ⟨rfl, W.done⟩
 have H := AR (Bz hb) H
 rw [hb] at F
 clear hb
 refine Ax (Ad ?_)
 obtain ⟨o1, G1, K1, L1⟩ := O9 H
 refine Bd (fun a w => some (Sum.inl ()) = some o1 ∧ Fr 68 [] [(0, .string (bs p0)), (1, .int .i64 p1), (4, .pointer (some ⟨b1, 0, none⟩)), (5, .int .i64 (BO (x1.toNat : Int)))] a ∧ Stw ⟨Y, [], w0⟩ [(b1, [.int .i64 0, .int .i64 0, .string (bs ([] : List UInt8)), .int .i64 0])] [] w) ?_ ?_
 ·
  have H := G1
  clear G1 K1
  refine Ai (Ab ?_)
  refine ls F W Aa (Ah F Aa).q fun a w F W => ?_
  refine ls F W Aa (Bn F Aa Aa).q fun a w F W => ?_
  refine Ae (Ad ?_)
  refine Aw F Aa (fun hb => ?_) fun hb => ?_
  ·
   have H := AQ (BB hb) H
   rw [hb] at F
   clear hb
   refine Ai (Ab ?_)
   iterate 5 refine ls F W Aa (Ah F Aa).q fun a w F W => ?_
   obtain ⟨x4, h4, H⟩ := An H
   refine ls F W Aa (A1 (v := Value.int .i64 x4) F SP Aa (fun w W => Jt any w p0 p1 _ h4)) fun a w F W => ?_
   refine ls F W Aa (BT F Aa Aa Aa).q fun a w F W => ?_
   obtain ⟨x5, h5, H⟩ := An H
   refine ls F W Aa (EY (l := p0) Ho F Aa Aa Aa h5).q fun a w F W => ?_
   obtain ⟨x6, h6, H⟩ := An H
   refine ls F W Aa (A1 (v := Value.int .i64 x6) F To Aa (fun w W => ME any w x5 _ h6)) fun a w F W => ?_
   refine ls F W Aa (Ag F Aa).q fun a w F W => ?_
   refine Ae (Ad (Ai (Ab ?_)))
   refine ls F W Aa (Ah F Aa).q fun a w F W => ?_
   refine ls F W Aa (OW F Aa Aa).q fun a w F W => ?_
   refine Ae (Ad ?_)
   refine Aw F Aa (fun hb => ?_) fun hb => ?_
   ·
    have H := AQ (BB hb) H
    rw [hb] at F
    clear hb
    refine Ai (Ab ?_)
    iterate 2 refine ls F W Aa (Ah F Aa).q fun a w F W => ?_
    refine ls F W Aa (Ba (v := Value.agg #[.int .i64 2, .int .i64 x6, .string (bs ([] : List UInt8)), .int .i64 p1]) RX F Aa Aa Aa).q fun a w F W => ?_
    refine Au (vs := [.int .i64 2, .int .i64 x6, .string (bs ([] : List UInt8)), .int .i64 p1]) (M' := [(b1, [.int .i64 2, .int .i64 x6, .string (bs ([] : List UInt8)), .int .i64 p1])]) 0 F W Aa Aa Aa PF Aa Aa Aa Aa Aa fun w W => ?_
    refine Ae (Ad (Aq (AD ?_)))
    have H := L1 _ H
    have H := AH H
    subst H
    refine AP (.inl Aa) F W Aa (AB 0 F Aa Aa PF Aa) ?_
    exact ⟨rfl, W.done⟩
   have H := AR (Bz hb) H
   rw [hb] at F
   clear hb
   refine Ax (Ad ?_)
   exact ⟨H, F.re ⟨rfl, Aa, Aa, Aa, trivial⟩, W⟩
  have H := AR (Bz hb) H
  rw [hb] at F
  clear hb
  refine Ax (Ad ?_)
  exact ⟨H, F.re ⟨rfl, Aa, Aa, Aa, trivial⟩, W⟩
 rintro a w ⟨hj, F, W⟩
 have H := K1 _ hj
 clear hj G1 K1 L1
 refine Ai (Ai (Ab ?_))
 refine ls F W Aa (Ah F Aa).q fun a w F W => ?_
 refine ls F W Aa (Bn F Aa Aa).q fun a w F W => ?_
 refine Ae (Ad ?_)
 refine Aw F Aa (fun hb => ?_) fun hb => ?_
 ·
  have H := AQ (BB hb) H
  rw [hb] at F
  clear hb
  refine Ai (Ab ?_)
  iterate 3 refine ls F W Aa (Ah F Aa).q fun a w F W => ?_
  refine ls F W Aa (BT F Aa Aa Aa).q fun a w F W => ?_
  obtain ⟨x7, h7, H⟩ := An H
  refine ls F W Aa (EY (l := p0) Ho F Aa Aa Aa h7).q fun a w F W => ?_
  refine ls F W Aa (Ah F Aa).q fun a w F W => ?_
  refine ls F W Aa (Ba (v := Value.agg #[.int .i64 3, .int .i64 0, .string (bs x7), .int .i64 p1]) RX F Aa Aa Aa).q fun a w F W => ?_
  refine Au (vs := [.int .i64 3, .int .i64 0, .string (bs x7), .int .i64 p1]) (M' := [(b1, [.int .i64 3, .int .i64 0, .string (bs x7), .int .i64 p1])]) 0 F W Aa Aa Aa PF Aa Aa Aa Aa Aa fun w W => ?_
  refine Ae (Ad (Aq (AD ?_)))
  have H := AH H
  subst H
  refine AP (.inl Aa) F W Aa (AB 0 F Aa Aa PF Aa) ?_
  exact ⟨rfl, W.done⟩
 have H := AR (Bz hb) H
 rw [hb] at F
 clear hb
 refine Ax (Ad (Ai ?_))
 obtain ⟨o2, G2, K2⟩ := An H
 refine Bd (fun a w => ∃ x8 : Bool, some (x8) = some o2 ∧ Fr 68 [] [(1, .int .i64 p1), (4, .pointer (some ⟨b1, 0, none⟩)), (63, .bool x8)] a ∧ Stw ⟨Y, [], w0⟩ [(b1, [.int .i64 0, .int .i64 0, .string (bs ([] : List UInt8)), .int .i64 0])] [] w) ?_ ?_
 ·
  have H := G2
  clear G2 K2
  refine Ab ?_
  refine ls F W Aa (Ah F Aa).q fun a w F W => ?_
  refine ls F W Aa (Bn F Aa Aa).q fun a w F W => ?_
  refine ls F W Aa (Ah F Aa).q fun a w F W => ?_
  rcases Bool.eq_false_or_eq_true (decide ((BO (x1.toNat : Int)) = 5)) with hb | hb
  ·
   have H := AQ (BB hb) H
   rw [hb] at F
   clear hb
   refine AX F W (Ak F Aa Aa Aa Aa) Aa (Ay Aa) (Ah F Aa).q fun a w F W => ?_
   refine AX F W (Ak F Aa Aa Aa Aa) Aa (Ay Aa) (BT F Aa Aa Aa).q fun a w F W => ?_
   refine AX F W (Ak F Aa Aa Aa Aa) Aa (Ay Aa) (Ah F Aa).q fun a w F W => ?_
   refine AX F W (Ak F Aa Aa Aa Aa) Aa (Ay Aa) (DK (l := p0) Ho Aa F Aa).q fun a w F W => ?_
   refine AX F W (Ak F Aa Aa Aa Aa) Aa (Ay Aa) (Fd F Aa Aa).q fun a w F W => ?_
   refine ls F W Aa (AE F Aa Aa Aa).q fun a w F W => ?_
   refine ls F W Aa (Ah F Aa).q fun a w F W => ?_
   rcases Bool.eq_false_or_eq_true (decide ((Co (p1 + 1)) < (p0.length : Int))) with hb | hb
   ·
    have H := AQ (BB hb) H
    rw [hb] at F
    clear hb
    iterate 2 refine AX F W (Ak F Aa Aa Aa Aa) Aa (Ay Aa) (Ah F Aa).q fun a w F W => ?_
    refine AX F W (Ak F Aa Aa Aa Aa) Aa (Ay Aa) (BT F Aa Aa Aa).q fun a w F W => ?_
    obtain ⟨x9, h8, H⟩ := An H
    refine AX F W (Ak F Aa Aa Aa Aa) Aa (Ay Aa) (Ei (l := p0) Ho F Aa Aa h8).q fun a w F W => ?_
    refine AX F W (Ak F Aa Aa Aa Aa) Aa (Ay Aa) (Bn F Aa Aa).q fun a w F W => ?_
    refine ls F W Aa (AE F Aa Aa Aa).q fun a w F W => ?_
    refine Ae (Ad ?_)
    exact ⟨_, H, F.re ⟨rfl, Aa, Aa, trivial⟩, W⟩
   have H := AR (Bz hb) H
   rw [hb] at F
   clear hb
   iterate 5 refine Ec F Aa Aa Aa Aa Aa Aa Aa fun a F => ?_
   refine ls F W Aa (AN F Aa Aa Aa).q fun a w F W => ?_
   refine Ae (Ad ?_)
   exact ⟨_, H, F.re ⟨rfl, Aa, Aa, trivial⟩, W⟩
  have H := AR (Bz hb) H
  rw [hb] at F
  clear hb
  iterate 5 refine Ec F Aa Aa Aa Aa Aa Aa Aa fun a F => ?_
  refine ls F W Aa (AN F Aa Aa Aa).q fun a w F W => ?_
  refine ls F W Aa (Ah F Aa).q fun a w F W => ?_
  iterate 5 refine Ec F Aa Aa Aa Aa Aa Aa Aa fun a F => ?_
  refine ls F W Aa (AN F Aa Aa Aa).q fun a w F W => ?_
  refine Ae (Ad ?_)
  exact ⟨_, H, F.re ⟨rfl, Aa, Aa, trivial⟩, W⟩
 rintro a w ⟨x8, hj, F, W⟩
 have hj := AH hj
 subst hj
 have H := K2
 clear G2 K2
 refine Aw F Aa (fun hb => ?_) fun hb => ?_
 ·
  have H := AQ hb H
  rw [hb] at F
  clear hb
  refine Ai (Ab ?_)
  refine ls F W Aa (Ah F Aa).q fun a w F W => ?_
  refine ls F W Aa (Ba (v := Value.agg #[.int .i64 3, .int .i64 0, .string (bs ([58, 61] : List UInt8)), .int .i64 p1]) RX F Aa Aa Aa).q fun a w F W => ?_
  refine Au (vs := [.int .i64 3, .int .i64 0, .string (bs ([58, 61] : List UInt8)), .int .i64 p1]) (M' := [(b1, [.int .i64 3, .int .i64 0, .string (bs ([58, 61] : List UInt8)), .int .i64 p1])]) 0 F W Aa Aa Aa PF Aa Aa Aa Aa Aa fun w W => ?_
  refine Ae (Ad (Aq (AD ?_)))
  have H := AH H
  subst H
  refine AP (.inl Aa) F W Aa (AB 0 F Aa Aa PF Aa) ?_
  exact ⟨rfl, W.done⟩
 have H := AR (by rw [hb]; decide) H
 rw [hb] at F
 clear hb
 refine Ax (Ad (Ai (Ab ?_)))
 refine ls F W Aa (Ah F Aa).q fun a w F W => ?_
 refine ls F W Aa (Ba (v := Value.agg #[.int .i64 0, .int .i64 0, .string (bs ([] : List UInt8)), .int .i64 p1]) RX F Aa Aa Aa).q fun a w F W => ?_
 refine Au (vs := [.int .i64 0, .int .i64 0, .string (bs ([] : List UInt8)), .int .i64 p1]) (M' := [(b1, [.int .i64 0, .int .i64 0, .string (bs ([] : List UInt8)), .int .i64 p1])]) 0 F W Aa Aa Aa PF Aa Aa Aa Aa Aa fun w W => ?_
 refine Ae (Ad (Aq ?_))
 have H := AH H
 subst H
 refine AP (.inl Aa) F W Aa (AB 0 F Aa Aa PF Aa) ?_
 exact ⟨rfl, W.done⟩
theorem Sg : type_of% Tryd.underlying65 := Tryd.underlying65
theorem TH : Has Tryd.prog 63 := ⟨fun args w => Al Tryd.func63 rfl (by decide) args w⟩
abbrev DA : Rp (Int × Int × List UInt8 × Int) := (Rp.pair (Rp.int .i64) (Rp.pair (Rp.int .i64) (Rp.pair Rp.str (Rp.int .i64))))
def TE (a : Int × Int × List UInt8 × Int) : List Value := [.int .i64 a.1, .int .i64 a.2.1, .string (bs a.2.2.1), .int .i64 a.2.2.2]
theorem Pz : Fl DA TE := (Fl.pair Fl.int (Fl.pair Fl.int (Fl.pair Fl.str Fl.int)))
theorem Oz : Et Tryd.prog 65 71 4 40 := Et.of Sg (by kernel_rfl) (by kernel_rfl) (by kernel_rfl) (by decide)
noncomputable def CI (p0 : List UInt8) : ((List (Int × Int × List UInt8 × Int)) × Int) → Option (((List (Int × Int × List UInt8 × Int)) × Int) ⊕ ((List (Int × Int × List UInt8 × Int)) ⊕ ((List (Int × Int × List UInt8 × Int)) × Int × Int)))
  | (x2, x3) => (if x3 < (p0.length : Int) then (ix p0 x3).bind fun x4 => (if (BO (x4.toNat : Int)) = 0 then some (.inl (x2, Co (x3 + 1))) else (if (BO (x4.toNat : Int)) = 4 then (GA p0 x3).bind fun x5 => some (.inl (x2, Co (x3 + x5))) else (Dg p0 x3).bind fun x6 => (if x6.1 = 0 then some (.inr (.inr (([] : List (Int × Int × List UInt8 × Int)), x3, 10))) else (if (x2.length : Int) = 500 then some (.inr (.inr (([] : List (Int × Int × List UInt8 × Int)), x3, 6))) else (Eo x2 ([x6] : List (Int × Int × List UInt8 × Int))).bind fun x7 => (if (BO (x4.toNat : Int)) = 3 then some (.inl (x7, Co (x3 + 1))) else (if (BO (x4.toNat : Int)) = 5 then some (.inl (x7, Co (x3 + 2))) else (E2 p0 x3).bind fun x8 => some (.inl (x7, Co (x3 + x8))))))))) else some (.inr (.inl x2)))
noncomputable def IL (p0 : List UInt8) : Option ((List (Int × Int × List UInt8 × Int)) × Int × Int) := (if 4000 < (p0.length : Int) then some (([] : List (Int × Int × List UInt8 × Int)), 0, 3) else J4 (Bx (CI p0) ([], 0)) fun x1 => (Eo x1 ([(4, 0, ([] : List UInt8), (p0.length : Int))] : List (Int × Int × List UInt8 × Int))).bind fun x9 => some (x9, 0, 0))
theorem Mu (Y : Nat → Prop) (w0 : World)  (p0 : List UInt8) (r : (List (Int × Int × List UInt8 × Int)) × Int × Int) (H : IL p0 = some r)  :
    Calls Tryd.prog 30 #[.string (bs p0)] w0 fun e w' => ∃ x : Value, e = .returned (.tuple #[x, .int .i64 r.2.1, .int .i64 r.2.2]) ∧ Stw ⟨Y, [], w0⟩ [] [row (x) 71 DA r.1] w' := by
 refine enter Tryd.func30 Aa Tryd.ntmps30 Aa fun a F => ?_
 have W := Stw.start Y w0
 unfold IL at H
 refine Ai (Ab ?_)
 iterate 3 refine ls F W Aa (Ag F Aa).q fun a w F W => ?_
 refine Ae (Ad (Ai (Ai (Ab ?_))))
 refine ls F W Aa (Ah F Aa).q fun a w F W => ?_
 refine ls F W Aa (DK (l := p0) Ho Aa F Aa).q fun a w F W => ?_
 refine ls F W Aa (JE F Aa Aa).q fun a w F W => ?_
 refine Ae (Ad ?_)
 refine Aw F Aa (fun hb => ?_) fun hb => ?_
 ·
  have H := AQ (BB hb) H
  rw [hb] at F
  clear hb
  refine Ai (Ab ?_)
  iterate 3 refine ls F W Aa (Ag F Aa).q fun a w F W => ?_
  refine Ae (Ad (Aq (AD ?_)))
  have H := AH H
  subst H
  refine CD (.inl Aa) F W Aa (Ap F Aa) (Ap F Aa) (Ap F Aa) ?_
  have W := W.nilRow 71 DA
  exact ⟨(Value.slice none 0 0), Aa, W⟩
 have H := AR (Bz hb) H
 rw [hb] at F
 clear hb
 refine Ax (Ad (Ai (Ab ?_)))
 refine ls F W Aa (Ag F Aa).q fun a w F W => ?_
 refine Ae (Ad (Ai (Ab ?_)))
 refine ls F W Aa (Ag F Aa).q fun a w F W => ?_
 refine Ae (Ad ?_)
 obtain ⟨o1, G1, K1, L1⟩ := O9 H
 refine Bd (fun a w => ∃ x1 : List (Int × Int × List UInt8 × Int), ∃ v1 : Value, some (Sum.inl x1) = some o1 ∧ Fr 65 [] [(0, .string (bs p0)), (2, .slice none 0 0), (3, .int .i64 0), (4, .int .i64 0), (5, v1)] a ∧ Stw ⟨Y, [], w0⟩ [] [row v1 71 DA x1] w) ?_ ?_
 ·
  have H := G1
  clear G1 K1
  refine AV ?_
  have W := W.nilRow 71 DA
  refine Cr H (fun s a w => ∃ v2 : Value, Fr 65 [] [(0, .string (bs p0)), (2, .slice none 0 0), (3, .int .i64 0), (4, .int .i64 0), (5, v2), (6, .int .i64 s.2)] a ∧ Stw ⟨Y, [], w0⟩ [] [row v2 71 DA s.1] w) ⟨(Value.slice none 0 0), F.re ⟨rfl, Aa, Aa, Aa, Aa, Aa, trivial⟩, W⟩ fun s o a w H L2 hR => ?_
  obtain ⟨x2, x3⟩ := s
  obtain ⟨v2, F, W⟩ := hR
  have F : Fr 65 [] [(0, .string (bs p0)), (2, .slice none 0 0), (3, .int .i64 0), (4, .int .i64 0), (5, v2), (6, .int .i64 x3)] a := F
  have W : Stw ⟨Y, [], w0⟩ [] [row v2 71 DA x2] w := W
  rw [CI] at H
  refine Ai (Ai (Ab ?_))
  iterate 2 refine ls F W Aa (Ah F Aa).q fun a w F W => ?_
  refine ls F W Aa (DK (l := p0) Ho Aa F Aa).q fun a w F W => ?_
  refine ls F W Aa (Fd F Aa Aa).q fun a w F W => ?_
  refine Ae (Ad ?_)
  refine Aw F Aa (fun hb => ?_) fun hb => ?_
  ·
   have H := AQ (BB hb) H
   rw [hb] at F
   clear hb
   refine Ax (Ad (AV (Ai (Ab ?_))))
   iterate 2 refine ls F W Aa (Ah F Aa).q fun a w F W => ?_
   obtain ⟨x4, h1, H⟩ := An H
   refine ls F W Aa (Ei (l := p0) Ho F Aa Aa h1).q fun a w F W => ?_
   refine ls F W Aa (A1 (v := Value.int .i64 (BO (x4.toNat : Int))) F Sz Aa (fun w W => HR any w (x4.toNat : Int) _ Aa)) fun a w F W => ?_
   refine ls F W Aa (Ag F Aa).q fun a w F W => ?_
   refine Ae (Ad (Ai (Ai (Ab ?_))))
   refine ls F W Aa (Ah F Aa).q fun a w F W => ?_
   refine ls F W Aa (Bn F Aa Aa).q fun a w F W => ?_
   refine Ae (Ad ?_)
   refine Aw F Aa (fun hb => ?_) fun hb => ?_
   ·
    have H := AQ (BB hb) H
    rw [hb] at F
    clear hb
    refine Ai (Ab ?_)
    refine ls F W Aa (Ah F Aa).q fun a w F W => ?_
    refine ls F W Aa (BT F Aa Aa Aa).q fun a w F W => ?_
    refine ls F W Aa (Ag F Aa).q fun a w F W => ?_
    refine Ae (Ad (Cl (CO (Ck (Ad ?_)))))
    exact ⟨_, H, (v2), F.re ⟨rfl, Aa, Aa, Aa, Aa, Aa, trivial⟩, W⟩
   have H := AR (Bz hb) H
   rw [hb] at F
   clear hb
   refine Ax (Ad (Ai (Ai (Ab ?_))))
   refine ls F W Aa (Ah F Aa).q fun a w F W => ?_
   refine ls F W Aa (Bn F Aa Aa).q fun a w F W => ?_
   refine Ae (Ad ?_)
   refine Aw F Aa (fun hb => ?_) fun hb => ?_
   ·
    have H := AQ (BB hb) H
    rw [hb] at F
    clear hb
    refine Ai (Ab ?_)
    iterate 3 refine ls F W Aa (Ah F Aa).q fun a w F W => ?_
    obtain ⟨x5, h2, H⟩ := An H
    refine ls F W Aa (A1 (v := Value.int .i64 x5) F TQ Aa (fun w W => M4 any w p0 x3 _ h2)) fun a w F W => ?_
    refine ls F W Aa (BT F Aa Aa Aa).q fun a w F W => ?_
    refine ls F W Aa (Ag F Aa).q fun a w F W => ?_
    refine Ae (Ad (Cl (CO (Ck (Ad ?_)))))
    exact ⟨_, H, (v2), F.re ⟨rfl, Aa, Aa, Aa, Aa, Aa, trivial⟩, W⟩
   have H := AR (Bz hb) H
   rw [hb] at F
   clear hb
   refine Ax (Ad (Ai (Ab ?_)))
   iterate 2 refine ls F W Aa (Ah F Aa).q fun a w F W => ?_
   obtain ⟨x6, h3, H⟩ := An H
   refine ls F W Aa (A1 (v := Value.agg #[.int .i64 x6.1, .int .i64 x6.2.1, .string (bs x6.2.2.1), .int .i64 x6.2.2.2]) F TH Aa (fun w W => Ng any w p0 x3 _ h3)) fun a w F W => ?_
   refine AU (cs := [.int .i64 0, .int .i64 0, .string (bs ([] : List UInt8)), .int .i64 0]) F W Aa SD Aa fun b1 a w F W => ?_
   refine Au (vs := [.int .i64 x6.1, .int .i64 x6.2.1, .string (bs x6.2.2.1), .int .i64 x6.2.2.2]) (M' := [(b1, [.int .i64 x6.1, .int .i64 x6.2.1, .string (bs x6.2.2.1), .int .i64 x6.2.2.2])]) 0 F W Aa Aa Aa PF Aa Aa Aa Aa Aa fun w W => ?_
   refine Ae (Ad (Ai (Ai (Ab ?_))))
   refine ls F W Aa (Ao Kv Aa Aa Aa T3 F Aa 0 Aa).q fun a w F W => ?_
   refine ls F W Aa (AJ (v := Value.int .i64 x6.1) 0 F Aa Aa T3 Aa).q fun a w F W => ?_
   refine ls F W Aa (Bn F Aa Aa).q fun a w F W => ?_
   refine Ae (Ad ?_)
   refine Aw F Aa (fun hb => ?_) fun hb => ?_
   ·
    have H := AQ (BB hb) H
    rw [hb] at F
    clear hb
    refine Ai (Ab ?_)
    refine ls F W Aa (Ah F Aa).q fun a w F W => ?_
    iterate 3 refine ls F W Aa (Ag F Aa).q fun a w F W => ?_
    refine Ae (Ad (Aq (AD (A5 (AD (A5 (AD ?_)))))))
    have H := L2 _ H
    have H := L1 _ H
    have H := AH H
    subst H
    refine CD (.inl Aa) F W Aa (Ap F Aa) (Ap F Aa) (Ap F Aa) ?_
    have W := W.nilRow 71 DA
    have W := W.sub (M' := []) (Z' := [row (Value.slice none 0 0) 71 DA ([])]) (List.nil_sublist _) (List.Sublist.cons_cons _ (List.nil_sublist _))
    exact ⟨(Value.slice none 0 0), Aa, W⟩
   have H := AR (Bz hb) H
   rw [hb] at F
   clear hb
   refine Ax (Ad (Ai (Ai (Ab ?_))))
   refine ls F W Aa (Ah F Aa).q fun a w F W => ?_
   refine ls F W Aa (E4 (r := DA) (l := x2) Sg Aa F Aa (Bq 0 Aa)).q fun a w F W => ?_
   refine ls F W Aa (Bn F Aa Aa).q fun a w F W => ?_
   refine Ae (Ad ?_)
   refine Aw F Aa (fun hb => ?_) fun hb => ?_
   ·
    have H := AQ (BB hb) H
    rw [hb] at F
    clear hb
    refine Ai (Ab ?_)
    refine ls F W Aa (Ah F Aa).q fun a w F W => ?_
    iterate 3 refine ls F W Aa (Ag F Aa).q fun a w F W => ?_
    refine Ae (Ad (Aq (AD (A5 (AD (A5 (AD ?_)))))))
    have H := L2 _ H
    have H := L1 _ H
    have H := AH H
    subst H
    refine CD (.inl Aa) F W Aa (Ap F Aa) (Ap F Aa) (Ap F Aa) ?_
    have W := W.nilRow 71 DA
    have W := W.sub (M' := []) (Z' := [row (Value.slice none 0 0) 71 DA ([])]) (List.nil_sublist _) (List.Sublist.cons_cons _ (List.nil_sublist _))
    exact ⟨(Value.slice none 0 0), Aa, W⟩
   have H := AR (Bz hb) H
   rw [hb] at F
   clear hb
   refine Ax (Ad (Ai (Ab ?_)))
   refine ls F W Aa (Ah F Aa).q fun a w F W => ?_
   refine ls F W Aa (AJ (v := Value.agg #[.int .i64 x6.1, .int .i64 x6.2.1, .string (bs x6.2.2.1), .int .i64 x6.2.2.2]) 0 F Aa Aa PF Aa).q fun a w F W => ?_
   refine Dj (z := Value.agg #[.int .i64 0, .int .i64 0, .string (bs ([] : List UInt8)), .int .i64 0]) (cs := [.int .i64 x6.1, .int .i64 x6.2.1, .string (bs x6.2.2.1), .int .i64 x6.2.2.2]) DA ([x6] : List (Int × Int × List UInt8 × Int)) F W Aa Oz SD Aa Aa Aa Aa Aa Aa (Pz.repL _ _ ([x6] : List (Int × Int × List UInt8 × Int))) fun v3 a w F W => ?_
   obtain ⟨x7, h4, H⟩ := An H
   refine CU (r := DA) (i := 1) F W Aa Oz Aa Aa Aa Aa (DD W 0 Aa) h4 Aa fun v4 a w F W => ?_
   have W : Stw ⟨Y, [], w0⟩ [(b1, [.int .i64 x6.1, .int .i64 x6.2.1, .string (bs x6.2.2.1), .int .i64 x6.2.2.2])] [row v4 71 DA x7, row v3 71 DA ([x6] : List (Int × Int × List UInt8 × Int))] w := W
   refine ls F W Aa (Ag F Aa).q fun a w F W => ?_
   refine Ae (Ad (Ai (Ab ?_)))
   refine ls F W Aa (Ah F Aa).q fun a w F W => ?_
   refine ls F W Aa (Bn F Aa Aa).q fun a w F W => ?_
   refine Ae (Ad ?_)
   refine Aw F Aa (fun hb => ?_) fun hb => ?_
   ·
    have H := AQ (BB hb) H
    rw [hb] at F
    clear hb
    refine Ab ?_
    refine ls F W Aa (Ah F Aa).q fun a w F W => ?_
    refine ls F W Aa (BT F Aa Aa Aa).q fun a w F W => ?_
    refine ls F W Aa (Ag F Aa).q fun a w F W => ?_
    refine Ae (Bw (Ad ?_))
    have W := W.sub (M' := []) (Z' := [row v4 71 DA x7]) (List.nil_sublist _) (List.Sublist.cons_cons _ (List.nil_sublist _))
    exact ⟨_, H, (v4), F.re ⟨rfl, Aa, Aa, Aa, Aa, Aa, trivial⟩, W⟩
   have H := AR (Bz hb) H
   rw [hb] at F
   clear hb
   refine Ai (Ab ?_)
   refine ls F W Aa (Ah F Aa).q fun a w F W => ?_
   refine ls F W Aa (Bn F Aa Aa).q fun a w F W => ?_
   refine Ae (Ad ?_)
   refine Aw F Aa (fun hb => ?_) fun hb => ?_
   ·
    have H := AQ (BB hb) H
    rw [hb] at F
    clear hb
    refine Ab ?_
    refine ls F W Aa (Ah F Aa).q fun a w F W => ?_
    refine ls F W Aa (BT F Aa Aa Aa).q fun a w F W => ?_
    refine ls F W Aa (Ag F Aa).q fun a w F W => ?_
    refine Ae (Bw (Ad ?_))
    have W := W.sub (M' := []) (Z' := [row v4 71 DA x7]) (List.nil_sublist _) (List.Sublist.cons_cons _ (List.nil_sublist _))
    exact ⟨_, H, (v4), F.re ⟨rfl, Aa, Aa, Aa, Aa, Aa, trivial⟩, W⟩
   have H := AR (Bz hb) H
   rw [hb] at F
   clear hb
   refine Ab ?_
   iterate 3 refine ls F W Aa (Ah F Aa).q fun a w F W => ?_
   obtain ⟨x8, h5, H⟩ := An H
   refine ls F W Aa (A1 (v := Value.int .i64 x8) F SP Aa (fun w W => Jt any w p0 x3 _ h5)) fun a w F W => ?_
   refine ls F W Aa (BT F Aa Aa Aa).q fun a w F W => ?_
   refine ls F W Aa (Ag F Aa).q fun a w F W => ?_
   refine Ae (Bw (Ad ?_))
   have W := W.sub (M' := []) (Z' := [row v4 71 DA x7]) (List.nil_sublist _) (List.Sublist.cons_cons _ (List.nil_sublist _))
   exact ⟨_, H, (v4), F.re ⟨rfl, Aa, Aa, Aa, Aa, Aa, trivial⟩, W⟩
  have H := AR (Bz hb) H
  rw [hb] at F
  clear hb
  refine Cl ?_
  iterate 2 refine CO ?_
  refine Ck (Ad ?_)
  have H := L2 _ H
  exact ⟨_, (v2), H, F.re ⟨rfl, Aa, Aa, Aa, Aa, trivial⟩, W⟩
 rintro a w ⟨x1, v1, hj, F, W⟩
 have H := K1 _ hj
 clear hj G1 K1 L1
 refine Ai (Ab ?_)
 iterate 2 refine ls F W Aa (Ah F Aa).q fun a w F W => ?_
 refine ls F W Aa (DK (l := p0) Ho Aa F Aa).q fun a w F W => ?_
 refine ls F W Aa (Ba (v := Value.agg #[.int .i64 4, .int .i64 0, .string (bs ([] : List UInt8)), .int .i64 (p0.length : Int)]) RX F Aa Aa Aa).q fun a w F W => ?_
 refine Dj (z := Value.agg #[.int .i64 0, .int .i64 0, .string (bs ([] : List UInt8)), .int .i64 0]) (cs := [.int .i64 4, .int .i64 0, .string (bs ([] : List UInt8)), .int .i64 (p0.length : Int)]) DA ([(4, 0, ([] : List UInt8), (p0.length : Int))] : List (Int × Int × List UInt8 × Int)) F W Aa Oz SD Aa Aa Aa Aa Aa Aa (Pz.repL _ _ ([(4, 0, ([] : List UInt8), (p0.length : Int))] : List (Int × Int × List UInt8 × Int))) fun v5 a w F W => ?_
 obtain ⟨x9, h6, H⟩ := An H
 refine CU (r := DA) (i := 1) F W Aa Oz Aa Aa Aa Aa (DD W 0 Aa) h6 Aa fun v6 a w F W => ?_
 have W : Stw ⟨Y, [], w0⟩ [] [row v6 71 DA x9, row v5 71 DA ([(4, 0, ([] : List UInt8), (p0.length : Int))] : List (Int × Int × List UInt8 × Int))] w := W
 iterate 3 refine ls F W Aa (Ag F Aa).q fun a w F W => ?_
 refine Ae (Ad (Aq ?_))
 have H := AH H
 subst H
 refine CD (.inl Aa) F W Aa (Ap F Aa) (Ap F Aa) (Ap F Aa) ?_
 have W := W.sub (M' := []) (Z' := [row v6 71 DA x9]) (List.Sublist.refl _) (List.Sublist.cons_cons _ (List.nil_sublist _))
 exact ⟨(v6), Aa, W⟩
theorem H5 : type_of% Tryd.underlying37 := Tryd.underlying37
theorem Tb : Has Tryd.prog 30 := ⟨fun args w => Al Tryd.func30 rfl (by decide) args w⟩
theorem Qo : Bt Tryd.prog 37 [.int .i64 0, .int .i64 0, .int .i64 0, .int .i64 0, .slice none 0 0, .int .i64 0, .int .i64 0, .slice none 0 0] [(0, 1), (1, 4), (5, 1), (6, 1), (7, 1)] := ⟨⟨.agg #[.int .i64 0, .int .i64 0, .int .i64 0, .int .i64 0, .slice none 0 0, .int .i64 0, .int .i64 0, .slice none 0 0], by kernel_rfl, rfl⟩, ⟨_, H5, fun w => by kernel_rfl⟩⟩
theorem EU : Ty Tryd.prog 37 true 8 := ⟨by kernel_rfl, by kernel_rfl⟩
inductive Tr34 : Type where
  | mk : Int → Int → Int → (List Tr34) → Tr34
def Tr34.un : Tr34 → Int × Int × Int × List Tr34
  | .mk a0 a1 a2 a3 => (a0, a1, a2, a3)
abbrev Tr34.of (p : Int × Int × Int × List Tr34) : Tr34 := .mk p.1 p.2.1 p.2.2.1 p.2.2.2
def Tr34.cnt : Tr34 → Nat
  | .mk _ _ _ a3 => 1 + ((a3.map Tr34.cnt).sum)
inductive Tr37 : Type where
  | mk : Int → Tr34 → Int → Int → (List Tr37) → Tr37
def Tr37.un : Tr37 → Int × Tr34 × Int × Int × List Tr37
  | .mk a0 a1 a2 a3 a4 => (a0, a1, a2, a3, a4)
abbrev Tr37.of (p : Int × Tr34 × Int × Int × List Tr37) : Tr37 := .mk p.1 p.2.1 p.2.2.1 p.2.2.2.1 p.2.2.2.2
def Tr37.cnt : Tr37 → Nat
  | .mk _ a1 _ _ a4 => 1 + (a1.cnt + (a4.map Tr37.cnt).sum)
noncomputable def CJ (p0 : List (Int × Int × List UInt8 × Int)) (p1 : Int) (p2 : List UInt8) : Option Bool := ((ix p0 p1).bind fun x2 => (if x2.1 = 1 then (ix p0 p1).bind fun x3 => some (decide (x3.2.2.1 = p2)) else (ix p0 p1).bind fun x4 => (if x4.1 = 3 then (ix p0 p1).bind fun x5 => some (decide (x5.2.2.1 = p2)) else some false))).bind fun x1 => some x1
theorem Cu (Y : Nat → Prop) (w0 : World) (v1 : Value) (p0 : List (Int × Int × List UInt8 × Int)) (p1 : Int) (p2 : List UInt8) (r : Bool) (H : CJ p0 p1 p2 = some r) (h_v1 : Sl w0 (NX []) DA v1 p0) :
    Calls Tryd.prog 66 #[v1, .int .i64 p1, .string (bs p2)] w0 fun e w' => e = .returned (.bool r) ∧ Below w0.heap.size w0 w' := by
 refine enter Tryd.func66 Aa Tryd.ntmps66 Aa fun a F => ?_
 have W := Stw.start Y w0
 unfold CJ at H
 refine Ai (Ab ?_)
 refine ls F W Aa (Ag F Aa).q fun a w F W => ?_
 refine Ae (Ad ?_)
 obtain ⟨o1, G1, K1⟩ := An H
 refine Bd (fun a w => ∃ x1 : Bool, some (x1) = some o1 ∧ Fr 30 [] [(6, .bool x1)] a ∧ Stw ⟨Y, [], w0⟩ [] [] w) ?_ ?_
 ·
  have H := G1
  clear G1 K1
  refine Ab ?_
  iterate 2 refine ls F W Aa (Ah F Aa).q fun a w F W => ?_
  obtain ⟨x2, h1, H⟩ := An H
  refine ls F W Aa (CE (r := DA) Oz F Aa Aa (AG h_v1) h1).q fun a w F W => ?_
  refine ls F W Aa (Ao Kv Aa Aa Aa T3 F Aa (Hq v1 + (p1).toNat * 4) Aa).q fun a w F W => ?_
  refine ls F W Aa (BV (y := Value.int .i64 x2.1) (j := 0) (i := p1) F Aa Aa (AG h_v1) h1 Pz.to T3 Aa).q fun a w F W => ?_
  refine ls F W Aa (Bn F Aa Aa).q fun a w F W => ?_
  refine ls F W Aa (Ah F Aa).q fun a w F W => ?_
  rcases Bool.eq_false_or_eq_true (decide (x2.1 = 1)) with hb | hb
  ·
   have H := AQ (BB hb) H
   rw [hb] at F
   clear hb
   iterate 6 refine Ec F Aa Aa Aa Aa Aa Aa Aa fun a F => ?_
   refine ls F W Aa (AE F Aa Aa Aa).q fun a w F W => ?_
   refine ls F W Aa (Ah F Aa).q fun a w F W => ?_
   iterate 2 refine AX F W (Ak F Aa Aa Aa Aa) Aa (Ay Aa) (Ah F Aa).q fun a w F W => ?_
   obtain ⟨x3, h2, H⟩ := An H
   refine AX F W (Ak F Aa Aa Aa Aa) Aa (Ay Aa) (CE (r := DA) Oz F Aa Aa (AG h_v1) h2).q fun a w F W => ?_
   refine AX F W (Ak F Aa Aa Aa Aa) Aa (Ay Aa) (Ao Kv Aa Aa Aa T9 F Aa (Hq v1 + (p1).toNat * 4 + 2) Aa).q fun a w F W => ?_
   refine AX F W (Ak F Aa Aa Aa Aa) Aa (Ay Aa) (BV (y := Value.string (bs x3.2.2.1)) (j := 2) (i := p1) F Aa Aa (AG h_v1) h2 Pz.to T9 Aa).q fun a w F W => ?_
   refine AX F W (Ak F Aa Aa Aa Aa) Aa (Ay Aa) (Ah F Aa).q fun a w F W => ?_
   refine AX F W (Ak F Aa Aa Aa Aa) Aa (Ay Aa) (Iw (l := x3.2.2.1) (m := p2) F Aa Aa).q fun a w F W => ?_
   refine ls F W Aa (AE F Aa Aa Aa).q fun a w F W => ?_
   refine ls F W Aa (Ag F Aa).q fun a w F W => ?_
   refine Ae (Ad ?_)
   exact ⟨_, H, F.re ⟨rfl, trivial⟩, W⟩
  have H := AR (Bz hb) H
  rw [hb] at F
  clear hb
  iterate 2 refine AX F W (Ak F Aa Aa Aa Aa) Aa (Ay Aa) (Ah F Aa).q fun a w F W => ?_
  obtain ⟨x4, h3, H⟩ := An H
  refine AX F W (Ak F Aa Aa Aa Aa) Aa (Ay Aa) (CE (r := DA) Oz F Aa Aa (AG h_v1) h3).q fun a w F W => ?_
  refine AX F W (Ak F Aa Aa Aa Aa) Aa (Ay Aa) (Ao Kv Aa Aa Aa T3 F Aa (Hq v1 + (p1).toNat * 4) Aa).q fun a w F W => ?_
  refine AX F W (Ak F Aa Aa Aa Aa) Aa (Ay Aa) (BV (y := Value.int .i64 x4.1) (j := 0) (i := p1) F Aa Aa (AG h_v1) h3 Pz.to T3 Aa).q fun a w F W => ?_
  refine AX F W (Ak F Aa Aa Aa Aa) Aa (Ay Aa) (Bn F Aa Aa).q fun a w F W => ?_
  refine ls F W Aa (AN F Aa Aa Aa).q fun a w F W => ?_
  refine ls F W Aa (Ah F Aa).q fun a w F W => ?_
  rcases Bool.eq_false_or_eq_true (decide (x4.1 = 3)) with hb | hb
  ·
   have H := AQ (BB hb) H
   rw [hb] at F
   clear hb
   iterate 2 refine AX F W (Ak F Aa Aa Aa Aa) Aa (Ay Aa) (Ah F Aa).q fun a w F W => ?_
   obtain ⟨x5, h4, H⟩ := An H
   refine AX F W (Ak F Aa Aa Aa Aa) Aa (Ay Aa) (CE (r := DA) Oz F Aa Aa (AG h_v1) h4).q fun a w F W => ?_
   refine AX F W (Ak F Aa Aa Aa Aa) Aa (Ay Aa) (Ao Kv Aa Aa Aa T9 F Aa (Hq v1 + (p1).toNat * 4 + 2) Aa).q fun a w F W => ?_
   refine AX F W (Ak F Aa Aa Aa Aa) Aa (Ay Aa) (BV (y := Value.string (bs x5.2.2.1)) (j := 2) (i := p1) F Aa Aa (AG h_v1) h4 Pz.to T9 Aa).q fun a w F W => ?_
   refine AX F W (Ak F Aa Aa Aa Aa) Aa (Ay Aa) (Ah F Aa).q fun a w F W => ?_
   refine AX F W (Ak F Aa Aa Aa Aa) Aa (Ay Aa) (Iw (l := x5.2.2.1) (m := p2) F Aa Aa).q fun a w F W => ?_
   refine ls F W Aa (AE F Aa Aa Aa).q fun a w F W => ?_
   refine ls F W Aa (Ag F Aa).q fun a w F W => ?_
   refine Ae (Ad ?_)
   exact ⟨_, H, F.re ⟨rfl, trivial⟩, W⟩
  have H := AR (Bz hb) H
  rw [hb] at F
  clear hb
  iterate 7 refine Ec F Aa Aa Aa Aa Aa Aa Aa fun a F => ?_
  refine ls F W Aa (AN F Aa Aa Aa).q fun a w F W => ?_
  refine ls F W Aa (Ag F Aa).q fun a w F W => ?_
  refine Ae (Ad ?_)
  exact ⟨_, H, F.re ⟨rfl, trivial⟩, W⟩
 rintro a w ⟨x1, hj, F, W⟩
 have hj := AH hj
 subst hj
 have H := K1
 clear G1 K1
 refine Aq ?_
 have H := AH H
 subst H
 refine AP (.inl Aa) F W Aa (Ap F Aa) ?_
 exact ⟨rfl, W.done⟩
theorem Pt : type_of% Tryd.underlying32 := Tryd.underlying32
theorem Jy : type_of% Tryd.underlying34 := Tryd.underlying34
theorem M9 : Has Tryd.prog 66 := ⟨fun args w => Al Tryd.func66 rfl (by decide) args w⟩
theorem PW : Bt Tryd.prog 34 [.int .i64 0, .int .i64 0, .int .i64 0, .slice none 0 0] [(0, 1), (1, 1), (2, 1), (3, 1)] := ⟨⟨.agg #[.int .i64 0, .int .i64 0, .int .i64 0, .slice none 0 0], by kernel_rfl, rfl⟩, ⟨_, Jy, fun w => by kernel_rfl⟩⟩
theorem Ms : (Tryd.prog.info? 34).bind (·.zero) = some (.agg #[.int .i64 0, .int .i64 0, .int .i64 0, .slice none 0 0]) := by kernel_rfl
theorem Fh : Ty Tryd.prog 34 true 4 := ⟨by kernel_rfl, by kernel_rfl⟩
abbrev RD (r : Rp Tr34) : Rp (Int × Int × Int × List Tr34) := (Rp.pair (Rp.int .i64) (Rp.pair (Rp.int .i64) (Rp.pair (Rp.int .i64) (Rp.slice r))))
theorem QK : Kt RD := (Kt.pair (Kt.const _) (Kt.pair (Kt.const _) (Kt.pair (Kt.const _) Kt.hole)))
abbrev A9 : Rp Tr34 := Rp.knot RD Tr34.un QK
theorem J1 {w : World} {A : Nat → Prop} {cs : List Value} {a : Tr34} : A9.rep w A cs a ↔ (RD A9).rep w A cs a.un := Hw QK
theorem S3 : Has Tryd.prog 90 := ⟨fun args w => Al Tryd.func90 rfl (by decide) args w⟩
theorem Qq : Et Tryd.prog 32 34 4 48 := Et.of Pt (by kernel_rfl) (by kernel_rfl) (by kernel_rfl) (by decide)
theorem So : Has Tryd.prog 34 := ⟨fun args w => Al Tryd.func34 rfl (by decide) args w⟩
noncomputable def JC (p0 : Int) : Option (List UInt8) := (ix ([([115, 114, 99] : List UInt8), ([100, 115, 116] : List UInt8), ([107, 105, 110, 100] : List UInt8), ([116, 97, 103] : List UInt8), ([112, 111, 114, 116] : List UInt8), ([115, 119, 105, 116, 99, 104] : List UInt8)] : List (List UInt8)) p0).bind fun x1 => some x1
theorem N0 (Y : Nat → Prop) (w0 : World)  (p0 : Int) (r : List UInt8) (H : JC p0 = some r)  :
    Calls Tryd.prog 39 #[.int .i64 p0] w0 fun e w' => e = .returned (.string (bs r)) ∧ Below w0.heap.size w0 w' := by
 refine enter Tryd.func39 Aa Tryd.ntmps39 Aa fun a F => ?_
 have W := Stw.start Y w0
 unfold JC at H
 refine Ai (Ab ?_)
 refine ls F W Aa (Ag (v := Value.string (bs ([] : List UInt8))) F Aa).q fun a w F W => ?_
 refine Ae (Ad (Ai (Ab ?_)))
 refine Dj (z := Value.string (bs ([] : List UInt8))) (cs := [.string (bs ([115, 114, 99] : List UInt8)), .string (bs ([100, 115, 116] : List UInt8)), .string (bs ([107, 105, 110, 100] : List UInt8)), .string (bs ([116, 97, 103] : List UInt8)), .string (bs ([112, 111, 114, 116] : List UInt8)), .string (bs ([115, 119, 105, 116, 99, 104] : List UInt8))]) Rp.str ([([115, 114, 99] : List UInt8), ([100, 115, 116] : List UInt8), ([107, 105, 110, 100] : List UInt8), ([116, 97, 103] : List UInt8), ([112, 111, 114, 116] : List UInt8), ([115, 119, 105, 116, 99, 104] : List UInt8)] : List (List UInt8)) F W Aa R1 Z9 Aa Aa Aa Aa Aa Aa (Fl.str.repL _ _ ([([115, 114, 99] : List UInt8), ([100, 115, 116] : List UInt8), ([107, 105, 110, 100] : List UInt8), ([116, 97, 103] : List UInt8), ([112, 111, 114, 116] : List UInt8), ([115, 119, 105, 116, 99, 104] : List UInt8)] : List (List UInt8))) fun v1 a w F W => ?_
 refine ls F W Aa (Ah F Aa).q fun a w F W => ?_
 obtain ⟨x1, h1, H⟩ := An H
 refine ls F W Aa (CE (r := Rp.str) R1 F Aa Aa (Bq 0 Aa) h1).q fun a w F W => ?_
 refine ls F W Aa (BV (y := Value.string (bs x1)) (j := 0) (i := p0) F Aa Aa (Bq 0 Aa) h1 Fl.str.to T9 Aa).q fun a w F W => ?_
 refine ls F W Aa (Ag F Aa).q fun a w F W => ?_
 refine Ae (Ad (Aq ?_))
 have H := AH H
 subst H
 refine AP (.inl Aa) F W Aa (Ap F Aa) ?_
 exact ⟨rfl, W.done⟩
theorem TO : Has Tryd.prog 39 := ⟨fun args w => Al Tryd.func39 rfl (by decide) args w⟩
noncomputable def Ft (p0 : List (Int × Int × List UInt8 × Int)) (p1 : Int) (p2 : Int) : Int → Option (Int ⊕ (Unit ⊕ Int))
  | x1 => (if x1 < p2 then (JC x1).bind fun x2 => (CJ p0 p1 x2).bind fun x3 => (if x3 = true then some (.inr (.inr x1)) else some (.inl (Co (x1 + 1)))) else some (.inr (.inl ())))
noncomputable def Hp (p0 : List (Int × Int × List UInt8 × Int)) (p1 : Int) (p2 : Int) : Option Int := J4 (Bx (Ft p0 p1 p2) 0) fun _ => some (-1)
theorem Nr (Y : Nat → Prop) (w0 : World) (v1 : Value) (p0 : List (Int × Int × List UInt8 × Int)) (p1 : Int) (p2 : Int) (r : Int) (H : Hp p0 p1 p2 = some r) (h_v1 : Sl w0 (NX []) DA v1 p0) :
    Calls Tryd.prog 120 #[v1, .int .i64 p1, .int .i64 p2] w0 fun e w' => e = .returned (.int .i64 r) ∧ Below w0.heap.size w0 w' := by
 refine enter Tryd.func120 Aa Tryd.ntmps120 Aa fun a F => ?_
 have W := Stw.start Y w0
 unfold Hp at H
 refine Ai (Ab ?_)
 refine ls F W Aa (Ag F Aa).q fun a w F W => ?_
 refine Ae (Ad ?_)
 obtain ⟨o1, G1, K1, L1⟩ := O9 H
 refine Bd (fun a w => some (Sum.inl ()) = some o1 ∧ Fr 19 [] [(6, .int .i64 0)] a ∧ Stw ⟨Y, [], w0⟩ [] [] w) ?_ ?_
 ·
  have H := G1
  clear G1 K1
  refine Ai (Ab ?_)
  refine ls F W Aa (Ag F Aa).q fun a w F W => ?_
  refine Ae (Ad (AV ?_))
  refine Cr H (fun s a w => Fr 19 [] [(0, v1), (1, .int .i64 p1), (2, .int .i64 p2), (6, .int .i64 0), (7, .int .i64 s)] a ∧ Stw ⟨Y, [], w0⟩ [] [] w) ⟨F.re ⟨rfl, Aa, Aa, Aa, Aa, trivial⟩, W⟩ fun s o a w H L2 hR => ?_
  obtain ⟨x1, rfl⟩ : ∃ x, x = s := ⟨s, rfl⟩
  obtain ⟨F, W⟩ := hR
  have F : Fr 19 [] [(0, v1), (1, .int .i64 p1), (2, .int .i64 p2), (6, .int .i64 0), (7, .int .i64 x1)] a := F
  have W : Stw ⟨Y, [], w0⟩ [] [] w := W
  rw [Ft] at H
  refine Ai (Ai (Ab ?_))
  iterate 2 refine ls F W Aa (Ah F Aa).q fun a w F W => ?_
  refine ls F W Aa (Fd F Aa Aa).q fun a w F W => ?_
  refine Ae (Ad ?_)
  refine Aw F Aa (fun hb => ?_) fun hb => ?_
  ·
   have H := AQ (BB hb) H
   rw [hb] at F
   clear hb
   refine Ax (Ad (Ai (AV (Ai (Ab ?_)))))
   iterate 3 refine ls F W Aa (Ah F Aa).q fun a w F W => ?_
   obtain ⟨x2, h1, H⟩ := An H
   refine ls F W Aa (A1 (v := Value.string (bs x2)) F TO Aa (fun w W => N0 any w x1 _ h1)) fun a w F W => ?_
   obtain ⟨x3, h2, H⟩ := An H
   refine ls F W Aa (A1 (v := Value.bool x3) F M9 Aa (fun w W => Cu any w (v1) p0 p1 x2 _ h2 (((AG h_v1) : EN _ _ _ _ _ _) w W).nx)) fun a w F W => ?_
   refine Ae (Ad ?_)
   refine Aw F Aa (fun hb => ?_) fun hb => ?_
   ·
    have H := AQ hb H
    rw [hb] at F
    clear hb
    refine Ai (Ab ?_)
    refine ls F W Aa (Ah F Aa).q fun a w F W => ?_
    refine ls F W Aa (Ag F Aa).q fun a w F W => ?_
    refine Ae (Ad (Aq (A5 ?_)))
    iterate 2 refine AD ?_
    refine A5 (AD ?_)
    have H := L2 _ H
    have H := L1 _ H
    have H := AH H
    subst H
    refine AP (.inl Aa) F W Aa (Ap F Aa) ?_
    exact ⟨rfl, W.done⟩
   have H := AR (by rw [hb]; decide) H
   rw [hb] at F
   clear hb
   refine Ax (Bw (Ad (Ab ?_)))
   refine ls F W Aa (Ah F Aa).q fun a w F W => ?_
   refine ls F W Aa (BT F Aa Aa Aa).q fun a w F W => ?_
   refine ls F W Aa (Ag F Aa).q fun a w F W => ?_
   refine Ae (Ad ?_)
   exact ⟨_, H, F.re ⟨rfl, Aa, Aa, Aa, Aa, trivial⟩, W⟩
  have H := AR (Bz hb) H
  rw [hb] at F
  clear hb
  refine Cl ?_
  iterate 2 refine CO ?_
  refine Ck (Ad ?_)
  have H := L2 _ H
  exact ⟨H, F.re ⟨rfl, trivial⟩, W⟩
 rintro a w ⟨hj, F, W⟩
 have H := K1 _ hj
 clear hj G1 K1 L1
 refine Ai (Ab ?_)
 refine ls F W Aa (Ag F Aa).q fun a w F W => ?_
 refine Ae (Ad (Aq ?_))
 have H := AH H
 subst H
 refine AP (.inl Aa) F W Aa (Ap F Aa) ?_
 exact ⟨rfl, W.done⟩
theorem SJ : Has Tryd.prog 120 := ⟨fun args w => Al Tryd.func120 rfl (by decide) args w⟩
noncomputable def D8 (p0 : List (Int × Int × List UInt8 × Int)) (p1 : Int) (p2 : Int) (p3 : List UInt8) : Option (Int × Int × Int × Bool) := (Hp p0 p1 p2).bind fun x1 => (if x1 = (-1) then some (0, 0, p1, false) else (CJ p0 (Co (p1 + 1)) p3).bind fun x2 => (if (!x2) = true then some (0, 0, Co (p1 + 1), false) else (ix p0 (Co (p1 + 2))).bind fun x3 => (if x3.1 ≠ 2 then some (0, 0, Co (p1 + 2), false) else (ix p0 (Co (p1 + 2))).bind fun x4 => some (x1, x4.2.1, Co (p1 + 3), true))))
theorem Jz (Y : Nat → Prop) (w0 : World) (v1 : Value) (p0 : List (Int × Int × List UInt8 × Int)) (p1 : Int) (p2 : Int) (p3 : List UInt8) (r : Int × Int × Int × Bool) (H : D8 p0 p1 p2 p3 = some r) (h_v1 : Sl w0 (NX []) DA v1 p0) :
    Calls Tryd.prog 109 #[v1, .int .i64 p1, .int .i64 p2, .string (bs p3)] w0 fun e w' => e = .returned (.tuple #[.int .i64 r.1, .int .i64 r.2.1, .int .i64 r.2.2.1, .bool r.2.2.2]) ∧ Below w0.heap.size w0 w' := by
 refine enter Tryd.func109 Aa Tryd.ntmps109 Aa fun a F => ?_
 have W := Stw.start Y w0
 unfold D8 at H
 refine Ai (Ab ?_)
 iterate 4 refine ls F W Aa (Ag F Aa).q fun a w F W => ?_
 refine Ae (Ad (Ai (Ab ?_)))
 iterate 3 refine ls F W Aa (Ah F Aa).q fun a w F W => ?_
 obtain ⟨x1, h1, H⟩ := An H
 refine ls F W Aa (A1 (v := Value.int .i64 x1) F SJ Aa (fun w W => Nr any w (v1) p0 p1 p2 _ h1 (((AG h_v1) : EN _ _ _ _ _ _) w W).nx)) fun a w F W => ?_
 refine ls F W Aa (Ag F Aa).q fun a w F W => ?_
 refine Ae (Ad (Ai (Ai (Ab ?_))))
 refine ls F W Aa (Ah F Aa).q fun a w F W => ?_
 refine ls F W Aa (Bn F Aa Aa).q fun a w F W => ?_
 refine Ae (Ad ?_)
 refine Aw F Aa (fun hb => ?_) fun hb => ?_
 ·
  have H := AQ (BB hb) H
  rw [hb] at F
  clear hb
  refine Ai (Ab ?_)
  refine ls F W Aa (Ah F Aa).q fun a w F W => ?_
  iterate 4 refine ls F W Aa (Ag F Aa).q fun a w F W => ?_
  refine Ae (Ad (Aq (AD ?_)))
  have H := AH H
  subst H
  refine OG (.inl Aa) F W Aa (Ap F Aa) (Ap F Aa) (Ap F Aa) (Ap F Aa) ?_
  exact ⟨rfl, W.done⟩
 have H := AR (Bz hb) H
 rw [hb] at F
 clear hb
 refine Ax (Ad (Ai (Ai (Ab ?_))))
 iterate 2 refine ls F W Aa (Ah F Aa).q fun a w F W => ?_
 refine ls F W Aa (BT F Aa Aa Aa).q fun a w F W => ?_
 refine ls F W Aa (Ah F Aa).q fun a w F W => ?_
 obtain ⟨x2, h2, H⟩ := An H
 refine ls F W Aa (A1 (v := Value.bool x2) F M9 Aa (fun w W => Cu any w (v1) p0 (Co (p1 + 1)) p3 _ h2 (((AG h_v1) : EN _ _ _ _ _ _) w W).nx)) fun a w F W => ?_
 refine ls F W Aa (FH F Aa).q fun a w F W => ?_
 refine Ae (Ad ?_)
 refine Aw F Aa (fun hb => ?_) fun hb => ?_
 ·
  have H := AQ hb H
  rw [hb] at F
  clear hb
  refine Ai (Ab ?_)
  refine ls F W Aa (Ah F Aa).q fun a w F W => ?_
  refine ls F W Aa (BT F Aa Aa Aa).q fun a w F W => ?_
  iterate 4 refine ls F W Aa (Ag F Aa).q fun a w F W => ?_
  refine Ae (Ad (Aq (AD ?_)))
  have H := AH H
  subst H
  refine OG (.inl Aa) F W Aa (Ap F Aa) (Ap F Aa) (Ap F Aa) (Ap F Aa) ?_
  exact ⟨rfl, W.done⟩
 have H := AR (by rw [hb]; decide) H
 rw [hb] at F
 clear hb
 refine Ax (Ad (Ai (Ai (Ab ?_))))
 iterate 2 refine ls F W Aa (Ah F Aa).q fun a w F W => ?_
 refine ls F W Aa (BT F Aa Aa Aa).q fun a w F W => ?_
 obtain ⟨x3, h3, H⟩ := An H
 refine ls F W Aa (CE (r := DA) Oz F Aa Aa (AG h_v1) h3).q fun a w F W => ?_
 refine ls F W Aa (Ao Kv Aa Aa Aa T3 F Aa (Hq v1 + (Co (p1 + 2)).toNat * 4) Aa).q fun a w F W => ?_
 refine ls F W Aa (BV (y := Value.int .i64 x3.1) (j := 0) (i := Co (p1 + 2)) F Aa Aa (AG h_v1) h3 Pz.to T3 Aa).q fun a w F W => ?_
 refine ls F W Aa (Ev F Aa Aa).q fun a w F W => ?_
 refine Ae (Ad ?_)
 refine Aw F Aa (fun hb => ?_) fun hb => ?_
 ·
  have H := AQ (BB hb) H
  rw [hb] at F
  clear hb
  refine Ai (Ab ?_)
  refine ls F W Aa (Ah F Aa).q fun a w F W => ?_
  refine ls F W Aa (BT F Aa Aa Aa).q fun a w F W => ?_
  iterate 4 refine ls F W Aa (Ag F Aa).q fun a w F W => ?_
  refine Ae (Ad (Aq (AD ?_)))
  have H := AH H
  subst H
  refine OG (.inl Aa) F W Aa (Ap F Aa) (Ap F Aa) (Ap F Aa) (Ap F Aa) ?_
  exact ⟨rfl, W.done⟩
 have H := AR (Bz hb) H
 rw [hb] at F
 clear hb
 refine Ax (Ad (Ai ?_))
 refine Fc W MO (by kernel_rfl) ?_
 iterate 3 refine qs F Aa (Ah F Aa).q fun a F => ?_
 refine qs F Aa (BT F Aa Aa Aa).q fun a F => ?_
 obtain ⟨x4, h4, H⟩ := An H
 refine qs F Aa (CE (r := DA) Oz F Aa Aa (AG h_v1) h4).q fun a F => ?_
 refine qs F Aa (Ao Kv Aa Aa Aa T3 F Aa (Hq v1 + (Co (p1 + 2)).toNat * 4 + 1) Aa).q fun a F => ?_
 refine qs F Aa (BV (y := Value.int .i64 x4.2.1) (j := 1) (i := Co (p1 + 2)) F Aa Aa (AG h_v1) h4 Pz.to T3 Aa).q fun a F => ?_
 refine qs F Aa (Ah F Aa).q fun a F => ?_
 refine qs F Aa (BT F Aa Aa Aa).q fun a F => ?_
 iterate 4 refine qs F Aa (Ag F Aa).q fun a F => ?_
 refine Ek fun w W => ?_
 refine Ad (Aq ?_)
 have H := AH H
 subst H
 refine OG (.inl Aa) F W Aa (Ap F Aa) (Ap F Aa) (Ap F Aa) (Ap F Aa) ?_
 exact ⟨rfl, W.done⟩
end Go.Proofs.YtlgjpoapclifbaaDoor
