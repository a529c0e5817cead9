/- The functions of layer 29, EF. Conditions: none. -/
import Derived.Test.YtlgjpoapclifbaaDoordA11
namespace Go.Proofs.YtlgjpoapclifbaaDoor
open Go Go.RowKit
set_option linter.unusedVariables false
set_option linter.unusedSimpArgs false
set_option maxRecDepth 20000
theorem Ut : Has Tryd.prog 96 := ⟨fun args w => Am Tryd.func96 rfl (by decide) args w⟩
noncomputable def Ga (p0 : Tr28) : Option Bool := (if p0.un.1 = 2 then ((E5 (Tr25.of (p0.un.2.1.un.1, p0.un.2.1.un.2.1, p0.un.2.1.un.2.2.1, p0.un.2.1.un.2.2.2))).bind fun x2 => (if x2 = true then (if (p0.un.2.2.2.2.length : Int) = 0 then (if 0 ≤ p0.un.2.2.1 then (if p0.un.2.2.1 ≤ 4 then (if 0 ≤ p0.un.2.2.2.1 then (H0 p0.un.2.2.1).bind fun x3 => some (decide (p0.un.2.2.2.1 ≤ x3)) else some false) else some false) else some false) else some false) else some false)).bind fun x1 => some x1 else (if (decide (p0.un.2.2.1 ≠ 0) || decide (p0.un.2.2.2.1 ≠ 0)) = true then some false else (if p0.un.1 = 1 then some (decide ((p0.un.2.2.2.2.length : Int) = 0)) else (if p0.un.1 = 3 then some true else some (decide (p0.un.1 = 4))).bind fun x4 => (if x4 = true then ((E5 (Tr25.of (p0.un.2.1.un.1, p0.un.2.1.un.2.1, p0.un.2.1.un.2.2.1, p0.un.2.1.un.2.2.2))).bind fun x6 => (if x6 = true then (if 2 ≤ (p0.un.2.2.2.2.length : Int) then some (decide ((p0.un.2.2.2.2.length : Int) ≤ 8)) else some false) else some false)).bind fun x5 => some x5 else (if p0.un.1 = 5 then some (decide ((p0.un.2.2.2.2.length : Int) = 2)) else some false)))))
theorem ME (Y : Nat → Prop) (w0 : World) (v1 : Value) (v2 : Value) (p0 : Tr28) (r : Bool) (H : Ga p0 = some r) (h_v1 : Sl w0 (NX []) A6 v1 p0.un.2.1.un.2.2.2) (h_v2 : Sl w0 (NX []) BJ v2 p0.un.2.2.2.2) :
    Calls Tryd.prog 78 #[.agg #[.int .i64 p0.un.1, .int .i64 p0.un.2.1.un.1, .int .i64 p0.un.2.1.un.2.1, .int .i64 p0.un.2.1.un.2.2.1, v1, .int .i64 p0.un.2.2.1, .int .i64 p0.un.2.2.2.1, v2]] w0 fun e w' => e = .returned (.bool r) ∧ Below w0.heap.size w0 w' := by
 refine enter Tryd.func78 Aa Tryd.ntmps78 Aa fun a F => ?_
 have W := Stw.start Y w0
 obtain ⟨v3, h1, h_v1⟩ := h_v1.ex CF
 obtain ⟨v4, h2, h_v2⟩ := h_v2.ex Eg
 unfold Ga at H
 refine Ah (Ab ?_)
 refine FH (cs := (Fa p0 v1 v2)) F W Aa Aa Aa fun b1 a w F W => ?_
 refine ls F W Aa (Ag F Aa).q fun a w F W => ?_
 refine Ae (Ac (Ah (Ah (Ab ?_))))
 refine ls F W Aa (Al Dm Aa Aa Aa T3 F Aa 0 Aa).q fun a w F W => ?_
 refine ls F W Aa (Aw (v := Value.int .i64 p0.un.1) 0 F Aa Aa T3 Aa).q fun a w F W => ?_
 refine ls F W Aa (Bw F Aa Aa).q fun a w F W => ?_
 refine Ae (Ac ?_)
 refine AC F Aa (fun hb => ?_) fun hb => ?_
 ·
  have H := Ba (BM hb) H
  rw [hb] at F
  clear hb
  obtain ⟨o1, G1, K1⟩ := Aq H
  refine BK (fun a w => ∃ x1 : Bool, some (x1) = some o1 ∧ Fr 78 [] [(1, .pointer (some ⟨b1, 0, none⟩)), (2, .bool x1)] a ∧ Stw ⟨Y, [], w0⟩ (E8 b1 p0 v1 v2) [] w) ?_ ?_
  ·
   have H := G1
   clear G1 K1
   refine HR W MO (by kernel_rfl) ?_
   refine qs F Aa (Al Dm Aa Aa Aa ER F Aa 1 Aa).q fun a F => ?_
   refine qs F Aa (Aw (v := Value.agg #[.int .i64 p0.un.2.1.un.1, .int .i64 p0.un.2.1.un.2.1, .int .i64 p0.un.2.1.un.2.2.1, v1]) 0 F Aa Aa ER Aa).q fun a F => ?_
   obtain ⟨x2, h3, H⟩ := Aq H
   refine qs F Aa (Bx (v := Value.bool x2) F Uu Aa (fun w W => Ix any w (v1) (Tr25.of (p0.un.2.1.un.1, p0.un.2.1.un.2.1, p0.un.2.1.un.2.2.1, p0.un.2.1.un.2.2.2)) _ h3 (((Bd CF h1 (AG h_v1)) : EB _ _ _ _ _ _) w W).nx)) fun a F => ?_
   refine qs F Aa (Ai F Aa).q fun a F => ?_
   rcases Bool.eq_false_or_eq_true x2 with hb | hb
   ·
    have H := Ba hb H
    rw [hb] at F
    clear hb
    refine EU F (Ak F Aa Aa Aa Aa) Aa (Ay Aa) (Al Dm Aa Aa Aa JM F Aa 7 Aa).q fun a F => ?_
    refine EU F (Ak F Aa Aa Aa Aa) Aa (Ay Aa) (Aw (v := v2) 0 F Aa Aa JM Aa).q fun a F => ?_
    refine EU F (Ak F Aa Aa Aa Aa) Aa (Ay Aa) (DC (r := BJ) (l := p0.un.2.2.2.2) IX Aa F Aa (Bd Eg h2 (AG h_v2))).q fun a F => ?_
    refine EU F (Ak F Aa Aa Aa Aa) Aa (Ay Aa) (Bw F Aa Aa).q fun a F => ?_
    refine qs F Aa (A2 F Aa Aa Aa).q fun a F => ?_
    refine qs F Aa (Ai F Aa).q fun a F => ?_
    rcases Bool.eq_false_or_eq_true (decide ((p0.un.2.2.2.2.length : Int) = 0)) with hb | hb
    ·
     have H := Ba (BM hb) H
     rw [hb] at F
     clear hb
     refine EU F (Ak F Aa Aa Aa Aa) Aa (Ay Aa) (Al Dm Aa Aa Aa T3 F Aa 5 Aa).q fun a F => ?_
     refine EU F (Ak F Aa Aa Aa Aa) Aa (Ay Aa) (Aw (v := Value.int .i64 p0.un.2.2.1) 0 F Aa Aa T3 Aa).q fun a F => ?_
     refine EU F (Ak F Aa Aa Aa Aa) Aa (Ay Aa) (KS F Aa Aa).q fun a F => ?_
     refine qs F Aa (A2 F Aa Aa Aa).q fun a F => ?_
     refine qs F Aa (Ai F Aa).q fun a F => ?_
     rcases Bool.eq_false_or_eq_true (decide (0 ≤ p0.un.2.2.1)) with hb | hb
     ·
      have H := Ba (BM hb) H
      rw [hb] at F
      clear hb
      refine EU F (Ak F Aa Aa Aa Aa) Aa (Ay Aa) (Al Dm Aa Aa Aa T3 F Aa 5 Aa).q fun a F => ?_
      refine EU F (Ak F Aa Aa Aa Aa) Aa (Ay Aa) (Aw (v := Value.int .i64 p0.un.2.2.1) 0 F Aa Aa T3 Aa).q fun a F => ?_
      refine EU F (Ak F Aa Aa Aa Aa) Aa (Ay Aa) (I9 F Aa Aa).q fun a F => ?_
      refine qs F Aa (A2 F Aa Aa Aa).q fun a F => ?_
      refine qs F Aa (Ai F Aa).q fun a F => ?_
      rcases Bool.eq_false_or_eq_true (decide (p0.un.2.2.1 ≤ 4)) with hb | hb
      ·
       have H := Ba (BM hb) H
       rw [hb] at F
       clear hb
       refine EU F (Ak F Aa Aa Aa Aa) Aa (Ay Aa) (Al Dm Aa Aa Aa T3 F Aa 6 Aa).q fun a F => ?_
       refine EU F (Ak F Aa Aa Aa Aa) Aa (Ay Aa) (Aw (v := Value.int .i64 p0.un.2.2.2.1) 0 F Aa Aa T3 Aa).q fun a F => ?_
       refine EU F (Ak F Aa Aa Aa Aa) Aa (Ay Aa) (KS F Aa Aa).q fun a F => ?_
       refine qs F Aa (A2 F Aa Aa Aa).q fun a F => ?_
       refine qs F Aa (Ai F Aa).q fun a F => ?_
       rcases Bool.eq_false_or_eq_true (decide (0 ≤ p0.un.2.2.2.1)) with hb | hb
       ·
        have H := Ba (BM hb) H
        rw [hb] at F
        clear hb
        refine EU F (Ak F Aa Aa Aa Aa) Aa (Ay Aa) (Al Dm Aa Aa Aa T3 F Aa 6 Aa).q fun a F => ?_
        refine EU F (Ak F Aa Aa Aa Aa) Aa (Ay Aa) (Aw (v := Value.int .i64 p0.un.2.2.2.1) 0 F Aa Aa T3 Aa).q fun a F => ?_
        refine EU F (Ak F Aa Aa Aa Aa) Aa (Ay Aa) (Al Dm Aa Aa Aa T3 F Aa 5 Aa).q fun a F => ?_
        refine EU F (Ak F Aa Aa Aa Aa) Aa (Ay Aa) (Aw (v := Value.int .i64 p0.un.2.2.1) 0 F Aa Aa T3 Aa).q fun a F => ?_
        obtain ⟨x3, h4, H⟩ := Aq H
        refine EU F (Ak F Aa Aa Aa Aa) Aa (Ay Aa) (Bx (v := Value.int .i64 x3) F Ut Aa (fun w W => LA any w p0.un.2.2.1 _ h4)) fun a F => ?_
        refine EU F (Ak F Aa Aa Aa Aa) Aa (Ay Aa) (I9 F Aa Aa).q fun a F => ?_
        refine qs F Aa (A2 F Aa Aa Aa).q fun a F => ?_
        refine qs F Aa (Ag F Aa).q fun a F => ?_
        refine CY fun w W => ?_
        refine Ac ?_
        exact ⟨_, H, F.re ⟨rfl, Aa, trivial⟩, W⟩
       have H := Bc (BL hb) H
       rw [hb] at F
       clear hb
       iterate 6 refine C1 F (Cv F Aa Aa Aa Aa Aa) Aa Aa fun a F => ?_
       refine qs F Aa (Ax F Aa Aa Aa).q fun a F => ?_
       refine qs F Aa (Ag F Aa).q fun a F => ?_
       refine CY fun w W => ?_
       refine Ac ?_
       exact ⟨_, H, F.re ⟨rfl, Aa, trivial⟩, W⟩
      have H := Bc (BL hb) H
      rw [hb] at F
      clear hb
      iterate 3 refine C1 F (Cv F Aa Aa Aa Aa Aa) Aa Aa fun a F => ?_
      refine qs F Aa (Ax F Aa Aa Aa).q fun a F => ?_
      refine qs F Aa (Ai F Aa).q fun a F => ?_
      iterate 6 refine C1 F (Cv F Aa Aa Aa Aa Aa) Aa Aa fun a F => ?_
      refine qs F Aa (Ax F Aa Aa Aa).q fun a F => ?_
      refine qs F Aa (Ag F Aa).q fun a F => ?_
      refine CY fun w W => ?_
      refine Ac ?_
      exact ⟨_, H, F.re ⟨rfl, Aa, trivial⟩, W⟩
     have H := Bc (BL hb) H
     rw [hb] at F
     clear hb
     iterate 3 refine C1 F (Cv F Aa Aa Aa Aa Aa) Aa Aa fun a F => ?_
     refine qs F Aa (Ax F Aa Aa Aa).q fun a F => ?_
     refine qs F Aa (Ai F Aa).q fun a F => ?_
     iterate 3 refine C1 F (Cv F Aa Aa Aa Aa Aa) Aa Aa fun a F => ?_
     refine qs F Aa (Ax F Aa Aa Aa).q fun a F => ?_
     refine qs F Aa (Ai F Aa).q fun a F => ?_
     iterate 6 refine C1 F (Cv F Aa Aa Aa Aa Aa) Aa Aa fun a F => ?_
     refine qs F Aa (Ax F Aa Aa Aa).q fun a F => ?_
     refine qs F Aa (Ag F Aa).q fun a F => ?_
     refine CY fun w W => ?_
     refine Ac ?_
     exact ⟨_, H, F.re ⟨rfl, Aa, trivial⟩, W⟩
    have H := Bc (BL hb) H
    rw [hb] at F
    clear hb
    iterate 3 refine C1 F (Cv F Aa Aa Aa Aa Aa) Aa Aa fun a F => ?_
    refine qs F Aa (Ax F Aa Aa Aa).q fun a F => ?_
    refine qs F Aa (Ai F Aa).q fun a F => ?_
    iterate 3 refine C1 F (Cv F Aa Aa Aa Aa Aa) Aa Aa fun a F => ?_
    refine qs F Aa (Ax F Aa Aa Aa).q fun a F => ?_
    refine qs F Aa (Ai F Aa).q fun a F => ?_
    iterate 3 refine C1 F (Cv F Aa Aa Aa Aa Aa) Aa Aa fun a F => ?_
    refine qs F Aa (Ax F Aa Aa Aa).q fun a F => ?_
    refine qs F Aa (Ai F Aa).q fun a F => ?_
    iterate 6 refine C1 F (Cv F Aa Aa Aa Aa Aa) Aa Aa fun a F => ?_
    refine qs F Aa (Ax F Aa Aa Aa).q fun a F => ?_
    refine qs F Aa (Ag F Aa).q fun a F => ?_
    refine CY fun w W => ?_
    refine Ac ?_
    exact ⟨_, H, F.re ⟨rfl, Aa, trivial⟩, W⟩
   have H := Bc (by rw [hb]; decide) H
   rw [hb] at F
   clear hb
   iterate 4 refine C1 F (Cv F Aa Aa Aa Aa Aa) Aa Aa fun a F => ?_
   refine qs F Aa (Ax F Aa Aa Aa).q fun a F => ?_
   refine qs F Aa (Ai F Aa).q fun a F => ?_
   iterate 3 refine C1 F (Cv F Aa Aa Aa Aa Aa) Aa Aa fun a F => ?_
   refine qs F Aa (Ax F Aa Aa Aa).q fun a F => ?_
   refine qs F Aa (Ai F Aa).q fun a F => ?_
   iterate 3 refine C1 F (Cv F Aa Aa Aa Aa Aa) Aa Aa fun a F => ?_
   refine qs F Aa (Ax F Aa Aa Aa).q fun a F => ?_
   refine qs F Aa (Ai F Aa).q fun a F => ?_
   iterate 3 refine C1 F (Cv F Aa Aa Aa Aa Aa) Aa Aa fun a F => ?_
   refine qs F Aa (Ax F Aa Aa Aa).q fun a F => ?_
   refine qs F Aa (Ai F Aa).q fun a F => ?_
   iterate 6 refine C1 F (Cv F Aa Aa Aa Aa Aa) Aa Aa fun a F => ?_
   refine qs F Aa (Ax F Aa Aa Aa).q fun a F => ?_
   refine qs F Aa (Ag F Aa).q fun a F => ?_
   refine CY fun w W => ?_
   refine Ac ?_
   exact ⟨_, H, F.re ⟨rfl, Aa, trivial⟩, W⟩
  rintro a w ⟨x1, hj, F, W⟩
  have hj := AR hj
  subst hj
  have H := K1
  clear G1 K1
  refine Au (AV ?_)
  have H := AR H
  subst H
  refine AO (.inl Aa) F W Aa (AD F Aa) ?_
  exact ⟨rfl, W.done⟩
 have H := Bc (BL hb) H
 rw [hb] at F
 clear hb
 refine AM (Ac (Ah ?_))
 refine BK (fun a w => Fr 78 [] [(1, .pointer (some ⟨b1, 0, none⟩)), (2, .bool false), (45, .bool (decide (p0.un.2.2.1 ≠ 0) || decide (p0.un.2.2.2.1 ≠ 0)))] a ∧ Stw ⟨Y, [], w0⟩ (E8 b1 p0 v1 v2) [] w) ?_ ?_
 ·
  refine Ab ?_
  refine ls F W Aa (Al Dm Aa Aa Aa T3 F Aa 5 Aa).q fun a w F W => ?_
  refine ls F W Aa (Aw (v := Value.int .i64 p0.un.2.2.1) 0 F Aa Aa T3 Aa).q fun a w F W => ?_
  refine ls F W Aa (Gn F Aa Aa).q fun a w F W => ?_
  refine ls F W Aa (Ai F Aa).q fun a w F W => ?_
  rcases Bool.eq_false_or_eq_true (decide (p0.un.2.2.1 ≠ 0)) with hb0 | hb0
  ·
   rw [hb0] at F
   iterate 3 refine EX F Aa Aa Aa Aa Aa Aa Aa fun a F => ?_
   refine ls F W Aa (A2 F Aa Aa Aa).q fun a w F W => ?_
   refine Ae (Ac ?_)
   exact ⟨F.re ⟨rfl, Aa, (JQ (by try rw [hb0]; all_goals simp only [JV])), trivial⟩, W⟩
  rw [hb0] at F
  refine Bn F W (Ak F Aa Aa Aa Aa) Aa (Ay Aa) (Al Dm Aa Aa Aa T3 F Aa 6 Aa).q fun a w F W => ?_
  refine Bn F W (Ak F Aa Aa Aa Aa) Aa (Ay Aa) (Aw (v := Value.int .i64 p0.un.2.2.2.1) 0 F Aa Aa T3 Aa).q fun a w F W => ?_
  refine Bn F W (Ak F Aa Aa Aa Aa) Aa (Ay Aa) (Gn F Aa Aa).q fun a w F W => ?_
  refine ls F W Aa (Ax F Aa Aa Aa).q fun a w F W => ?_
  refine Ae (Ac ?_)
  exact ⟨F.re ⟨rfl, Aa, (JQ (by try rw [hb0]; all_goals simp only [JV])), trivial⟩, W⟩
 rintro a w ⟨F, W⟩
 refine AC F Aa (fun hb => ?_) fun hb => ?_
 ·
  have H := Ba hb H
  rw [hb] at F
  clear hb
  refine Ah (Ab ?_)
  refine ls F W Aa (Ag F Aa).q fun a w F W => ?_
  refine Ae (Ac (Au (AV ?_)))
  have H := AR H
  subst H
  refine AO (.inl Aa) F W Aa (AD F Aa) ?_
  exact ⟨rfl, W.done⟩
 have H := Bc (by rw [hb]; decide) H
 rw [hb] at F
 clear hb
 refine AM (Ac (Ah (Ah (Ab ?_))))
 refine ls F W Aa (Al Dm Aa Aa Aa T3 F Aa 0 Aa).q fun a w F W => ?_
 refine ls F W Aa (Aw (v := Value.int .i64 p0.un.1) 0 F Aa Aa T3 Aa).q fun a w F W => ?_
 refine Ae (Ac (Bb (Ah (Ab ?_))))
 refine ls F W Aa (Bw F Aa Aa).q fun a w F W => ?_
 refine ls F W Aa (Ag F Aa).q fun a w F W => ?_
 refine Ae (Ac ?_)
 refine AC F Aa (fun hb => ?_) fun hb => ?_
 ·
  have H := Ba (BM hb) H
  rw [hb] at F
  clear hb
  refine Ah (Ab ?_)
  refine ls F W Aa (Al Dm Aa Aa Aa JM F Aa 7 Aa).q fun a w F W => ?_
  refine ls F W Aa (Aw (v := v2) 0 F Aa Aa JM Aa).q fun a w F W => ?_
  refine ls F W Aa (DC (r := BJ) (l := p0.un.2.2.2.2) IX Aa F Aa (Bd Eg h2 (AG h_v2))).q fun a w F W => ?_
  refine ls F W Aa (Bw F Aa Aa).q fun a w F W => ?_
  refine ls F W Aa (Ag F Aa).q fun a w F W => ?_
  refine Ae (Ac (Au (Be (AV ?_))))
  have H := AR H
  subst H
  refine AO (.inl Aa) F W Aa (AD F Aa) ?_
  exact ⟨rfl, W.done⟩
 have H := Bc (BL hb) H
 rw [hb] at F
 clear hb
 obtain ⟨o2, G2, K2⟩ := Aq H
 refine BK (fun a w => ∃ x4 : Bool, some (x4) = some o2 ∧ Fr 78 [] [(1, .pointer (some ⟨b1, 0, none⟩)), (2, .bool false), (47, .int .i64 p0.un.1), (54, .bool x4)] a ∧ Stw ⟨Y, [], w0⟩ (E8 b1 p0 v1 v2) [] w) ?_ ?_
 ·
  have H := G2
  clear G2 K2
  refine Ah (Ab ?_)
  refine ls F W Aa (Bw F Aa Aa).q fun a w F W => ?_
  refine ls F W Aa (Ag F Aa).q fun a w F W => ?_
  refine Ae (Ac ?_)
  refine AC F Aa (fun hb => ?_) fun hb => ?_
  ·
   have H := Ba (BM hb) H
   rw [hb] at F
   clear hb
   refine AM (Ac ?_)
   exact ⟨_, H, F.re ⟨rfl, Aa, Aa, Aa, trivial⟩, W⟩
  have H := Bc (BL hb) H
  rw [hb] at F
  clear hb
  refine Ab ?_
  refine ls F W Aa (Bw F Aa Aa).q fun a w F W => ?_
  refine ls F W Aa (Ag F Aa).q fun a w F W => ?_
  refine Ae (Ac ?_)
  exact ⟨_, H, F.re ⟨rfl, Aa, Aa, Aa, trivial⟩, W⟩
 rintro a w ⟨x4, hj, F, W⟩
 have hj := AR hj
 subst hj
 have H := K2
 clear G2 K2
 refine AC F Aa (fun hb => ?_) fun hb => ?_
 ·
  have H := Ba hb H
  rw [hb] at F
  clear hb
  obtain ⟨o3, G3, K3⟩ := Aq H
  refine BK (fun a w => ∃ x5 : Bool, some (x5) = some o3 ∧ Fr 78 [] [(2, .bool x5)] a ∧ Stw ⟨Y, [], w0⟩ (E8 b1 p0 v1 v2) [] w) ?_ ?_
  ·
   have H := G3
   clear G3 K3
   refine Ab ?_
   refine ls F W Aa (Al Dm Aa Aa Aa ER F Aa 1 Aa).q fun a w F W => ?_
   refine ls F W Aa (Aw (v := Value.agg #[.int .i64 p0.un.2.1.un.1, .int .i64 p0.un.2.1.un.2.1, .int .i64 p0.un.2.1.un.2.2.1, v1]) 0 F Aa Aa ER Aa).q fun a w F W => ?_
   obtain ⟨x6, h5, H⟩ := Aq H
   refine ls F W Aa (Bx (v := Value.bool x6) F Uu Aa (fun w W => Ix any w (v1) (Tr25.of (p0.un.2.1.un.1, p0.un.2.1.un.2.1, p0.un.2.1.un.2.2.1, p0.un.2.1.un.2.2.2)) _ h5 (((Bd CF h1 (AG h_v1)) : EB _ _ _ _ _ _) w W).nx)) fun a w F W => ?_
   refine ls F W Aa (Ai F Aa).q fun a w F W => ?_
   rcases Bool.eq_false_or_eq_true x6 with hb | hb
   ·
    have H := Ba hb H
    rw [hb] at F
    clear hb
    refine Bn F W (Ak F Aa Aa Aa Aa) Aa (Ay Aa) (Al Dm Aa Aa Aa JM F Aa 7 Aa).q fun a w F W => ?_
    refine Bn F W (Ak F Aa Aa Aa Aa) Aa (Ay Aa) (Aw (v := v2) 0 F Aa Aa JM Aa).q fun a w F W => ?_
    refine Bn F W (Ak F Aa Aa Aa Aa) Aa (Ay Aa) (DC (r := BJ) (l := p0.un.2.2.2.2) IX Aa F Aa (Bd Eg h2 (AG h_v2))).q fun a w F W => ?_
    refine Bn F W (Ak F Aa Aa Aa Aa) Aa (Ay Aa) (KS F Aa Aa).q fun a w F W => ?_
    refine ls F W Aa (A2 F Aa Aa Aa).q fun a w F W => ?_
    refine ls F W Aa (Ai F Aa).q fun a w F W => ?_
    rcases Bool.eq_false_or_eq_true (decide (2 ≤ (p0.un.2.2.2.2.length : Int))) with hb | hb
    ·
     have H := Ba (BM hb) H
     rw [hb] at F
     clear hb
     refine Bn F W (Ak F Aa Aa Aa Aa) Aa (Ay Aa) (Al Dm Aa Aa Aa JM F Aa 7 Aa).q fun a w F W => ?_
     refine Bn F W (Ak F Aa Aa Aa Aa) Aa (Ay Aa) (Aw (v := v2) 0 F Aa Aa JM Aa).q fun a w F W => ?_
     refine Bn F W (Ak F Aa Aa Aa Aa) Aa (Ay Aa) (DC (r := BJ) (l := p0.un.2.2.2.2) IX Aa F Aa (Bd Eg h2 (AG h_v2))).q fun a w F W => ?_
     refine Bn F W (Ak F Aa Aa Aa Aa) Aa (Ay Aa) (I9 F Aa Aa).q fun a w F W => ?_
     refine ls F W Aa (A2 F Aa Aa Aa).q fun a w F W => ?_
     refine ls F W Aa (Ag F Aa).q fun a w F W => ?_
     refine Ae (Ac ?_)
     exact ⟨_, H, F.re ⟨rfl, trivial⟩, W⟩
    have H := Bc (BL hb) H
    rw [hb] at F
    clear hb
    iterate 4 refine EX F Aa Aa Aa Aa Aa Aa Aa fun a F => ?_
    refine ls F W Aa (Ax F Aa Aa Aa).q fun a w F W => ?_
    refine ls F W Aa (Ag F Aa).q fun a w F W => ?_
    refine Ae (Ac ?_)
    exact ⟨_, H, F.re ⟨rfl, trivial⟩, W⟩
   have H := Bc (by rw [hb]; decide) H
   rw [hb] at F
   clear hb
   iterate 4 refine EX F Aa Aa Aa Aa Aa Aa Aa fun a F => ?_
   refine ls F W Aa (Ax F Aa Aa Aa).q fun a w F W => ?_
   refine ls F W Aa (Ai F Aa).q fun a w F W => ?_
   iterate 4 refine EX F Aa Aa Aa Aa Aa Aa Aa fun a F => ?_
   refine ls F W Aa (Ax F Aa Aa Aa).q fun a w F W => ?_
   refine ls F W Aa (Ag F Aa).q fun a w F W => ?_
   refine Ae (Ac ?_)
   exact ⟨_, H, F.re ⟨rfl, trivial⟩, W⟩
  rintro a w ⟨x5, hj, F, W⟩
  have hj := AR hj
  subst hj
  have H := K3
  clear G3 K3
  refine Au (Be (AV ?_))
  have H := AR H
  subst H
  refine AO (.inl Aa) F W Aa (AD F Aa) ?_
  exact ⟨rfl, W.done⟩
 have H := Bc (by rw [hb]; decide) H
 rw [hb] at F
 clear hb
 refine Ah (Ab ?_)
 refine ls F W Aa (Bw F Aa Aa).q fun a w F W => ?_
 refine ls F W Aa (Ag F Aa).q fun a w F W => ?_
 refine Ae (Ac ?_)
 refine AC F Aa (fun hb => ?_) fun hb => ?_
 ·
  have H := Ba (BM hb) H
  rw [hb] at F
  clear hb
  refine Ah (Ab ?_)
  refine ls F W Aa (Al Dm Aa Aa Aa JM F Aa 7 Aa).q fun a w F W => ?_
  refine ls F W Aa (Aw (v := v2) 0 F Aa Aa JM Aa).q fun a w F W => ?_
  refine ls F W Aa (DC (r := BJ) (l := p0.un.2.2.2.2) IX Aa F Aa (Bd Eg h2 (AG h_v2))).q fun a w F W => ?_
  refine ls F W Aa (Bw F Aa Aa).q fun a w F W => ?_
  refine ls F W Aa (Ag F Aa).q fun a w F W => ?_
  refine Ae (Ac (Au (Be (AV ?_))))
  have H := AR H
  subst H
  refine AO (.inl Aa) F W Aa (AD F Aa) ?_
  exact ⟨rfl, W.done⟩
 have H := Bc (BL hb) H
 rw [hb] at F
 clear hb
 refine AM (BI (Ac (Ah (Ab ?_))))
 refine ls F W Aa (Ag F Aa).q fun a w F W => ?_
 refine Ae (Ac (Au ?_))
 have H := AR H
 subst H
 refine AO (.inl Aa) F W Aa (AD F Aa) ?_
 exact ⟨rfl, W.done⟩
theorem Pl : type_of% Tryd.underlying127 := Tryd.underlying127
theorem UY : Has Tryd.prog 78 := ⟨fun args w => Am Tryd.func78 rfl (by decide) args w⟩
theorem Uf : Bt Tryd.prog 127 [.int .i64 0] [(0, 1)] := ⟨⟨.agg #[.int .i64 0], by kernel_rfl, rfl⟩, ⟨_, Pl, fun w => by kernel_rfl⟩⟩
theorem T7 : (Tryd.prog.info? 127).bind (·.zero) = some (.agg #[.int .i64 0]) := by kernel_rfl
theorem Ud : Ty Tryd.prog 127 true 1 := ⟨by kernel_rfl, by kernel_rfl⟩
def FX (p0 : Int) : Bool := (decide (0 ≤ p0) && decide (p0 ≤ 5))
theorem NC (Y : Nat → Prop) (w0 : World)  (p0 : Int) (r : Bool) (H : FX p0 = r)  :
    Calls Tryd.prog 127 #[.int .i64 p0] w0 fun e w' => e = .returned (.bool r) ∧ Below w0.heap.size w0 w' := by
 refine enter Tryd.func127 Aa Tryd.ntmps127 Aa fun a F => ?_
 have W := Stw.start Y w0
 unfold FX at H
 refine Ah (Ab ?_)
 refine ls F W Aa (Ag F Aa).q fun a w F W => ?_
 refine Ae (Ac ?_)
 refine BK (fun a w => Fr 9 [] [(2, .bool (decide (0 ≤ p0) && decide (p0 ≤ 5)))] a ∧ Stw ⟨Y, [], w0⟩ [] [] w) ?_ ?_
 ·
  refine Ab ?_
  refine ls F W Aa (Ai F Aa).q fun a w F W => ?_
  refine ls F W Aa (KS F Aa Aa).q fun a w F W => ?_
  refine ls F W Aa (Ai F Aa).q fun a w F W => ?_
  rcases Bool.eq_false_or_eq_true (decide (0 ≤ p0)) with hb0 | hb0
  ·
   rw [hb0] at F
   refine Bn F W (Ak F Aa Aa Aa Aa) Aa (Ay Aa) (Ai F Aa).q fun a w F W => ?_
   refine Bn F W (Ak F Aa Aa Aa Aa) Aa (Ay Aa) (I9 F Aa Aa).q fun a w F W => ?_
   refine ls F W Aa (A2 F Aa Aa Aa).q fun a w F W => ?_
   refine ls F W Aa (Ag F Aa).q fun a w F W => ?_
   refine Ae (Ac ?_)
   exact ⟨F.re ⟨(JQ (by try rw [hb0]; all_goals simp only [JV])), trivial⟩, W⟩
  rw [hb0] at F
  iterate 2 refine EX F Aa Aa Aa Aa Aa Aa Aa fun a F => ?_
  refine ls F W Aa (Ax F Aa Aa Aa).q fun a w F W => ?_
  refine ls F W Aa (Ag F Aa).q fun a w F W => ?_
  refine Ae (Ac ?_)
  exact ⟨F.re ⟨(JQ (by try rw [hb0]; all_goals simp only [JV])), trivial⟩, W⟩
 rintro a w ⟨F, W⟩
 refine Au ?_
 subst H
 refine AO (.inl Aa) F W Aa (AD F Aa) ?_
 exact ⟨rfl, W.done⟩
theorem TX : Has Tryd.prog 127 := ⟨fun args w => Am Tryd.func127 rfl (by decide) args w⟩
abbrev HC (a0 : Nat) (a1 : Tr25) (a2 : Value) : List (Nat × List Value) := [(a0, [.int .i64 a1.un.1, .int .i64 a1.un.2.1, .int .i64 a1.un.2.2.1, a2])]
noncomputable def HJ (p0 : Tr25) : Option Bool := (if p0.un.1 = 3 then (if (FX p0.un.2.1) = true then (if 0 ≤ p0.un.2.2.1 then (H0 p0.un.2.1).bind fun x2 => (if p0.un.2.2.1 ≤ x2 then some (decide ((p0.un.2.2.2.length : Int) = 0)) else some false) else some false) else some false).bind fun x1 => some x1 else (if (decide (p0.un.2.1 ≠ 0) || decide (p0.un.2.2.1 ≠ 0)) = true then some false else (if p0.un.1 = 1 then some true else some (decide (p0.un.1 = 2))).bind fun x3 => (if x3 = true then some (decide ((p0.un.2.2.2.length : Int) = 0)) else (if p0.un.1 = 4 then some (decide ((p0.un.2.2.2.length : Int) = 1)) else (if p0.un.1 = 5 then some true else some (decide (p0.un.1 = 6))).bind fun x4 => (if x4 = true then some (decide (2 ≤ (p0.un.2.2.2.length : Int)) && decide ((p0.un.2.2.2.length : Int) ≤ 8)) else some false)))))
theorem Ok (Y : Nat → Prop) (w0 : World) (v1 : Value) (p0 : Tr25) (r : Bool) (H : HJ p0 = some r) (h_v1 : Sl w0 (NX []) A6 v1 p0.un.2.2.2) :
    Calls Tryd.prog 117 #[.agg #[.int .i64 p0.un.1, .int .i64 p0.un.2.1, .int .i64 p0.un.2.2.1, v1]] w0 fun e w' => e = .returned (.bool r) ∧ Below w0.heap.size w0 w' := by
 refine enter Tryd.func117 Aa Tryd.ntmps117 Aa fun a F => ?_
 have W := Stw.start Y w0
 obtain ⟨v2, h1, h_v1⟩ := h_v1.ex CF
 unfold HJ at H
 refine Ah (Ab ?_)
 refine FH (cs := (IY p0 v1)) F W Aa Aa Aa fun b1 a w F W => ?_
 refine ls F W Aa (Ag F Aa).q fun a w F W => ?_
 refine Ae (Ac (Ah (Ah (Ab ?_))))
 refine ls F W Aa (Al ET Aa Aa Aa T3 F Aa 0 Aa).q fun a w F W => ?_
 refine ls F W Aa (Aw (v := Value.int .i64 p0.un.1) 0 F Aa Aa T3 Aa).q fun a w F W => ?_
 refine ls F W Aa (Bw F Aa Aa).q fun a w F W => ?_
 refine Ae (Ac ?_)
 refine AC F Aa (fun hb => ?_) fun hb => ?_
 ·
  have H := Ba (BM hb) H
  rw [hb] at F
  clear hb
  obtain ⟨o1, G1, K1⟩ := Aq H
  refine BK (fun a w => ∃ x1 : Bool, some (x1) = some o1 ∧ Fr 64 [] [(1, .pointer (some ⟨b1, 0, none⟩)), (2, .bool x1)] a ∧ Stw ⟨Y, [], w0⟩ (HC b1 p0 v1) [] w) ?_ ?_
  ·
   have H := G1
   clear G1 K1
   refine HR W MO (by kernel_rfl) ?_
   refine qs F Aa (Al ET Aa Aa Aa T3 F Aa 1 Aa).q fun a F => ?_
   refine qs F Aa (Aw (v := Value.int .i64 p0.un.2.1) 0 F Aa Aa T3 Aa).q fun a F => ?_
   refine qs F Aa (Bx (v := Value.bool (FX p0.un.2.1)) F TX Aa (fun w W => NC any w p0.un.2.1 _ Aa)) fun a F => ?_
   refine qs F Aa (Ai F Aa).q fun a F => ?_
   rcases Bool.eq_false_or_eq_true (FX p0.un.2.1) with hb | hb
   ·
    have H := Ba hb H
    rw [hb] at F
    clear hb
    refine EU F (Ak F Aa Aa Aa Aa) Aa (Ay Aa) (Al ET Aa Aa Aa T3 F Aa 2 Aa).q fun a F => ?_
    refine EU F (Ak F Aa Aa Aa Aa) Aa (Ay Aa) (Aw (v := Value.int .i64 p0.un.2.2.1) 0 F Aa Aa T3 Aa).q fun a F => ?_
    refine EU F (Ak F Aa Aa Aa Aa) Aa (Ay Aa) (KS F Aa Aa).q fun a F => ?_
    refine qs F Aa (A2 F Aa Aa Aa).q fun a F => ?_
    refine qs F Aa (Ai F Aa).q fun a F => ?_
    rcases Bool.eq_false_or_eq_true (decide (0 ≤ p0.un.2.2.1)) with hb | hb
    ·
     have H := Ba (BM hb) H
     rw [hb] at F
     clear hb
     refine EU F (Ak F Aa Aa Aa Aa) Aa (Ay Aa) (Al ET Aa Aa Aa T3 F Aa 2 Aa).q fun a F => ?_
     refine EU F (Ak F Aa Aa Aa Aa) Aa (Ay Aa) (Aw (v := Value.int .i64 p0.un.2.2.1) 0 F Aa Aa T3 Aa).q fun a F => ?_
     refine EU F (Ak F Aa Aa Aa Aa) Aa (Ay Aa) (Al ET Aa Aa Aa T3 F Aa 1 Aa).q fun a F => ?_
     refine EU F (Ak F Aa Aa Aa Aa) Aa (Ay Aa) (Aw (v := Value.int .i64 p0.un.2.1) 0 F Aa Aa T3 Aa).q fun a F => ?_
     obtain ⟨x2, h2, H⟩ := Aq H
     refine EU F (Ak F Aa Aa Aa Aa) Aa (Ay Aa) (Bx (v := Value.int .i64 x2) F Ut Aa (fun w W => LA any w p0.un.2.1 _ h2)) fun a F => ?_
     refine EU F (Ak F Aa Aa Aa Aa) Aa (Ay Aa) (I9 F Aa Aa).q fun a F => ?_
     refine qs F Aa (A2 F Aa Aa Aa).q fun a F => ?_
     refine qs F Aa (Ai F Aa).q fun a F => ?_
     rcases Bool.eq_false_or_eq_true (decide (p0.un.2.2.1 ≤ x2)) with hb | hb
     ·
      have H := Ba (BM hb) H
      rw [hb] at F
      clear hb
      refine EU F (Ak F Aa Aa Aa Aa) Aa (Ay Aa) (Al ET Aa Aa Aa Lv F Aa 3 Aa).q fun a F => ?_
      refine EU F (Ak F Aa Aa Aa Aa) Aa (Ay Aa) (Aw (v := v1) 0 F Aa Aa Lv Aa).q fun a F => ?_
      refine EU F (Ak F Aa Aa Aa Aa) Aa (Ay Aa) (DC (r := A6) (l := p0.un.2.2.2) J7 Aa F Aa (Bd CF h1 (AG h_v1))).q fun a F => ?_
      refine EU F (Ak F Aa Aa Aa Aa) Aa (Ay Aa) (Bw F Aa Aa).q fun a F => ?_
      refine qs F Aa (A2 F Aa Aa Aa).q fun a F => ?_
      refine qs F Aa (Ag F Aa).q fun a F => ?_
      refine CY fun w W => ?_
      refine Ac ?_
      exact ⟨_, H, F.re ⟨rfl, Aa, trivial⟩, W⟩
     have H := Bc (BL hb) H
     rw [hb] at F
     clear hb
     iterate 4 refine C1 F (Cv F Aa Aa Aa Aa Aa) Aa Aa fun a F => ?_
     refine qs F Aa (Ax F Aa Aa Aa).q fun a F => ?_
     refine qs F Aa (Ag F Aa).q fun a F => ?_
     refine CY fun w W => ?_
     refine Ac ?_
     exact ⟨_, H, F.re ⟨rfl, Aa, trivial⟩, W⟩
    have H := Bc (BL hb) H
    rw [hb] at F
    clear hb
    iterate 6 refine C1 F (Cv F Aa Aa Aa Aa Aa) Aa Aa fun a F => ?_
    refine qs F Aa (Ax F Aa Aa Aa).q fun a F => ?_
    refine qs F Aa (Ai F Aa).q fun a F => ?_
    iterate 4 refine C1 F (Cv F Aa Aa Aa Aa Aa) Aa Aa fun a F => ?_
    refine qs F Aa (Ax F Aa Aa Aa).q fun a F => ?_
    refine qs F Aa (Ag F Aa).q fun a F => ?_
    refine CY fun w W => ?_
    refine Ac ?_
    exact ⟨_, H, F.re ⟨rfl, Aa, trivial⟩, W⟩
   have H := Bc (by rw [hb]; decide) H
   rw [hb] at F
   clear hb
   iterate 3 refine C1 F (Cv F Aa Aa Aa Aa Aa) Aa Aa fun a F => ?_
   refine qs F Aa (Ax F Aa Aa Aa).q fun a F => ?_
   refine qs F Aa (Ai F Aa).q fun a F => ?_
   iterate 6 refine C1 F (Cv F Aa Aa Aa Aa Aa) Aa Aa fun a F => ?_
   refine qs F Aa (Ax F Aa Aa Aa).q fun a F => ?_
   refine qs F Aa (Ai F Aa).q fun a F => ?_
   iterate 4 refine C1 F (Cv F Aa Aa Aa Aa Aa) Aa Aa fun a F => ?_
   refine qs F Aa (Ax F Aa Aa Aa).q fun a F => ?_
   refine qs F Aa (Ag F Aa).q fun a F => ?_
   refine CY fun w W => ?_
   refine Ac ?_
   exact ⟨_, H, F.re ⟨rfl, Aa, trivial⟩, W⟩
  rintro a w ⟨x1, hj, F, W⟩
  have hj := AR hj
  subst hj
  have H := K1
  clear G1 K1
  refine Au (AV ?_)
  have H := AR H
  subst H
  refine AO (.inl Aa) F W Aa (AD F Aa) ?_
  exact ⟨rfl, W.done⟩
 have H := Bc (BL hb) H
 rw [hb] at F
 clear hb
 refine AM (Ac (Ah ?_))
 refine BK (fun a w => Fr 64 [] [(1, .pointer (some ⟨b1, 0, none⟩)), (2, .bool false), (35, .bool (decide (p0.un.2.1 ≠ 0) || decide (p0.un.2.2.1 ≠ 0)))] a ∧ Stw ⟨Y, [], w0⟩ (HC b1 p0 v1) [] w) ?_ ?_
 ·
  refine Ab ?_
  refine ls F W Aa (Al ET Aa Aa Aa T3 F Aa 1 Aa).q fun a w F W => ?_
  refine ls F W Aa (Aw (v := Value.int .i64 p0.un.2.1) 0 F Aa Aa T3 Aa).q fun a w F W => ?_
  refine ls F W Aa (Gn F Aa Aa).q fun a w F W => ?_
  refine ls F W Aa (Ai F Aa).q fun a w F W => ?_
  rcases Bool.eq_false_or_eq_true (decide (p0.un.2.1 ≠ 0)) with hb0 | hb0
  ·
   rw [hb0] at F
   iterate 3 refine EX F Aa Aa Aa Aa Aa Aa Aa fun a F => ?_
   refine ls F W Aa (A2 F Aa Aa Aa).q fun a w F W => ?_
   refine Ae (Ac ?_)
   exact ⟨F.re ⟨rfl, Aa, (JQ (by try rw [hb0]; all_goals simp only [JV])), trivial⟩, W⟩
  rw [hb0] at F
  refine Bn F W (Ak F Aa Aa Aa Aa) Aa (Ay Aa) (Al ET Aa Aa Aa T3 F Aa 2 Aa).q fun a w F W => ?_
  refine Bn F W (Ak F Aa Aa Aa Aa) Aa (Ay Aa) (Aw (v := Value.int .i64 p0.un.2.2.1) 0 F Aa Aa T3 Aa).q fun a w F W => ?_
  refine Bn F W (Ak F Aa Aa Aa Aa) Aa (Ay Aa) (Gn F Aa Aa).q fun a w F W => ?_
  refine ls F W Aa (Ax F Aa Aa Aa).q fun a w F W => ?_
  refine Ae (Ac ?_)
  exact ⟨F.re ⟨rfl, Aa, (JQ (by try rw [hb0]; all_goals simp only [JV])), trivial⟩, W⟩
 rintro a w ⟨F, W⟩
 refine AC F Aa (fun hb => ?_) fun hb => ?_
 ·
  have H := Ba hb H
  rw [hb] at F
  clear hb
  refine Ah (Ab ?_)
  refine ls F W Aa (Ag F Aa).q fun a w F W => ?_
  refine Ae (Ac (Au (AV ?_)))
  have H := AR H
  subst H
  refine AO (.inl Aa) F W Aa (AD F Aa) ?_
  exact ⟨rfl, W.done⟩
 have H := Bc (by rw [hb]; decide) H
 rw [hb] at F
 clear hb
 refine AM (Ac (Ah (Ah (Ab ?_))))
 refine ls F W Aa (Al ET Aa Aa Aa T3 F Aa 0 Aa).q fun a w F W => ?_
 refine ls F W Aa (Aw (v := Value.int .i64 p0.un.1) 0 F Aa Aa T3 Aa).q fun a w F W => ?_
 refine Ae (Ac (Bb ?_))
 obtain ⟨o2, G2, K2⟩ := Aq H
 refine BK (fun a w => ∃ x3 : Bool, some (x3) = some o2 ∧ Fr 64 [] [(1, .pointer (some ⟨b1, 0, none⟩)), (2, .bool false), (37, .int .i64 p0.un.1), (38, .bool x3)] a ∧ Stw ⟨Y, [], w0⟩ (HC b1 p0 v1) [] w) ?_ ?_
 ·
  have H := G2
  clear G2 K2
  refine Ah (Ab ?_)
  refine ls F W Aa (Bw F Aa Aa).q fun a w F W => ?_
  refine ls F W Aa (Ag F Aa).q fun a w F W => ?_
  refine Ae (Ac ?_)
  refine AC F Aa (fun hb => ?_) fun hb => ?_
  ·
   have H := Ba (BM hb) H
   rw [hb] at F
   clear hb
   refine AM (Ac ?_)
   exact ⟨_, H, F.re ⟨rfl, Aa, Aa, Aa, trivial⟩, W⟩
  have H := Bc (BL hb) H
  rw [hb] at F
  clear hb
  refine Ab ?_
  refine ls F W Aa (Bw F Aa Aa).q fun a w F W => ?_
  refine ls F W Aa (Ag F Aa).q fun a w F W => ?_
  refine Ae (Ac ?_)
  exact ⟨_, H, F.re ⟨rfl, Aa, Aa, Aa, trivial⟩, W⟩
 rintro a w ⟨x3, hj, F, W⟩
 have hj := AR hj
 subst hj
 have H := K2
 clear G2 K2
 refine AC F Aa (fun hb => ?_) fun hb => ?_
 ·
  have H := Ba hb H
  rw [hb] at F
  clear hb
  refine Ah (Ab ?_)
  refine ls F W Aa (Al ET Aa Aa Aa Lv F Aa 3 Aa).q fun a w F W => ?_
  refine ls F W Aa (Aw (v := v1) 0 F Aa Aa Lv Aa).q fun a w F W => ?_
  refine ls F W Aa (DC (r := A6) (l := p0.un.2.2.2) J7 Aa F Aa (Bd CF h1 (AG h_v1))).q fun a w F W => ?_
  refine ls F W Aa (Bw F Aa Aa).q fun a w F W => ?_
  refine ls F W Aa (Ag F Aa).q fun a w F W => ?_
  refine Ae (Ac (Au (Be (AV ?_))))
  have H := AR H
  subst H
  refine AO (.inl Aa) F W Aa (AD F Aa) ?_
  exact ⟨rfl, W.done⟩
 have H := Bc (by rw [hb]; decide) H
 rw [hb] at F
 clear hb
 refine Ah (Ab ?_)
 refine ls F W Aa (Bw F Aa Aa).q fun a w F W => ?_
 refine ls F W Aa (Ag F Aa).q fun a w F W => ?_
 refine Ae (Ac ?_)
 refine AC F Aa (fun hb => ?_) fun hb => ?_
 ·
  have H := Ba (BM hb) H
  rw [hb] at F
  clear hb
  refine Ah (Ab ?_)
  refine ls F W Aa (Al ET Aa Aa Aa Lv F Aa 3 Aa).q fun a w F W => ?_
  refine ls F W Aa (Aw (v := v1) 0 F Aa Aa Lv Aa).q fun a w F W => ?_
  refine ls F W Aa (DC (r := A6) (l := p0.un.2.2.2) J7 Aa F Aa (Bd CF h1 (AG h_v1))).q fun a w F W => ?_
  refine ls F W Aa (Bw F Aa Aa).q fun a w F W => ?_
  refine ls F W Aa (Ag F Aa).q fun a w F W => ?_
  refine Ae (Ac (Au (Be (AV ?_))))
  have H := AR H
  subst H
  refine AO (.inl Aa) F W Aa (AD F Aa) ?_
  exact ⟨rfl, W.done⟩
 have H := Bc (BL hb) H
 rw [hb] at F
 clear hb
 obtain ⟨o3, G3, K3⟩ := Aq H
 refine BK (fun a w => ∃ x4 : Bool, some (x4) = some o3 ∧ Fr 64 [] [(1, .pointer (some ⟨b1, 0, none⟩)), (2, .bool false), (51, .bool x4)] a ∧ Stw ⟨Y, [], w0⟩ (HC b1 p0 v1) [] w) ?_ ?_
 ·
  have H := G3
  clear G3 K3
  refine Ah (Ab ?_)
  refine ls F W Aa (Bw F Aa Aa).q fun a w F W => ?_
  refine ls F W Aa (Ag F Aa).q fun a w F W => ?_
  refine Ae (Ac ?_)
  refine AC F Aa (fun hb => ?_) fun hb => ?_
  ·
   have H := Ba (BM hb) H
   rw [hb] at F
   clear hb
   refine AM (Ac ?_)
   exact ⟨_, H, F.re ⟨rfl, Aa, Aa, trivial⟩, W⟩
  have H := Bc (BL hb) H
  rw [hb] at F
  clear hb
  refine Ab ?_
  refine ls F W Aa (Bw F Aa Aa).q fun a w F W => ?_
  refine ls F W Aa (Ag F Aa).q fun a w F W => ?_
  refine Ae (Ac ?_)
  exact ⟨_, H, F.re ⟨rfl, Aa, Aa, trivial⟩, W⟩
 rintro a w ⟨x4, hj, F, W⟩
 have hj := AR hj
 subst hj
 have H := K3
 clear G3 K3
 refine AC F Aa (fun hb => ?_) fun hb => ?_
 ·
  have H := Ba hb H
  rw [hb] at F
  clear hb
  refine BK (fun a w => Fr 64 [] [(2, .bool (decide (2 ≤ (p0.un.2.2.2.length : Int)) && decide ((p0.un.2.2.2.length : Int) ≤ 8)))] a ∧ Stw ⟨Y, [], w0⟩ (HC b1 p0 v1) [] w) ?_ ?_
  ·
   refine Ab ?_
   refine ls F W Aa (Al ET Aa Aa Aa Lv F Aa 3 Aa).q fun a w F W => ?_
   refine ls F W Aa (Aw (v := v1) 0 F Aa Aa Lv Aa).q fun a w F W => ?_
   refine ls F W Aa (DC (r := A6) (l := p0.un.2.2.2) J7 Aa F Aa (Bd CF h1 (AG h_v1))).q fun a w F W => ?_
   refine ls F W Aa (KS F Aa Aa).q fun a w F W => ?_
   refine ls F W Aa (Ai F Aa).q fun a w F W => ?_
   rcases Bool.eq_false_or_eq_true (decide (2 ≤ (p0.un.2.2.2.length : Int))) with hb0 | hb0
   ·
    rw [hb0] at F
    refine Bn F W (Ak F Aa Aa Aa Aa) Aa (Ay Aa) (Al ET Aa Aa Aa Lv F Aa 3 Aa).q fun a w F W => ?_
    refine Bn F W (Ak F Aa Aa Aa Aa) Aa (Ay Aa) (Aw (v := v1) 0 F Aa Aa Lv Aa).q fun a w F W => ?_
    refine Bn F W (Ak F Aa Aa Aa Aa) Aa (Ay Aa) (DC (r := A6) (l := p0.un.2.2.2) J7 Aa F Aa (Bd CF h1 (AG h_v1))).q fun a w F W => ?_
    refine Bn F W (Ak F Aa Aa Aa Aa) Aa (Ay Aa) (I9 F Aa Aa).q fun a w F W => ?_
    refine ls F W Aa (A2 F Aa Aa Aa).q fun a w F W => ?_
    refine ls F W Aa (Ag F Aa).q fun a w F W => ?_
    refine Ae (Ac ?_)
    exact ⟨F.re ⟨(JQ (by try rw [hb0]; all_goals simp only [JV])), trivial⟩, W⟩
   rw [hb0] at F
   iterate 4 refine EX F Aa Aa Aa Aa Aa Aa Aa fun a F => ?_
   refine ls F W Aa (Ax F Aa Aa Aa).q fun a w F W => ?_
   refine ls F W Aa (Ag F Aa).q fun a w F W => ?_
   refine Ae (Ac ?_)
   exact ⟨F.re ⟨(JQ (by try rw [hb0]; all_goals simp only [JV])), trivial⟩, W⟩
  rintro a w ⟨F, W⟩
  refine Au (Be (AV ?_))
  have H := AR H
  subst H
  refine AO (.inl Aa) F W Aa (AD F Aa) ?_
  exact ⟨rfl, W.done⟩
 have H := Bc (by rw [hb]; decide) H
 rw [hb] at F
 clear hb
 refine AM (BI (Ac (Ah (Ab ?_))))
 refine ls F W Aa (Ag F Aa).q fun a w F W => ?_
 refine Ae (Ac (Au ?_))
 have H := AR H
 subst H
 refine AO (.inl Aa) F W Aa (AD F Aa) ?_
 exact ⟨rfl, W.done⟩
theorem Up : Has Tryd.prog 117 := ⟨fun args w => Am Tryd.func117 rfl (by decide) args w⟩
theorem Uz : Has Tryd.prog 97 := ⟨fun args w => Am Tryd.func97 rfl (by decide) args w⟩
noncomputable def Bm (fRec : Int → Tr25 → Int → Option (Bool × Int)) (p1 : Tr25) (p2 : Int) : (Int × Int) → Option ((Int × Int) ⊕ (Int ⊕ (Bool × Int)))
  | (x4, x5) => (if x4 < (p1.un.2.2.2.length : Int) then (ix p1.un.2.2.2 x4).bind fun x6 => (fRec x5 x6 (CI (p2 - 1))).bind fun x7 => (if (!x7.1) = true then some (.inr (.inr (false, x7.2))) else some (.inl (CI (x4 + 1), x7.2))) else some (.inr (.inl x5)))
noncomputable def B7 (fRec : Int → Tr25 → Int → Option (Bool × Int)) (p0 : Int) (p1 : Tr25) (p2 : Int) : Option (Bool × Int) := (if (CI (p0 - 1)) < 0 then some true else (if p2 < 1 then some true else (HJ p1).bind fun x2 => some (!x2))).bind fun x1 => (if x1 = true then some (false, CI (p0 - 1)) else HX (Bo (Bm fRec p1 p2) (0, CI (p0 - 1))) fun x3 => some (true, x3))
noncomputable def Bf : Nat → Int → Tr25 → Int → Option (Bool × Int)
  | 0 => fun _ _ _ => none
  | n + 1 => B7 (Bf n)
noncomputable def Ee (p0 : Int) (p1 : Tr25) (p2 : Int) : Option (Bool × Int) := Ge fun n => Bf n p0 p1 p2
theorem Ii (fRec : Int → Tr25 → Int → Option (Bool × Int)) (ih : ∀ (Y : Nat → Prop) (X : List Nat) (w0 : World) (q_p0 : Nat) (v1 : Value) (p0 : Int) (p1 : Tr25) (p2 : Int) (r : Bool × Int) (H : fRec p0 p1 p2 = some r) (h_v1 : Sl w0 (NX X) A6 v1 p1.un.2.2.2) (hL : Stw ⟨Y, X, w0⟩ [(q_p0, [.int .i64 p0])] [] w0), Calls Tryd.prog 97 #[.pointer (some ⟨q_p0, 0, none⟩), .agg #[.int .i64 p1.un.1, .int .i64 p1.un.2.1, .int .i64 p1.un.2.2.1, v1], .int .i64 p2] w0 fun e w' => ∃ x : Unit, e = .returned (.bool r.1) ∧ Stw ⟨Y, X, w0⟩ [(q_p0, [.int .i64 r.2])] [] w') (Y : Nat → Prop) (X : List Nat) (w0 : World) (q_p0 : Nat) (v1 : Value) (p0 : Int) (p1 : Tr25) (p2 : Int) (r : Bool × Int) (H : B7 fRec p0 p1 p2 = some r) (h_v1 : Sl w0 (NX X) A6 v1 p1.un.2.2.2) (hL : Stw ⟨Y, X, w0⟩ [(q_p0, [.int .i64 p0])] [] w0) :
    Calls Tryd.prog 97 #[.pointer (some ⟨q_p0, 0, none⟩), .agg #[.int .i64 p1.un.1, .int .i64 p1.un.2.1, .int .i64 p1.un.2.2.1, v1], .int .i64 p2] w0 fun e w' => ∃ x : Unit, e = .returned (.bool r.1) ∧ Stw ⟨Y, X, w0⟩ [(q_p0, [.int .i64 r.2])] [] w' := by
 refine enter Tryd.func97 Aa Tryd.ntmps97 Aa fun a F => ?_
 have W := hL
 obtain ⟨v2, h1, h_v1⟩ := h_v1.ex CF
 unfold B7 at H
 refine Ah (Ab ?_)
 refine FH (cs := (IY p1 v1)) F W Aa Aa Aa fun b1 a w F W => ?_
 refine ls F W Aa (Ag F Aa).q fun a w F W => ?_
 refine Ae (Ac (Ah (Ab ?_)))
 refine ls F W Aa (Ai F Aa).q fun a w F W => ?_
 refine ls F W Aa (Cq F Aa).q fun a w F W => ?_
 refine ls F W Aa (Al Pl Aa Aa Aa T3 F Aa 0 Aa).q fun a w F W => ?_
 refine ls F W Aa (Aw (v := Value.int .i64 p0) 1 F Aa Aa T3 Aa).q fun a w F W => ?_
 refine ls F W Aa (Ly F Aa Aa Aa).q fun a w F W => ?_
 refine ls F W Aa (Cq F Aa).q fun a w F W => ?_
 refine ls F W Aa (Al Pl Aa Aa Aa T3 F Aa 0 Aa).q fun a w F W => ?_
 refine AP (vs := [.int .i64 (CI (p0 - 1))]) (M' := [(b1, (IY p1 v1)), (q_p0, [.int .i64 (CI (p0 - 1))])]) 1 F W Aa Aa Aa T3 Aa Aa Aa Aa Aa fun w W => ?_
 refine Ae (Ac (Ah ?_))
 obtain ⟨o1, G1, K1⟩ := Aq H
 refine BK (fun a w => ∃ x1 : Bool, some (x1) = some o1 ∧ Fr 44 [] [(0, .pointer (some ⟨q_p0, 0, none⟩)), (2, .int .i64 p2), (4, .pointer (some ⟨b1, 0, none⟩)), (6, .bool false), (29, .bool x1)] a ∧ Stw ⟨Y, X, w0⟩ [(b1, (IY p1 v1)), (q_p0, [.int .i64 (CI (p0 - 1))])] [] w) ?_ ?_
 ·
  have H := G1
  clear G1 K1
  refine Ab ?_
  refine ls F W Aa (Ai F Aa).q fun a w F W => ?_
  refine ls F W Aa (Cq F Aa).q fun a w F W => ?_
  refine ls F W Aa (Al Pl Aa Aa Aa T3 F Aa 0 Aa).q fun a w F W => ?_
  refine ls F W Aa (Aw (v := Value.int .i64 (CI (p0 - 1))) 1 F Aa Aa T3 Aa).q fun a w F W => ?_
  refine ls F W Aa (Fx F Aa Aa).q fun a w F W => ?_
  refine ls F W Aa (Ai F Aa).q fun a w F W => ?_
  rcases Bool.eq_false_or_eq_true (decide ((CI (p0 - 1)) < 0)) with hb | hb
  ·
   have H := Ba (BM hb) H
   rw [hb] at F
   clear hb
   iterate 2 refine EX F Aa Aa Aa Aa Aa Aa Aa fun a F => ?_
   refine ls F W Aa (A2 F Aa Aa Aa).q fun a w F W => ?_
   refine ls F W Aa (Ai F Aa).q fun a w F W => ?_
   iterate 3 refine EX F Aa Aa Aa Aa Aa Aa Aa fun a F => ?_
   refine ls F W Aa (A2 F Aa Aa Aa).q fun a w F W => ?_
   refine Ae (Ac ?_)
   have W := W.frontM (i := 1) Aa Aa
   have W := W.frontM (i := 1) Aa Aa
   exact ⟨_, H, F.re ⟨rfl, Aa, Aa, Aa, Aa, trivial⟩, W⟩
  have H := Bc (BL hb) H
  rw [hb] at F
  clear hb
  refine Bn F W (Ak F Aa Aa Aa Aa) Aa (Ay Aa) (Ai F Aa).q fun a w F W => ?_
  refine Bn F W (Ak F Aa Aa Aa Aa) Aa (Ay Aa) (Fx F Aa Aa).q fun a w F W => ?_
  refine ls F W Aa (Ax F Aa Aa Aa).q fun a w F W => ?_
  refine ls F W Aa (Ai F Aa).q fun a w F W => ?_
  rcases Bool.eq_false_or_eq_true (decide (p2 < 1)) with hb | hb
  ·
   have H := Ba (BM hb) H
   rw [hb] at F
   clear hb
   iterate 3 refine EX F Aa Aa Aa Aa Aa Aa Aa fun a F => ?_
   refine ls F W Aa (A2 F Aa Aa Aa).q fun a w F W => ?_
   refine Ae (Ac ?_)
   have W := W.frontM (i := 1) Aa Aa
   have W := W.frontM (i := 1) Aa Aa
   exact ⟨_, H, F.re ⟨rfl, Aa, Aa, Aa, Aa, trivial⟩, W⟩
  have H := Bc (BL hb) H
  rw [hb] at F
  clear hb
  refine Bn F W (Ak F Aa Aa Aa Aa) Aa (Ay Aa) (Aw (v := Value.agg #[.int .i64 p1.un.1, .int .i64 p1.un.2.1, .int .i64 p1.un.2.2.1, v1]) 0 F Aa Aa ER Aa).q fun a w F W => ?_
  refine Kj (Ak F Aa Aa Aa Aa) ?_
  obtain ⟨x2, h2, H⟩ := Aq H
  refine ls F W Aa (Bx (v := Value.bool x2) F Up Aa (fun w W => Ok any w (v1) p1 _ h2 (((Bd CF h1 (AG h_v1)) : EB _ _ _ _ _ _) w W).nx)) fun a w F W => ?_
  refine Bn F W (Ak F Aa Aa Aa Aa) Aa (Ay Aa) (Iu F Aa).q fun a w F W => ?_
  refine ls F W Aa (Ax F Aa Aa Aa).q fun a w F W => ?_
  refine Ae (Ac ?_)
  have W := W.frontM (i := 1) Aa Aa
  have W := W.frontM (i := 1) Aa Aa
  exact ⟨_, H, F.re ⟨rfl, Aa, Aa, Aa, Aa, trivial⟩, W⟩
 rintro a w ⟨x1, hj, F, W⟩
 have hj := AR hj
 subst hj
 have H := K1
 clear G1 K1
 refine AC F Aa (fun hb => ?_) fun hb => ?_
 ·
  have H := Ba hb H
  rw [hb] at F
  clear hb
  refine Ah (Ab ?_)
  refine ls F W Aa (Ag F Aa).q fun a w F W => ?_
  refine Ae (Ac (Au (AV ?_)))
  have H := AR H
  subst H
  refine AO (.inl Aa) F W Aa (AD F Aa) ?_
  have W := W.frontM (i := 1) Aa Aa
  have W := W.sub (M' := [(q_p0, [.int .i64 (CI (p0 - 1))])]) (Z' := []) (List.Sublist.cons_cons _ (List.nil_sublist _)) (List.Sublist.refl _)
  exact ⟨(), Aa, W⟩
 have H := Bc (by rw [hb]; decide) H
 rw [hb] at F
 clear hb
 refine AM (Ac ?_)
 obtain ⟨o2, G2, K2, L2⟩ := Qb H
 refine BK (fun a w => ∃ x3 : Int, some (Sum.inl x3) = some o2 ∧ Fr 44 [] [(6, .bool false)] a ∧ Stw ⟨Y, X, w0⟩ [(b1, [.int .i64 p1.un.1, .int .i64 p1.un.2.1, .int .i64 p1.un.2.2.1, v1]), (q_p0, [.int .i64 x3])] [] w) ?_ ?_
 ·
  have H := G2
  clear G2 K2
  refine Ah (Ab ?_)
  refine ls F W Aa (Al ET Aa Aa Aa Lv F Aa 3 Aa).q fun a w F W => ?_
  refine ls F W Aa (Aw (v := v1) 0 F Aa Aa Lv Aa).q fun a w F W => ?_
  refine ls F W Aa (DC (r := A6) (l := p1.un.2.2.2) J7 Aa F Aa (Bd CF h1 (AG h_v1))).q fun a w F W => ?_
  refine ls F W Aa (Ai F Aa).q fun a w F W => ?_
  refine Ae (Ac (Bb ?_))
  have W := W.frontM (i := 1) Aa Aa
  have W := W.frontM (i := 1) Aa Aa
  refine Dl H (fun s a w => Fr 44 [] [(0, .pointer (some ⟨q_p0, 0, none⟩)), (2, .int .i64 p2), (6, .bool false), (31, v1), (32, .int .i64 (p1.un.2.2.2.length : Int)), (33, .int .i64 s.1)] a ∧ Stw ⟨Y, X, w0⟩ [(b1, (IY p1 v1)), (q_p0, [.int .i64 s.2])] [] w) ⟨F.re ⟨rfl, Aa, Aa, Aa, Aa, Aa, trivial⟩, W⟩ fun s o a w H L3 hR => ?_
  obtain ⟨x4, x5⟩ := s
  obtain ⟨F, W⟩ := hR
  have F : Fr 44 [] [(0, .pointer (some ⟨q_p0, 0, none⟩)), (2, .int .i64 p2), (6, .bool false), (31, v1), (32, .int .i64 (p1.un.2.2.2.length : Int)), (33, .int .i64 x4)] a := F
  have W : Stw ⟨Y, X, w0⟩ [(b1, [.int .i64 p1.un.1, .int .i64 p1.un.2.1, .int .i64 p1.un.2.2.1, v1]), (q_p0, [.int .i64 x5])] [] w := W
  rw [Bm] at H
  refine Ah (Ab ?_)
  refine ls F W Aa (Fx F Aa Aa).q fun a w F W => ?_
  refine Ae (Ac (Ah ?_))
  refine AC F Aa (fun hb => ?_) fun hb => ?_
  ·
   have H := Ba (BM hb) H
   rw [hb] at F
   clear hb
   refine AM (Ac (Ah (Bb (Ah (Ab ?_)))))
   obtain ⟨x6, h3, H⟩ := Aq H
   obtain ⟨v3, h4, h5⟩ := Gy h1 h3
   have h6 : JE v3 = [.int .i64 x6.un.1, .int .i64 x6.un.2.1, .int .i64 x6.un.2.2.1, (v3.2.2.2.1)] := congrArg (fun q : Tr25 => ([.int .i64 q.un.1, .int .i64 q.un.2.1, .int .i64 q.un.2.2.1, (v3.2.2.2.1)] : List Value)) h5
   refine ls F W Aa (DS (r := MJ) Pi F Aa Aa (AG h_v1) h4).q fun a w F W => ?_
   refine ls F W Aa (CG (y := Value.agg #[.int .i64 x6.un.1, .int .i64 x6.un.2.1, .int .i64 x6.un.2.2.1, (v3.2.2.2.1)]) (j := 0) (i := x4) (enc := JE) F Aa Aa (AG h_v1) h4 ON ER (by rw [h6]; rfl)).q fun a w F W => ?_
   refine BA (cs := (CH)) F W Aa Ny Aa fun b2 a w F W => ?_
   refine AP (vs := [.int .i64 x6.un.1, .int .i64 x6.un.2.1, .int .i64 x6.un.2.2.1, (v3.2.2.2.1)]) (M' := [(b2, [.int .i64 x6.un.1, .int .i64 x6.un.2.1, .int .i64 x6.un.2.2.1, (v3.2.2.2.1)]), (b1, (IY p1 v1)), (q_p0, [.int .i64 x5])]) 0 F W Aa Aa Aa ER Aa Aa Aa (Af Aa (Af Aa (Af Aa (Af ((Cz (AG h_v1) h4 (AE.snd (AE.snd (AE.snd AE.here))) (congrArg (fun q : Tr25 => q.un.2.2.2) h5)) _ W).one BC)))) Aa fun w W => ?_
   refine Ae (Ac (Ah (Ab ?_)))
   refine ls F W Aa (Ai F Aa).q fun a w F W => ?_
   refine ls F W Aa (Aw (v := Value.agg #[.int .i64 x6.un.1, .int .i64 x6.un.2.1, .int .i64 x6.un.2.2.1, (v3.2.2.2.1)]) 0 F Aa Aa ER Aa).q fun a w F W => ?_
   refine ls F W Aa (Ai F Aa).q fun a w F W => ?_
   refine ls F W Aa (Ly F Aa Aa Aa).q fun a w F W => ?_
   obtain ⟨x7, h7, H⟩ := Aq H
   have W := W.frontM (i := 2) Aa Aa
   refine Bp (Ml := [(q_p0, [.int .i64 x5])]) (Zl := []) (M := [(b2, [.int .i64 x6.un.1, .int .i64 x6.un.2.1, .int .i64 x6.un.2.2.1, (v3.2.2.2.1)]), (b1, (IY p1 v1))]) (Z := []) (β := Unit) (rv := fun x => .bool x7.1) (MM := fun x => [(q_p0, [.int .i64 x7.2])]) (ZZ := fun x => []) F W Uz Aa Aa (fun hL => ih _ _ w q_p0 ((v3.2.2.2.1)) x5 x6 (CI (p2 - 1)) _ h7 (Sl.at_ (W.roX h_v1 (fun g hg => Jb hg)) h4 (AE.snd (AE.snd (AE.snd AE.here))) (congrArg (fun q : Tr25 => q.un.2.2.2) h5)) hL) fun x a w F W => ?_
   have W : Stw ⟨Y, X, w0⟩ [(q_p0, [.int .i64 x7.2]), (b2, [.int .i64 x6.un.1, .int .i64 x6.un.2.1, .int .i64 x6.un.2.2.1, (v3.2.2.2.1)]), (b1, (IY p1 v1))] [] w := W
   refine ls F W Aa (Iu F Aa).q fun a w F W => ?_
   refine Ae (Ac ?_)
   refine AC F Aa (fun hb => ?_) fun hb => ?_
   ·
    have H := Ba hb H
    rw [hb] at F
    clear hb
    refine Ah (Ab ?_)
    refine ls F W Aa (Ag F Aa).q fun a w F W => ?_
    refine Ae (Ac (Au (Be ?_)))
    iterate 2 refine AV ?_
    refine Be (AV ?_)
    have H := L3 _ H
    have H := L2 _ H
    have H := AR H
    subst H
    refine AO (.inl Aa) F W Aa (AD F Aa) ?_
    have W := W.sub (M' := [(q_p0, [.int .i64 x7.2])]) (Z' := []) (List.Sublist.cons_cons _ (List.nil_sublist _)) (List.Sublist.refl _)
    exact ⟨(), Aa, W⟩
   have H := Bc (by rw [hb]; decide) H
   rw [hb] at F
   clear hb
   refine AM (BI (Ac (Ab ?_)))
   refine ls F W Aa (Fe F Aa Aa Aa).q fun a w F W => ?_
   refine ls F W Aa (Ai F Aa).q fun a w F W => ?_
   refine Ae (Ac ?_)
   have W := W.frontM (i := 2) Aa Aa
   have W := W.sub (M' := [(b1, [.int .i64 p1.un.1, .int .i64 p1.un.2.1, .int .i64 p1.un.2.2.1, v1]), (q_p0, [.int .i64 x7.2])]) (Z' := []) (List.Sublist.cons_cons _ (List.Sublist.cons_cons _ (List.nil_sublist _))) (List.Sublist.refl _)
   exact ⟨_, H, F.re ⟨rfl, Aa, Aa, Aa, Aa, Aa, trivial⟩, W⟩
  have H := Bc (BL hb) H
  rw [hb] at F
  clear hb
  refine Do ?_
  iterate 2 refine Er ?_
  refine Dk (Ac ?_)
  have W := W.frontM (i := 1) Aa Aa
  have W := W.frontM (i := 1) Aa Aa
  have H := L3 _ H
  exact ⟨_, H, F.re ⟨rfl, trivial⟩, W⟩
 rintro a w ⟨x3, hj, F, W⟩
 have H := K2 _ hj
 clear hj G2 K2 L2
 refine Ah (Ab ?_)
 refine ls F W Aa (Ag F Aa).q fun a w F W => ?_
 refine Ae (Ac (Au ?_))
 have H := AR H
 subst H
 refine AO (.inl Aa) F W Aa (AD F Aa) ?_
 have W := W.frontM (i := 1) Aa Aa
 have W := W.sub (M' := [(q_p0, [.int .i64 x3])]) (Z' := []) (List.Sublist.cons_cons _ (List.nil_sublist _)) (List.Sublist.refl _)
 exact ⟨(), Aa, W⟩
theorem Iz : ∀ (n : Nat) (Y : Nat → Prop) (X : List Nat) (w0 : World) (q_p0 : Nat) (v1 : Value) (p0 : Int) (p1 : Tr25) (p2 : Int) (r : Bool × Int) (H : Bf n p0 p1 p2 = some r) (h_v1 : Sl w0 (NX X) A6 v1 p1.un.2.2.2) (hL : Stw ⟨Y, X, w0⟩ [(q_p0, [.int .i64 p0])] [] w0), Calls Tryd.prog 97 #[.pointer (some ⟨q_p0, 0, none⟩), .agg #[.int .i64 p1.un.1, .int .i64 p1.un.2.1, .int .i64 p1.un.2.2.1, v1], .int .i64 p2] w0 fun e w' => ∃ x : Unit, e = .returned (.bool r.1) ∧ Stw ⟨Y, X, w0⟩ [(q_p0, [.int .i64 r.2])] [] w' := by
  intro n
  induction n with
  | zero => intro Y X w0 q_p0 v1 p0 p1 p2 r H; exact nomatch H
  | succ n ih => intro Y X w0 q_p0 v1 p0 p1 p2 r H h_v1 hL; exact Ii (Bf n) ih Y X w0 q_p0 v1 p0 p1 p2 r H h_v1 hL
theorem IH (Y : Nat → Prop) (X : List Nat) (w0 : World) (q_p0 : Nat) (v1 : Value) (p0 : Int) (p1 : Tr25) (p2 : Int) (r : Bool × Int) (H : Ee p0 p1 p2 = some r) (h_v1 : Sl w0 (NX X) A6 v1 p1.un.2.2.2) (hL : Stw ⟨Y, X, w0⟩ [(q_p0, [.int .i64 p0])] [] w0) :
    Calls Tryd.prog 97 #[.pointer (some ⟨q_p0, 0, none⟩), .agg #[.int .i64 p1.un.1, .int .i64 p1.un.2.1, .int .i64 p1.un.2.2.1, v1], .int .i64 p2] w0 fun e w' => ∃ x : Unit, e = .returned (.bool r.1) ∧ Stw ⟨Y, X, w0⟩ [(q_p0, [.int .i64 r.2])] [] w' := by
  obtain ⟨n, H⟩ := Cy H
  exact Iz n Y X w0 q_p0 v1 p0 p1 p2 r H h_v1 hL
noncomputable def F2 (p0 : Tr25) : Option Bool := (Ee 64 p0 8).bind fun x1 => some x1.1
theorem Nn (Y : Nat → Prop) (w0 : World) (v1 : Value) (p0 : Tr25) (r : Bool) (H : F2 p0 = some r) (h_v1 : Sl w0 (NX []) A6 v1 p0.un.2.2.2) :
    Calls Tryd.prog 79 #[.agg #[.int .i64 p0.un.1, .int .i64 p0.un.2.1, .int .i64 p0.un.2.2.1, v1]] w0 fun e w' => e = .returned (.bool r) ∧ Below w0.heap.size w0 w' := by
 refine enter Tryd.func79 Aa Tryd.ntmps79 Aa fun a F => ?_
 have W := Stw.start Y w0
 obtain ⟨v2, h1, h_v1⟩ := h_v1.ex CF
 unfold F2 at H
 refine Ah (Ab ?_)
 refine FH (cs := (IY p0 v1)) F W Aa Aa Aa fun b1 a w F W => ?_
 refine ls F W Aa (Ag F Aa).q fun a w F W => ?_
 refine Ae (Ac (Ah (Ab ?_)))
 refine ls F W Aa (Cx (v := Value.agg #[.int .i64 64]) Uf F Aa Aa Aa).q fun a w F W => ?_
 refine BA (cs := [.int .i64 0]) F W Aa T7 Aa fun b2 a w F W => ?_
 refine AP (vs := [.int .i64 64]) (M' := [(b2, [.int .i64 64]), (b1, [.int .i64 p0.un.1, .int .i64 p0.un.2.1, .int .i64 p0.un.2.2.1, v1])]) 0 F W Aa Aa Aa Ud Aa Aa Aa Aa Aa fun w W => ?_
 refine Ae (Ac (Ah (Ab ?_)))
 refine ls F W Aa (Aw (v := Value.agg #[.int .i64 p0.un.1, .int .i64 p0.un.2.1, .int .i64 p0.un.2.2.1, v1]) 1 F Aa Aa ER Aa).q fun a w F W => ?_
 obtain ⟨x1, h2, H⟩ := Aq H
 refine Bp (Ml := [(b2, [.int .i64 64])]) (Zl := []) (M := (HC b1 p0 v1)) (Z := []) (β := Unit) (rv := fun x => .bool x1.1) (MM := fun x => [(b2, [.int .i64 x1.2])]) (ZZ := fun x => []) F W Uz Aa Aa (fun hL => IH _ _ w b2 (v1) 64 p0 8 _ h2 (Sl.hide CF h1 (W.roX h_v1 (fun g hg => Jb hg))) hL) fun x a w F W => ?_
 have W : Stw ⟨Y, [], w0⟩ [(b2, [.int .i64 x1.2]), (b1, [.int .i64 p0.un.1, .int .i64 p0.un.2.1, .int .i64 p0.un.2.2.1, v1])] [] w := W
 refine ls F W Aa (Ag F Aa).q fun a w F W => ?_
 refine Ae (Ac (Au ?_))
 have H := AR H
 subst H
 refine AO (.inl Aa) F W Aa (AD F Aa) ?_
 exact ⟨rfl, W.done⟩
theorem UZ : Has Tryd.prog 79 := ⟨fun args w => Am Tryd.func79 rfl (by decide) args w⟩
theorem UD : Has Tryd.prog 80 := ⟨fun args w => Am Tryd.func80 rfl (by decide) args w⟩
noncomputable def CR (fRec : Tr25 → Option Int) (p0 : Tr25) : (Int × Int) → Option ((Int × Int) ⊕ Int)
  | (x2, x3) => (if x3 < (p0.un.2.2.2.length : Int) then (ix p0.un.2.2.2 x3).bind fun x4 => (fRec x4).bind fun x5 => some (.inl (CI (x2 + x5), CI (x3 + 1))) else some (.inr x2))
noncomputable def DU (fRec : Tr25 → Option Int) (p0 : Tr25) : Option Int := (Bo (CR fRec p0) (1, 0)).bind fun x1 => some x1
noncomputable def C6 : Nat → Tr25 → Option Int
  | 0 => fun _ => none
  | n + 1 => DU (C6 n)
noncomputable def Jh (p0 : Tr25) : Option Int := Ge fun n => C6 n p0
theorem MU (fRec : Tr25 → Option Int) (ih : ∀ (Y : Nat → Prop) (w0 : World) (v1 : Value) (p0 : Tr25) (r : Int) (H : fRec p0 = some r) (h_v1 : Sl w0 (NX []) A6 v1 p0.un.2.2.2), Calls Tryd.prog 80 #[.agg #[.int .i64 p0.un.1, .int .i64 p0.un.2.1, .int .i64 p0.un.2.2.1, v1]] w0 fun e w' => e = .returned (.int .i64 r) ∧ Below w0.heap.size w0 w') (Y : Nat → Prop) (w0 : World) (v1 : Value) (p0 : Tr25) (r : Int) (H : DU fRec p0 = some r) (h_v1 : Sl w0 (NX []) A6 v1 p0.un.2.2.2) :
    Calls Tryd.prog 80 #[.agg #[.int .i64 p0.un.1, .int .i64 p0.un.2.1, .int .i64 p0.un.2.2.1, v1]] w0 fun e w' => e = .returned (.int .i64 r) ∧ Below w0.heap.size w0 w' := by
 refine enter Tryd.func80 Aa Tryd.ntmps80 Aa fun a F => ?_
 have W := Stw.start Y w0
 obtain ⟨v2, h1, h_v1⟩ := h_v1.ex CF
 unfold DU at H
 refine Ah (Ab ?_)
 refine FH (cs := (IY p0 v1)) F W Aa Aa Aa fun b1 a w F W => ?_
 refine ls F W Aa (Ag F Aa).q fun a w F W => ?_
 refine Ae (Ac (Ah (Ab ?_)))
 refine ls F W Aa (Ag F Aa).q fun a w F W => ?_
 refine Ae (Ac ?_)
 obtain ⟨o1, G1, K1⟩ := Aq H
 refine BK (fun a w => ∃ x1 : Int, some (x1) = some o1 ∧ Fr 19 [] [(2, .int .i64 0), (3, .int .i64 x1)] a ∧ Stw ⟨Y, [], w0⟩ (HC b1 p0 v1) [] w) ?_ ?_
 ·
  have H := G1
  clear G1 K1
  refine Ah (Ab ?_)
  refine ls F W Aa (Al ET Aa Aa Aa Lv F Aa 3 Aa).q fun a w F W => ?_
  refine ls F W Aa (Aw (v := v1) 0 F Aa Aa Lv Aa).q fun a w F W => ?_
  refine ls F W Aa (DC (r := A6) (l := p0.un.2.2.2) J7 Aa F Aa (Bd CF h1 (AG h_v1))).q fun a w F W => ?_
  refine ls F W Aa (Ai F Aa).q fun a w F W => ?_
  refine Ae (Ac (Bb ?_))
  refine Dl H (fun s a w => Fr 19 [] [(2, .int .i64 0), (3, .int .i64 s.1), (7, v1), (8, .int .i64 (p0.un.2.2.2.length : Int)), (9, .int .i64 s.2)] a ∧ Stw ⟨Y, [], w0⟩ (HC b1 p0 v1) [] w) ⟨F.re ⟨rfl, Aa, Aa, Aa, Aa, trivial⟩, W⟩ fun s o a w H L2 hR => ?_
  obtain ⟨x2, x3⟩ := s
  obtain ⟨F, W⟩ := hR
  have F : Fr 19 [] [(2, .int .i64 0), (3, .int .i64 x2), (7, v1), (8, .int .i64 (p0.un.2.2.2.length : Int)), (9, .int .i64 x3)] a := F
  have W : Stw ⟨Y, [], w0⟩ (HC b1 p0 v1) [] w := W
  rw [CR] at H
  refine Ah (Ab ?_)
  refine ls F W Aa (Fx F Aa Aa).q fun a w F W => ?_
  refine Ae (Ac (Ah ?_))
  refine AC F Aa (fun hb => ?_) fun hb => ?_
  ·
   have H := Ba (BM hb) H
   rw [hb] at F
   clear hb
   refine AM (Ac (Ah (Bb (Ah (Ab ?_)))))
   obtain ⟨x4, h2, H⟩ := Aq H
   obtain ⟨v3, h3, h4⟩ := Gy h1 h2
   have h5 : JE v3 = [.int .i64 x4.un.1, .int .i64 x4.un.2.1, .int .i64 x4.un.2.2.1, (v3.2.2.2.1)] := congrArg (fun q : Tr25 => ([.int .i64 q.un.1, .int .i64 q.un.2.1, .int .i64 q.un.2.2.1, (v3.2.2.2.1)] : List Value)) h4
   refine ls F W Aa (DS (r := MJ) Pi F Aa Aa (AG h_v1) h3).q fun a w F W => ?_
   refine ls F W Aa (CG (y := Value.agg #[.int .i64 x4.un.1, .int .i64 x4.un.2.1, .int .i64 x4.un.2.2.1, (v3.2.2.2.1)]) (j := 0) (i := x3) (enc := JE) F Aa Aa (AG h_v1) h3 ON ER (by rw [h5]; rfl)).q fun a w F W => ?_
   refine BA (cs := (CH)) F W Aa Ny Aa fun b2 a w F W => ?_
   refine AP (vs := [.int .i64 x4.un.1, .int .i64 x4.un.2.1, .int .i64 x4.un.2.2.1, (v3.2.2.2.1)]) (M' := [(b2, [.int .i64 x4.un.1, .int .i64 x4.un.2.1, .int .i64 x4.un.2.2.1, (v3.2.2.2.1)]), (b1, (IY p0 v1))]) 0 F W Aa Aa Aa ER Aa Aa Aa (Af Aa (Af Aa (Af Aa (Af ((Cz (AG h_v1) h3 (AE.snd (AE.snd (AE.snd AE.here))) (congrArg (fun q : Tr25 => q.un.2.2.2) h4)) _ W).one BC)))) Aa fun w W => ?_
   refine Ae (Ac (Ab ?_))
   refine ls F W Aa (Ai F Aa).q fun a w F W => ?_
   refine ls F W Aa (Aw (v := Value.agg #[.int .i64 x4.un.1, .int .i64 x4.un.2.1, .int .i64 x4.un.2.2.1, (v3.2.2.2.1)]) 0 F Aa Aa ER Aa).q fun a w F W => ?_
   obtain ⟨x5, h6, H⟩ := Aq H
   refine ls F W Aa (Bx (v := Value.int .i64 x5) F UD Aa (fun w W => ih any w ((v3.2.2.2.1)) x4 _ h6 (((Cz (AG h_v1) h3 (AE.snd (AE.snd (AE.snd AE.here))) (congrArg (fun q : Tr25 => q.un.2.2.2) h4)) : EB _ _ _ _ _ _) w W).nx)) fun a w F W => ?_
   refine ls F W Aa (Fe F Aa Aa Aa).q fun a w F W => ?_
   refine ls F W Aa (Ag F Aa).q fun a w F W => ?_
   refine Ae (BI (Ac (Ab ?_)))
   refine ls F W Aa (Fe F Aa Aa Aa).q fun a w F W => ?_
   refine ls F W Aa (Ai F Aa).q fun a w F W => ?_
   refine Ae (Ac ?_)
   have W := W.frontM (i := 1) Aa Aa
   have W := W.sub (M' := (HC b1 p0 v1)) (Z' := []) (List.Sublist.cons_cons _ (List.nil_sublist _)) (List.Sublist.refl _)
   exact ⟨_, H, F.re ⟨rfl, Aa, Aa, Aa, Aa, trivial⟩, W⟩
  have H := Bc (BL hb) H
  rw [hb] at F
  clear hb
  refine Do ?_
  iterate 2 refine Er ?_
  refine Dk (Ac ?_)
  have H := L2 _ H
  exact ⟨_, H, F.re ⟨rfl, Aa, trivial⟩, W⟩
 rintro a w ⟨x1, hj, F, W⟩
 have hj := AR hj
 subst hj
 have H := K1
 clear G1 K1
 refine Ah (Ab ?_)
 refine ls F W Aa (Ai F Aa).q fun a w F W => ?_
 refine ls F W Aa (Ag F Aa).q fun a w F W => ?_
 refine Ae (Ac (Au ?_))
 have H := AR H
 subst H
 refine AO (.inl Aa) F W Aa (AD F Aa) ?_
 exact ⟨rfl, W.done⟩
theorem Ns : ∀ (n : Nat) (Y : Nat → Prop) (w0 : World) (v1 : Value) (p0 : Tr25) (r : Int) (H : C6 n p0 = some r) (h_v1 : Sl w0 (NX []) A6 v1 p0.un.2.2.2), Calls Tryd.prog 80 #[.agg #[.int .i64 p0.un.1, .int .i64 p0.un.2.1, .int .i64 p0.un.2.2.1, v1]] w0 fun e w' => e = .returned (.int .i64 r) ∧ Below w0.heap.size w0 w' := by
  intro n
  induction n with
  | zero => intro Y w0 v1 p0 r H; exact nomatch H
  | succ n ih => intro Y w0 v1 p0 r H h_v1; exact MU (C6 n) ih Y w0 v1 p0 r H h_v1
theorem Ou (Y : Nat → Prop) (w0 : World) (v1 : Value) (p0 : Tr25) (r : Int) (H : Jh p0 = some r) (h_v1 : Sl w0 (NX []) A6 v1 p0.un.2.2.2) :
    Calls Tryd.prog 80 #[.agg #[.int .i64 p0.un.1, .int .i64 p0.un.2.1, .int .i64 p0.un.2.2.1, v1]] w0 fun e w' => e = .returned (.int .i64 r) ∧ Below w0.heap.size w0 w' := by
  obtain ⟨n, H⟩ := Cy H
  exact Ns n Y w0 v1 p0 r H h_v1
theorem Uy : Has Tryd.prog 53 := ⟨fun args w => Am Tryd.func53 rfl (by decide) args w⟩
abbrev Nz (a0 : Nat) (a1 : Tr28) (a2 : Value) (a3 : Value) (a4 : Nat) (a5 : Int) : List (Nat × List Value) := [(a0, [.int .i64 a1.un.1, .int .i64 a1.un.2.1.un.1, .int .i64 a1.un.2.1.un.2.1, .int .i64 a1.un.2.1.un.2.2.1, a2, .int .i64 a1.un.2.2.1, .int .i64 a1.un.2.2.2.1, a3]), (a4, [.int .i64 a5])]
noncomputable def A5 (fRec : Int → Tr28 → Int → Option (Bool × Int)) (p1 : Tr28) (p2 : Int) : (Int × Int) → Option ((Int × Int) ⊕ (Int ⊕ (Bool × Int)))
  | (x7, x8) => (if x7 < (p1.un.2.2.2.2.length : Int) then (ix p1.un.2.2.2.2 x7).bind fun x9 => (fRec x8 (Tr28.of (x9.un.1, Tr25.of (x9.un.2.1.un.1, x9.un.2.1.un.2.1, x9.un.2.1.un.2.2.1, x9.un.2.1.un.2.2.2), x9.un.2.2.1, x9.un.2.2.2.1, x9.un.2.2.2.2)) (CI (p2 - 1))).bind fun x10 => (if (!x10.1) = true then some (.inr (.inr (false, x10.2))) else some (.inl (CI (x7 + 1), x10.2))) else some (.inr (.inl x8)))
noncomputable def BX (fRec : Int → Tr28 → Int → Option (Bool × Int)) (p0 : Int) (p1 : Tr28) (p2 : Int) : Option (Bool × Int) := (if p0 < 1 then some true else (if p2 < 1 then some true else (Ga (Tr28.of (p1.un.1, Tr25.of (p1.un.2.1.un.1, p1.un.2.1.un.2.1, p1.un.2.1.un.2.2.1, p1.un.2.1.un.2.2.2), p1.un.2.2.1, p1.un.2.2.2.1, p1.un.2.2.2.2))).bind fun x2 => some (!x2))).bind fun x1 => (if x1 = true then some (false, p0) else HX (if (decide (p1.un.1 = 1) || decide (p1.un.1 = 5)) = true then (F2 (Tr25.of (p1.un.2.1.un.1, p1.un.2.1.un.2.1, p1.un.2.1.un.2.2.1, p1.un.2.1.un.2.2.2))).bind fun x4 => (if (!x4) = true then some (.inr (false, CI (p0 - 1))) else (Jh (Tr25.of (p1.un.2.1.un.1, p1.un.2.1.un.2.1, p1.un.2.1.un.2.2.1, p1.un.2.1.un.2.2.2))).bind fun x5 => some (.inl (CI ((CI (p0 - 1)) - x5)))) else some (.inl (CI (p0 - 1)))) fun x3 => HX (Bo (A5 fRec p1 p2) (0, x3)) fun x6 => some (decide (0 ≤ x6), x6))
noncomputable def AX : Nat → Int → Tr28 → Int → Option (Bool × Int)
  | 0 => fun _ _ _ => none
  | n + 1 => BX (AX n)
noncomputable def DI (p0 : Int) (p1 : Tr28) (p2 : Int) : Option (Bool × Int) := Ge fun n => AX n p0 p1 p2
theorem Ho (fRec : Int → Tr28 → Int → Option (Bool × Int)) (ih : ∀ (Y : Nat → Prop) (X : List Nat) (w0 : World) (q_p0 : Nat) (v1 : Value) (v2 : Value) (p0 : Int) (p1 : Tr28) (p2 : Int) (r : Bool × Int) (H : fRec p0 p1 p2 = some r) (h_v1 : Sl w0 (NX X) A6 v1 p1.un.2.1.un.2.2.2) (h_v2 : Sl w0 (NX X) BJ v2 p1.un.2.2.2.2) (hL : Stw ⟨Y, X, w0⟩ [(q_p0, [.int .i64 p0])] [] w0), Calls Tryd.prog 53 #[.pointer (some ⟨q_p0, 0, none⟩), .agg #[.int .i64 p1.un.1, .int .i64 p1.un.2.1.un.1, .int .i64 p1.un.2.1.un.2.1, .int .i64 p1.un.2.1.un.2.2.1, v1, .int .i64 p1.un.2.2.1, .int .i64 p1.un.2.2.2.1, v2], .int .i64 p2] w0 fun e w' => ∃ x : Unit, e = .returned (.bool r.1) ∧ Stw ⟨Y, X, w0⟩ [(q_p0, [.int .i64 r.2])] [] w') (Y : Nat → Prop) (X : List Nat) (w0 : World) (q_p0 : Nat) (v1 : Value) (v2 : Value) (p0 : Int) (p1 : Tr28) (p2 : Int) (r : Bool × Int) (H : BX fRec p0 p1 p2 = some r) (h_v1 : Sl w0 (NX X) A6 v1 p1.un.2.1.un.2.2.2) (h_v2 : Sl w0 (NX X) BJ v2 p1.un.2.2.2.2) (hL : Stw ⟨Y, X, w0⟩ [(q_p0, [.int .i64 p0])] [] w0) :
    Calls Tryd.prog 53 #[.pointer (some ⟨q_p0, 0, none⟩), .agg #[.int .i64 p1.un.1, .int .i64 p1.un.2.1.un.1, .int .i64 p1.un.2.1.un.2.1, .int .i64 p1.un.2.1.un.2.2.1, v1, .int .i64 p1.un.2.2.1, .int .i64 p1.un.2.2.2.1, v2], .int .i64 p2] w0 fun e w' => ∃ x : Unit, e = .returned (.bool r.1) ∧ Stw ⟨Y, X, w0⟩ [(q_p0, [.int .i64 r.2])] [] w' := by
 refine enter Tryd.func53 Aa Tryd.ntmps53 Aa fun a F => ?_
 have W := hL
 obtain ⟨v3, h1, h_v1⟩ := h_v1.ex CF
 obtain ⟨v4, h2, h_v2⟩ := h_v2.ex Eg
 unfold BX at H
 refine Ah (Ab ?_)
 refine FH (cs := (Fa p1 v1 v2)) F W Aa Aa Aa fun b1 a w F W => ?_
 refine ls F W Aa (Ag F Aa).q fun a w F W => ?_
 refine Ae (Ac (Ah ?_))
 obtain ⟨o1, G1, K1⟩ := Aq H
 refine BK (fun a w => ∃ x1 : Bool, some (x1) = some o1 ∧ Fr 71 [] [(0, .pointer (some ⟨q_p0, 0, none⟩)), (2, .int .i64 p2), (4, .pointer (some ⟨b1, 0, none⟩)), (6, .bool false), (22, .bool x1)] a ∧ Stw ⟨Y, X, w0⟩ (Nz b1 p1 v1 v2 q_p0 p0) [] w) ?_ ?_
 ·
  have H := G1
  clear G1 K1
  refine Ab ?_
  refine ls F W Aa (Ai F Aa).q fun a w F W => ?_
  refine ls F W Aa (Cq F Aa).q fun a w F W => ?_
  refine ls F W Aa (Al O1 Aa Aa Aa T3 F Aa 0 Aa).q fun a w F W => ?_
  refine ls F W Aa (Aw (v := Value.int .i64 p0) 1 F Aa Aa T3 Aa).q fun a w F W => ?_
  refine ls F W Aa (Fx F Aa Aa).q fun a w F W => ?_
  refine ls F W Aa (Ai F Aa).q fun a w F W => ?_
  rcases Bool.eq_false_or_eq_true (decide (p0 < 1)) with hb | hb
  ·
   have H := Ba (BM hb) H
   rw [hb] at F
   clear hb
   iterate 2 refine EX F Aa Aa Aa Aa Aa Aa Aa fun a F => ?_
   refine ls F W Aa (A2 F Aa Aa Aa).q fun a w F W => ?_
   refine ls F W Aa (Ai F Aa).q fun a w F W => ?_
   iterate 3 refine EX F Aa Aa Aa Aa Aa Aa Aa fun a F => ?_
   refine ls F W Aa (A2 F Aa Aa Aa).q fun a w F W => ?_
   refine Ae (Ac ?_)
   have W := W.frontM (i := 1) Aa Aa
   have W := W.frontM (i := 1) Aa Aa
   exact ⟨_, H, F.re ⟨rfl, Aa, Aa, Aa, Aa, trivial⟩, W⟩
  have H := Bc (BL hb) H
  rw [hb] at F
  clear hb
  refine Bn F W (Ak F Aa Aa Aa Aa) Aa (Ay Aa) (Ai F Aa).q fun a w F W => ?_
  refine Bn F W (Ak F Aa Aa Aa Aa) Aa (Ay Aa) (Fx F Aa Aa).q fun a w F W => ?_
  refine ls F W Aa (Ax F Aa Aa Aa).q fun a w F W => ?_
  refine ls F W Aa (Ai F Aa).q fun a w F W => ?_
  rcases Bool.eq_false_or_eq_true (decide (p2 < 1)) with hb | hb
  ·
   have H := Ba (BM hb) H
   rw [hb] at F
   clear hb
   iterate 3 refine EX F Aa Aa Aa Aa Aa Aa Aa fun a F => ?_
   refine ls F W Aa (A2 F Aa Aa Aa).q fun a w F W => ?_
   refine Ae (Ac ?_)
   have W := W.frontM (i := 1) Aa Aa
   have W := W.frontM (i := 1) Aa Aa
   exact ⟨_, H, F.re ⟨rfl, Aa, Aa, Aa, Aa, trivial⟩, W⟩
  have H := Bc (BL hb) H
  rw [hb] at F
  clear hb
  refine Bn F W (Ak F Aa Aa Aa Aa) Aa (Ay Aa) (Aw (v := Value.agg #[.int .i64 p1.un.1, .int .i64 p1.un.2.1.un.1, .int .i64 p1.un.2.1.un.2.1, .int .i64 p1.un.2.1.un.2.2.1, v1, .int .i64 p1.un.2.2.1, .int .i64 p1.un.2.2.2.1, v2]) 0 F Aa Aa D1 Aa).q fun a w F W => ?_
  refine Kj (Ak F Aa Aa Aa Aa) ?_
  obtain ⟨x2, h3, H⟩ := Aq H
  refine ls F W Aa (Bx (v := Value.bool x2) F UY Aa (fun w W => ME any w (v1) (v2) (Tr28.of (p1.un.1, Tr25.of (p1.un.2.1.un.1, p1.un.2.1.un.2.1, p1.un.2.1.un.2.2.1, p1.un.2.1.un.2.2.2), p1.un.2.2.1, p1.un.2.2.2.1, p1.un.2.2.2.2)) _ h3 (((Bd CF h1 (AG h_v1)) : EB _ _ _ _ _ _) w W).nx (((Bd Eg h2 (AG h_v2)) : EB _ _ _ _ _ _) w W).nx)) fun a w F W => ?_
  refine Bn F W (Ak F Aa Aa Aa Aa) Aa (Ay Aa) (Iu F Aa).q fun a w F W => ?_
  refine ls F W Aa (Ax F Aa Aa Aa).q fun a w F W => ?_
  refine Ae (Ac ?_)
  have W := W.frontM (i := 1) Aa Aa
  have W := W.frontM (i := 1) Aa Aa
  exact ⟨_, H, F.re ⟨rfl, Aa, Aa, Aa, Aa, trivial⟩, W⟩
 rintro a w ⟨x1, hj, F, W⟩
 have hj := AR hj
 subst hj
 have H := K1
 clear G1 K1
 refine AC F Aa (fun hb => ?_) fun hb => ?_
 ·
  have H := Ba hb H
  rw [hb] at F
  clear hb
  refine Ah (Ab ?_)
  refine ls F W Aa (Ag F Aa).q fun a w F W => ?_
  refine Ae (Ac (Au (AV ?_)))
  have H := AR H
  subst H
  refine AO (.inl Aa) F W Aa (AD F Aa) ?_
  have W := W.frontM (i := 1) Aa Aa
  have W := W.sub (M' := [(q_p0, [.int .i64 p0])]) (Z' := []) (List.Sublist.cons_cons _ (List.nil_sublist _)) (List.Sublist.refl _)
  exact ⟨(), Aa, W⟩
 have H := Bc (by rw [hb]; decide) H
 rw [hb] at F
 clear hb
 refine AM (Ac (Ah (Ab ?_)))
 refine ls F W Aa (Ai F Aa).q fun a w F W => ?_
 refine ls F W Aa (Cq F Aa).q fun a w F W => ?_
 refine ls F W Aa (Al O1 Aa Aa Aa T3 F Aa 0 Aa).q fun a w F W => ?_
 refine ls F W Aa (Aw (v := Value.int .i64 p0) 1 F Aa Aa T3 Aa).q fun a w F W => ?_
 refine ls F W Aa (Ly F Aa Aa Aa).q fun a w F W => ?_
 refine ls F W Aa (Cq F Aa).q fun a w F W => ?_
 refine ls F W Aa (Al O1 Aa Aa Aa T3 F Aa 0 Aa).q fun a w F W => ?_
 refine AP (vs := [.int .i64 (CI (p0 - 1))]) (M' := [(b1, (Fa p1 v1 v2)), (q_p0, [.int .i64 (CI (p0 - 1))])]) 1 F W Aa Aa Aa T3 Aa Aa Aa Aa Aa fun w W => ?_
 refine Ae (Ac ?_)
 obtain ⟨o2, G2, K2, L2⟩ := Qb H
 refine BK (fun a w => ∃ x3 : Int, some (Sum.inl x3) = some o2 ∧ Fr 71 [] [(0, .pointer (some ⟨q_p0, 0, none⟩)), (2, .int .i64 p2), (4, .pointer (some ⟨b1, 0, none⟩)), (6, .bool false)] a ∧ Stw ⟨Y, X, w0⟩ (Nz b1 p1 v1 v2 q_p0 x3) [] w) ?_ ?_
 ·
  have H := G2
  clear G2 K2
  refine BK (fun a w => Fr 71 [] [(0, .pointer (some ⟨q_p0, 0, none⟩)), (2, .int .i64 p2), (4, .pointer (some ⟨b1, 0, none⟩)), (6, .bool false), (37, .bool (decide (p1.un.1 = 1) || decide (p1.un.1 = 5)))] a ∧ Stw ⟨Y, X, w0⟩ [(b1, (Fa p1 v1 v2)), (q_p0, [.int .i64 (CI (p0 - 1))])] [] w) ?_ ?_
  ·
   refine Ab ?_
   refine ls F W Aa (Al Dm Aa Aa Aa T3 F Aa 0 Aa).q fun a w F W => ?_
   refine ls F W Aa (Aw (v := Value.int .i64 p1.un.1) 0 F Aa Aa T3 Aa).q fun a w F W => ?_
   refine ls F W Aa (Bw F Aa Aa).q fun a w F W => ?_
   refine ls F W Aa (Ai F Aa).q fun a w F W => ?_
   rcases Bool.eq_false_or_eq_true (decide (p1.un.1 = 1)) with hb0 | hb0
   ·
    rw [hb0] at F
    iterate 3 refine EX F Aa Aa Aa Aa Aa Aa Aa fun a F => ?_
    refine ls F W Aa (A2 F Aa Aa Aa).q fun a w F W => ?_
    refine Ae (Ac ?_)
    exact ⟨F.re ⟨rfl, Aa, Aa, Aa, (JQ (by try rw [hb0]; all_goals simp only [JV])), trivial⟩, W⟩
   rw [hb0] at F
   refine Bn F W (Ak F Aa Aa Aa Aa) Aa (Ay Aa) (Al Dm Aa Aa Aa T3 F Aa 0 Aa).q fun a w F W => ?_
   refine Bn F W (Ak F Aa Aa Aa Aa) Aa (Ay Aa) (Aw (v := Value.int .i64 p1.un.1) 0 F Aa Aa T3 Aa).q fun a w F W => ?_
   refine Bn F W (Ak F Aa Aa Aa Aa) Aa (Ay Aa) (Bw F Aa Aa).q fun a w F W => ?_
   refine ls F W Aa (Ax F Aa Aa Aa).q fun a w F W => ?_
   refine Ae (Ac ?_)
   exact ⟨F.re ⟨rfl, Aa, Aa, Aa, (JQ (by try rw [hb0]; all_goals simp only [JV])), trivial⟩, W⟩
  rintro a w ⟨F, W⟩
  refine AC F Aa (fun hb => ?_) fun hb => ?_
  ·
   have H := Ba hb H
   rw [hb] at F
   clear hb
   refine Ah (Ah (Ab ?_))
   refine ls F W Aa (Al Dm Aa Aa Aa ER F Aa 1 Aa).q fun a w F W => ?_
   refine ls F W Aa (Aw (v := Value.agg #[.int .i64 p1.un.2.1.un.1, .int .i64 p1.un.2.1.un.2.1, .int .i64 p1.un.2.1.un.2.2.1, v1]) 0 F Aa Aa ER Aa).q fun a w F W => ?_
   obtain ⟨x4, h4, H⟩ := Aq H
   refine ls F W Aa (Bx (v := Value.bool x4) F UZ Aa (fun w W => Nn any w (v1) (Tr25.of (p1.un.2.1.un.1, p1.un.2.1.un.2.1, p1.un.2.1.un.2.2.1, p1.un.2.1.un.2.2.2)) _ h4 (((Bd CF h1 (AG h_v1)) : EB _ _ _ _ _ _) w W).nx)) fun a w F W => ?_
   refine ls F W Aa (Iu F Aa).q fun a w F W => ?_
   refine Ae (Ac ?_)
   refine AC F Aa (fun hb => ?_) fun hb => ?_
   ·
    have H := Ba hb H
    rw [hb] at F
    clear hb
    refine Ah (Ab ?_)
    refine ls F W Aa (Ag F Aa).q fun a w F W => ?_
    refine Ae (Ac (Au ?_))
    iterate 2 refine AV ?_
    have H := L2 _ H
    have H := AR H
    subst H
    refine AO (.inl Aa) F W Aa (AD F Aa) ?_
    have W := W.frontM (i := 1) Aa Aa
    have W := W.sub (M' := [(q_p0, [.int .i64 (CI (p0 - 1))])]) (Z' := []) (List.Sublist.cons_cons _ (List.nil_sublist _)) (List.Sublist.refl _)
    exact ⟨(), Aa, W⟩
   have H := Bc (by rw [hb]; decide) H
   rw [hb] at F
   clear hb
   refine AM (Ac ?_)
   refine OK 10 W MO (by kernel_rfl) ?_
   refine qs F Aa (Ai F Aa).q fun a F => ?_
   refine qs F Aa (Cq F Aa).q fun a F => ?_
   refine qs F Aa (Al O1 Aa Aa Aa T3 F Aa 0 Aa).q fun a F => ?_
   refine qs F Aa (Aw (v := Value.int .i64 (CI (p0 - 1))) 1 F Aa Aa T3 Aa).q fun a F => ?_
   refine qs F Aa (Al Dm Aa Aa Aa ER F Aa 1 Aa).q fun a F => ?_
   refine qs F Aa (Aw (v := Value.agg #[.int .i64 p1.un.2.1.un.1, .int .i64 p1.un.2.1.un.2.1, .int .i64 p1.un.2.1.un.2.2.1, v1]) 0 F Aa Aa ER Aa).q fun a F => ?_
   obtain ⟨x5, h5, H⟩ := Aq H
   refine qs F Aa (Bx (v := Value.int .i64 x5) F UD Aa (fun w W => Ou any w (v1) (Tr25.of (p1.un.2.1.un.1, p1.un.2.1.un.2.1, p1.un.2.1.un.2.2.1, p1.un.2.1.un.2.2.2)) _ h5 (((Bd CF h1 (AG h_v1)) : EB _ _ _ _ _ _) w W).nx)) fun a F => ?_
   refine qs F Aa (Ly F Aa Aa Aa).q fun a F => ?_
   refine qs F Aa (Cq F Aa).q fun a F => ?_
   refine qs F Aa (Al O1 Aa Aa Aa T3 F Aa 0 Aa).q fun a F => ?_
   refine CY fun w W => ?_
   refine AP (vs := [.int .i64 (CI ((CI (p0 - 1)) - x5))]) (M' := [(b1, (Fa p1 v1 v2)), (q_p0, [.int .i64 (CI ((CI (p0 - 1)) - x5))])]) 1 F W Aa Aa Aa T3 Aa Aa Aa Aa Aa fun w W => ?_
   refine Ae (Ac ?_)
   have W := W.frontM (i := 1) Aa Aa
   have W := W.frontM (i := 1) Aa Aa
   exact ⟨_, H, F.re ⟨rfl, Aa, Aa, Aa, trivial⟩, W⟩
  have H := Bc (by rw [hb]; decide) H
  rw [hb] at F
  clear hb
  refine AM (Ac ?_)
  have W := W.frontM (i := 1) Aa Aa
  have W := W.frontM (i := 1) Aa Aa
  exact ⟨_, H, F.re ⟨rfl, Aa, Aa, Aa, trivial⟩, W⟩
 rintro a w ⟨x3, hj, F, W⟩
 have H := K2 _ hj
 clear hj G2 K2 L2
 obtain ⟨o3, G3, K3, L3⟩ := Qb H
 refine BK (fun a w => ∃ x6 : Int, some (Sum.inl x6) = some o3 ∧ Fr 71 [] [(0, .pointer (some ⟨q_p0, 0, none⟩)), (6, .bool false)] a ∧ Stw ⟨Y, X, w0⟩ (Nz b1 p1 v1 v2 q_p0 x6) [] w) ?_ ?_
 ·
  have H := G3
  clear G3 K3
  refine Ah (Ab ?_)
  refine ls F W Aa (Al Dm Aa Aa Aa JM F Aa 7 Aa).q fun a w F W => ?_
  refine ls F W Aa (Aw (v := v2) 0 F Aa Aa JM Aa).q fun a w F W => ?_
  refine ls F W Aa (DC (r := BJ) (l := p1.un.2.2.2.2) IX Aa F Aa (Bd Eg h2 (AG h_v2))).q fun a w F W => ?_
  refine ls F W Aa (Ai F Aa).q fun a w F W => ?_
  refine Ae (Ac (Bb ?_))
  have W := W.frontM (i := 1) Aa Aa
  have W := W.frontM (i := 1) Aa Aa
  refine Dl H (fun s a w => Fr 71 [] [(0, .pointer (some ⟨q_p0, 0, none⟩)), (2, .int .i64 p2), (6, .bool false), (53, v2), (54, .int .i64 (p1.un.2.2.2.2.length : Int)), (55, .int .i64 s.1)] a ∧ Stw ⟨Y, X, w0⟩ [(b1, (Fa p1 v1 v2)), (q_p0, [.int .i64 s.2])] [] w) ⟨F.re ⟨rfl, Aa, Aa, Aa, Aa, Aa, trivial⟩, W⟩ fun s o a w H L4 hR => ?_
  obtain ⟨x7, x8⟩ := s
  obtain ⟨F, W⟩ := hR
  have F : Fr 71 [] [(0, .pointer (some ⟨q_p0, 0, none⟩)), (2, .int .i64 p2), (6, .bool false), (53, v2), (54, .int .i64 (p1.un.2.2.2.2.length : Int)), (55, .int .i64 x7)] a := F
  have W : Stw ⟨Y, X, w0⟩ (Nz b1 p1 v1 v2 q_p0 x8) [] w := W
  rw [A5] at H
  refine Ah (Ab ?_)
  refine ls F W Aa (Fx F Aa Aa).q fun a w F W => ?_
  refine Ae (Ac (Ah ?_))
  refine AC F Aa (fun hb => ?_) fun hb => ?_
  ·
   have H := Ba (BM hb) H
   rw [hb] at F
   clear hb
   refine AM (Ac (Ah (Bb (Ah (Ab ?_)))))
   obtain ⟨x9, h6, H⟩ := Aq H
   obtain ⟨v5, h7, h8⟩ := Gy h2 h6
   have h9 : Ic v5 = [.int .i64 x9.un.1, .int .i64 x9.un.2.1.un.1, .int .i64 x9.un.2.1.un.2.1, .int .i64 x9.un.2.1.un.2.2.1, (v5.2.1.2.2.2.1), .int .i64 x9.un.2.2.1, .int .i64 x9.un.2.2.2.1, (v5.2.2.2.2.1)] := congrArg (fun q : Tr28 => ([.int .i64 q.un.1, .int .i64 q.un.2.1.un.1, .int .i64 q.un.2.1.un.2.1, .int .i64 q.un.2.1.un.2.2.1, (v5.2.1.2.2.2.1), .int .i64 q.un.2.2.1, .int .i64 q.un.2.2.2.1, (v5.2.2.2.2.1)] : List Value)) h8
   refine ls F W Aa (DS (r := Mr) OM F Aa Aa (AG h_v2) h7).q fun a w F W => ?_
   refine ls F W Aa (CG (y := Value.agg #[.int .i64 x9.un.1, .int .i64 x9.un.2.1.un.1, .int .i64 x9.un.2.1.un.2.1, .int .i64 x9.un.2.1.un.2.2.1, (v5.2.1.2.2.2.1), .int .i64 x9.un.2.2.1, .int .i64 x9.un.2.2.2.1, (v5.2.2.2.2.1)]) (j := 0) (i := x7) (enc := Ic) F Aa Aa (AG h_v2) h7 NE D1 (by rw [h9]; rfl)).q fun a w F W => ?_
   refine BA (cs := (BU)) F W Aa JT Aa fun b2 a w F W => ?_
   refine AP (vs := [.int .i64 x9.un.1, .int .i64 x9.un.2.1.un.1, .int .i64 x9.un.2.1.un.2.1, .int .i64 x9.un.2.1.un.2.2.1, (v5.2.1.2.2.2.1), .int .i64 x9.un.2.2.1, .int .i64 x9.un.2.2.2.1, (v5.2.2.2.2.1)]) (M' := [(b2, [.int .i64 x9.un.1, .int .i64 x9.un.2.1.un.1, .int .i64 x9.un.2.1.un.2.1, .int .i64 x9.un.2.1.un.2.2.1, (v5.2.1.2.2.2.1), .int .i64 x9.un.2.2.1, .int .i64 x9.un.2.2.2.1, (v5.2.2.2.2.1)]), (b1, (Fa p1 v1 v2)), (q_p0, [.int .i64 x8])]) 0 F W Aa Aa Aa D1 Aa Aa Aa (Af Aa (Af Aa (Af Aa (Af Aa (Af ((Cz (AG h_v2) h7 (AE.snd (AE.fst (AE.snd (AE.snd (AE.snd AE.here))))) (congrArg (fun q : Tr28 => q.un.2.1.un.2.2.2) h8)) _ W).one (Af Aa (Af Aa (Af ((Cz (AG h_v2) h7 (AE.snd (AE.snd (AE.snd (AE.snd AE.here)))) (congrArg (fun q : Tr28 => q.un.2.2.2.2) h8)) _ W).one BC)))))))) Aa fun w W => ?_
   refine Ae (Ac (Ah (Ab ?_)))
   refine ls F W Aa (Ai F Aa).q fun a w F W => ?_
   refine ls F W Aa (Aw (v := Value.agg #[.int .i64 x9.un.1, .int .i64 x9.un.2.1.un.1, .int .i64 x9.un.2.1.un.2.1, .int .i64 x9.un.2.1.un.2.2.1, (v5.2.1.2.2.2.1), .int .i64 x9.un.2.2.1, .int .i64 x9.un.2.2.2.1, (v5.2.2.2.2.1)]) 0 F Aa Aa D1 Aa).q fun a w F W => ?_
   refine ls F W Aa (Ai F Aa).q fun a w F W => ?_
   refine ls F W Aa (Ly F Aa Aa Aa).q fun a w F W => ?_
   obtain ⟨x10, h10, H⟩ := Aq H
   have W := W.frontM (i := 2) Aa Aa
   refine Bp (Ml := [(q_p0, [.int .i64 x8])]) (Zl := []) (M := [(b2, [.int .i64 x9.un.1, .int .i64 x9.un.2.1.un.1, .int .i64 x9.un.2.1.un.2.1, .int .i64 x9.un.2.1.un.2.2.1, (v5.2.1.2.2.2.1), .int .i64 x9.un.2.2.1, .int .i64 x9.un.2.2.2.1, (v5.2.2.2.2.1)]), (b1, (Fa p1 v1 v2))]) (Z := []) (β := Unit) (rv := fun x => .bool x10.1) (MM := fun x => [(q_p0, [.int .i64 x10.2])]) (ZZ := fun x => []) F W Uy Aa Aa (fun hL => ih _ _ w q_p0 ((v5.2.1.2.2.2.1)) ((v5.2.2.2.2.1)) x8 (Tr28.of (x9.un.1, Tr25.of (x9.un.2.1.un.1, x9.un.2.1.un.2.1, x9.un.2.1.un.2.2.1, x9.un.2.1.un.2.2.2), x9.un.2.2.1, x9.un.2.2.2.1, x9.un.2.2.2.2)) (CI (p2 - 1)) _ h10 (Sl.at_ (W.roX h_v2 (fun g hg => Jb hg)) h7 (AE.snd (AE.fst (AE.snd (AE.snd (AE.snd AE.here))))) (congrArg (fun q : Tr28 => q.un.2.1.un.2.2.2) h8)) (Sl.at_ (W.roX h_v2 (fun g hg => Jb hg)) h7 (AE.snd (AE.snd (AE.snd (AE.snd AE.here)))) (congrArg (fun q : Tr28 => q.un.2.2.2.2) h8)) hL) fun x a w F W => ?_
   have W : Stw ⟨Y, X, w0⟩ [(q_p0, [.int .i64 x10.2]), (b2, [.int .i64 x9.un.1, .int .i64 x9.un.2.1.un.1, .int .i64 x9.un.2.1.un.2.1, .int .i64 x9.un.2.1.un.2.2.1, (v5.2.1.2.2.2.1), .int .i64 x9.un.2.2.1, .int .i64 x9.un.2.2.2.1, (v5.2.2.2.2.1)]), (b1, (Fa p1 v1 v2))] [] w := W
   refine ls F W Aa (Iu F Aa).q fun a w F W => ?_
   refine Ae (Ac ?_)
   refine AC F Aa (fun hb => ?_) fun hb => ?_
   ·
    have H := Ba hb H
    rw [hb] at F
    clear hb
    refine Ah (Ab ?_)
    refine ls F W Aa (Ag F Aa).q fun a w F W => ?_
    refine Ae (Ac (Au (Be ?_)))
    iterate 2 refine AV ?_
    refine Be (AV ?_)
    have H := L4 _ H
    have H := L3 _ H
    have H := AR H
    subst H
    refine AO (.inl Aa) F W Aa (AD F Aa) ?_
    have W := W.sub (M' := [(q_p0, [.int .i64 x10.2])]) (Z' := []) (List.Sublist.cons_cons _ (List.nil_sublist _)) (List.Sublist.refl _)
    exact ⟨(), Aa, W⟩
   have H := Bc (by rw [hb]; decide) H
   rw [hb] at F
   clear hb
   refine AM (BI (Ac (Ab ?_)))
   refine ls F W Aa (Fe F Aa Aa Aa).q fun a w F W => ?_
   refine ls F W Aa (Ai F Aa).q fun a w F W => ?_
   refine Ae (Ac ?_)
   have W := W.frontM (i := 2) Aa Aa
   have W := W.sub (M' := [(b1, [.int .i64 p1.un.1, .int .i64 p1.un.2.1.un.1, .int .i64 p1.un.2.1.un.2.1, .int .i64 p1.un.2.1.un.2.2.1, v1, .int .i64 p1.un.2.2.1, .int .i64 p1.un.2.2.2.1, v2]), (q_p0, [.int .i64 x10.2])]) (Z' := []) (List.Sublist.cons_cons _ (List.Sublist.cons_cons _ (List.nil_sublist _))) (List.Sublist.refl _)
   exact ⟨_, H, F.re ⟨rfl, Aa, Aa, Aa, Aa, Aa, trivial⟩, W⟩
  have H := Bc (BL hb) H
  rw [hb] at F
  clear hb
  refine Do ?_
  iterate 2 refine Er ?_
  refine Dk (Ac ?_)
  have W := W.frontM (i := 1) Aa Aa
  have W := W.frontM (i := 1) Aa Aa
  have H := L4 _ H
  exact ⟨_, H, F.re ⟨rfl, Aa, trivial⟩, W⟩
 rintro a w ⟨x6, hj, F, W⟩
 have H := K3 _ hj
 clear hj G3 K3 L3
 refine Ah (Ab ?_)
 refine ls F W Aa (Ai F Aa).q fun a w F W => ?_
 refine ls F W Aa (Cq F Aa).q fun a w F W => ?_
 refine ls F W Aa (Al O1 Aa Aa Aa T3 F Aa 0 Aa).q fun a w F W => ?_
 refine ls F W Aa (Aw (v := Value.int .i64 x6) 1 F Aa Aa T3 Aa).q fun a w F W => ?_
 refine ls F W Aa (KS F Aa Aa).q fun a w F W => ?_
 refine ls F W Aa (Ag F Aa).q fun a w F W => ?_
 refine Ae (Ac (Au ?_))
 have H := AR H
 subst H
 refine AO (.inl Aa) F W Aa (AD F Aa) ?_
 have W := W.frontM (i := 1) Aa Aa
 have W := W.sub (M' := [(q_p0, [.int .i64 x6])]) (Z' := []) (List.Sublist.cons_cons _ (List.nil_sublist _)) (List.Sublist.refl _)
 exact ⟨(), Aa, W⟩
theorem H1 : ∀ (n : Nat) (Y : Nat → Prop) (X : List Nat) (w0 : World) (q_p0 : Nat) (v1 : Value) (v2 : Value) (p0 : Int) (p1 : Tr28) (p2 : Int) (r : Bool × Int) (H : AX n p0 p1 p2 = some r) (h_v1 : Sl w0 (NX X) A6 v1 p1.un.2.1.un.2.2.2) (h_v2 : Sl w0 (NX X) BJ v2 p1.un.2.2.2.2) (hL : Stw ⟨Y, X, w0⟩ [(q_p0, [.int .i64 p0])] [] w0), Calls Tryd.prog 53 #[.pointer (some ⟨q_p0, 0, none⟩), .agg #[.int .i64 p1.un.1, .int .i64 p1.un.2.1.un.1, .int .i64 p1.un.2.1.un.2.1, .int .i64 p1.un.2.1.un.2.2.1, v1, .int .i64 p1.un.2.2.1, .int .i64 p1.un.2.2.2.1, v2], .int .i64 p2] w0 fun e w' => ∃ x : Unit, e = .returned (.bool r.1) ∧ Stw ⟨Y, X, w0⟩ [(q_p0, [.int .i64 r.2])] [] w' := by
  intro n
  induction n with
  | zero => intro Y X w0 q_p0 v1 v2 p0 p1 p2 r H; exact nomatch H
  | succ n ih => intro Y X w0 q_p0 v1 v2 p0 p1 p2 r H h_v1 h_v2 hL; exact Ho (AX n) ih Y X w0 q_p0 v1 v2 p0 p1 p2 r H h_v1 h_v2 hL
theorem H9 (Y : Nat → Prop) (X : List Nat) (w0 : World) (q_p0 : Nat) (v1 : Value) (v2 : Value) (p0 : Int) (p1 : Tr28) (p2 : Int) (r : Bool × Int) (H : DI p0 p1 p2 = some r) (h_v1 : Sl w0 (NX X) A6 v1 p1.un.2.1.un.2.2.2) (h_v2 : Sl w0 (NX X) BJ v2 p1.un.2.2.2.2) (hL : Stw ⟨Y, X, w0⟩ [(q_p0, [.int .i64 p0])] [] w0) :
    Calls Tryd.prog 53 #[.pointer (some ⟨q_p0, 0, none⟩), .agg #[.int .i64 p1.un.1, .int .i64 p1.un.2.1.un.1, .int .i64 p1.un.2.1.un.2.1, .int .i64 p1.un.2.1.un.2.2.1, v1, .int .i64 p1.un.2.2.1, .int .i64 p1.un.2.2.2.1, v2], .int .i64 p2] w0 fun e w' => ∃ x : Unit, e = .returned (.bool r.1) ∧ Stw ⟨Y, X, w0⟩ [(q_p0, [.int .i64 r.2])] [] w' := by
  obtain ⟨n, H⟩ := Cy H
  exact H1 n Y X w0 q_p0 v1 v2 p0 p1 p2 r H h_v1 h_v2 hL
end Go.Proofs.YtlgjpoapclifbaaDoor
