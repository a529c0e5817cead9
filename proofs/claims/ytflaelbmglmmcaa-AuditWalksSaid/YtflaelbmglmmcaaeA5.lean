/- The functions of layer 42, ET. Conditions: none. -/
import Derived.Test.YtflaelbmglmmcaaeA4
namespace Go.Proofs.Ytflaelbmglmmcaa
open Go Go.RowKit
set_option linter.unusedVariables false
set_option linter.unusedSimpArgs false
set_option maxRecDepth 20000
noncomputable def DL (p0 : Int × (List (Int × Int × Int × Int × Int × Int)) × (List (Int × Int))) (p1 : Int) (p2 : Int) : (Int × Int) → Option ((Int × Int) ⊕ Int)
  | (x2, x3) => (if x3 < (p0.2.1.length : Int) then ((ix p0.2.1 x3).bind fun x5 => (if (decide (x5.1 = p1) && decide (x5.2.1 = p2)) = true then some (DH (x2 + 1)) else some x2).bind fun x6 => (if (decide (x5.2.2.1 = p1) && decide (x5.2.2.2.1 = p2)) = true then some (DH (x6 + 1)) else some x6)).bind fun x4 => some (.inl (x4, DH (x3 + 1))) else some (.inr x2))
noncomputable def DO (p0 : Int × (List (Int × Int × Int × Int × Int × Int)) × (List (Int × Int))) (p1 : Int) (p2 : Int) : (Int × Int) → Option ((Int × Int) ⊕ Int)
  | (x8, x9) => (if x9 < (p0.2.2.length : Int) then (((ix p0.2.2 x9).bind fun x12 => (if x12.1 = p1 then (ix p0.2.2 x9).bind fun x13 => some (decide (x13.2 = p2)) else some false)).bind fun x11 => (if x11 = true then some (DH (x8 + 1)) else some x8)).bind fun x10 => some (.inl (x10, DH (x9 + 1))) else some (.inr x8))
noncomputable def ES (p0 : Int × (List (Int × Int × Int × Int × Int × Int)) × (List (Int × Int))) (p1 : Int) (p2 : Int) : Option Bool := (AQ (DL p0 p1 p2) (0, 0)).bind fun x1 => (AQ (DO p0 p1 p2) (x1, 0)).bind fun x7 => some (decide (0 ≤ p1) && (decide (p1 < p0.1) && (decide (0 ≤ p2) && (decide (p2 ≤ 7) && decide (x7 = 1)))))
theorem Gv (Y : Nat → Prop) (w0 : World) (v1 : Value) (v2 : Value) (p0 : Int × (List (Int × Int × Int × Int × Int × Int)) × (List (Int × Int))) (p1 : Int) (p2 : Int) (r : Bool) (H : ES p0 p1 p2 = some r) (h_v1 : Sl w0 (NX []) CS v1 p0.2.1) (h_v2 : Sl w0 (NX []) Ec v2 p0.2.2) :
    Calls Try.prog 56 #[.agg #[.int .i64 p0.1, v1, v2], .int .i64 p1, .int .i64 p2] w0 fun e w' => e = .returned (.bool r) ∧ Below w0.heap.size w0 w' := by
 refine enter Try.func56 Aa Try.ntmps56 Aa fun a F => ?_
 have W := Stw.start Y w0
 unfold ES at H
 refine Ai (Ac ?_)
 refine B9 (cs := [.int .i64 p0.1, v1, v2]) F W Aa Aa Aa fun b1 a w F W => ?_
 refine ls F W Aa (Ah F Aa).q fun a w F W => ?_
 refine Ad (Ab (Ai (Ac ?_)))
 refine ls F W Aa (Ah F Aa).q fun a w F W => ?_
 refine Ad (Ab ?_)
 obtain ⟨o1, G1, K1⟩ := Ao H
 refine AH (fun a w => ∃ x1 : Int, some (x1) = some o1 ∧ Fr 94 [] [(1, .int .i64 p1), (2, .int .i64 p2), (3, .pointer (some ⟨b1, 0, none⟩)), (6, .bool false), (7, .int .i64 x1)] a ∧ Stw ⟨Y, [], w0⟩ [(b1, [.int .i64 p0.1, v1, v2])] [] w) ?_ ?_
 ·
  have H := G1
  clear G1 K1
  refine Ai (Ac ?_)
  refine ls F W Aa (Ah F Aa).q fun a w F W => ?_
  refine Ad (Ab (Aw ?_))
  refine Bv H (fun s a w => Fr 94 [] [(1, .int .i64 p1), (2, .int .i64 p2), (3, .pointer (some ⟨b1, 0, none⟩)), (6, .bool false), (7, .int .i64 s.1), (8, .int .i64 s.2)] a ∧ Stw ⟨Y, [], w0⟩ [(b1, [.int .i64 p0.1, v1, v2])] [] w) ⟨F.re ⟨rfl, Aa, Aa, Aa, Aa, Aa, trivial⟩, W⟩ fun s o a w H L2 hR => ?_
  obtain ⟨x2, x3⟩ := s
  obtain ⟨F, W⟩ := hR
  have F : Fr 94 [] [(1, .int .i64 p1), (2, .int .i64 p2), (3, .pointer (some ⟨b1, 0, none⟩)), (6, .bool false), (7, .int .i64 x2), (8, .int .i64 x3)] a := F
  have W : Stw ⟨Y, [], w0⟩ [(b1, [.int .i64 p0.1, v1, v2])] [] w := W
  rw [DL] at H
  refine Ai (Ai (Ac ?_))
  refine ls F W Aa (Ae F Aa).q fun a w F W => ?_
  refine ls F W Aa (Ag CJ Aa Aa Aa H3 F Aa 1 Aa).q fun a w F W => ?_
  refine ls F W Aa (Al (v := v1) 0 F Aa Aa H3 Aa).q fun a w F W => ?_
  refine ls F W Aa (A7 (r := CS) (l := p0.2.1) IX Aa F Aa (Aj h_v1)).q fun a w F W => ?_
  refine ls F W Aa (Bq F Aa Aa).q fun a w F W => ?_
  refine Ad (Ab ?_)
  refine Ay F Aa (fun hb => ?_) fun hb => ?_
  ·
   have H := AN (Bf hb) H
   rw [hb] at F
   clear hb
   refine Aq (Ab ?_)
   obtain ⟨o3, G3, K3⟩ := Ao H
   refine AH (fun a w => ∃ x4 : Int, some (x4) = some o3 ∧ Fr 94 [] [(1, .int .i64 p1), (2, .int .i64 p2), (3, .pointer (some ⟨b1, 0, none⟩)), (6, .bool false), (7, .int .i64 x4), (8, .int .i64 x3)] a ∧ Stw ⟨Y, [], w0⟩ [(b1, [.int .i64 p0.1, v1, v2])] [] w) ?_ ?_
   ·
    have H := G3
    clear G3 K3
    refine Aw (Ai (Ac ?_))
    refine ls F W Aa (Ag CJ Aa Aa Aa H3 F Aa 1 Aa).q fun a w F W => ?_
    refine ls F W Aa (Al (v := v1) 0 F Aa Aa H3 Aa).q fun a w F W => ?_
    refine ls F W Aa (Ae F Aa).q fun a w F W => ?_
    obtain ⟨x5, h1, H⟩ := Ao H
    refine ls F W Aa (AJ (r := CS) Ok F Aa Aa (Aj h_v1) h1).q fun a w F W => ?_
    refine ls F W Aa (Az (y := Value.agg #[.int .i64 x5.1, .int .i64 x5.2.1, .int .i64 x5.2.2.1, .int .i64 x5.2.2.2.1, .int .i64 x5.2.2.2.2.1, .int .i64 x5.2.2.2.2.2]) (j := 0) (i := x3) F Aa Aa (Aj h_v1) h1 LD.to Iv Aa).q fun a w F W => ?_
    refine B1 (cs := [.int .i64 0, .int .i64 0, .int .i64 0, .int .i64 0, .int .i64 0, .int .i64 0]) F W Aa LW Aa fun b2 a w F W => ?_
    refine BM (vs := [.int .i64 x5.1, .int .i64 x5.2.1, .int .i64 x5.2.2.1, .int .i64 x5.2.2.2.1, .int .i64 x5.2.2.2.2.1, .int .i64 x5.2.2.2.2.2]) (M' := [(b2, [.int .i64 x5.1, .int .i64 x5.2.1, .int .i64 x5.2.2.1, .int .i64 x5.2.2.2.1, .int .i64 x5.2.2.2.2.1, .int .i64 x5.2.2.2.2.2]), (b1, [.int .i64 p0.1, v1, v2])]) 0 F W Aa Aa Aa Iv Aa Aa Aa Aa Aa fun w W => ?_
    refine Ad (Ab ?_)
    obtain ⟨o4, G4, K4⟩ := Ao H
    refine AH (fun a w => ∃ x6 : Int, some (x6) = some o4 ∧ Fr 94 [] [(1, .int .i64 p1), (2, .int .i64 p2), (3, .pointer (some ⟨b1, 0, none⟩)), (6, .bool false), (7, .int .i64 x6), (8, .int .i64 x3), (9, .pointer (some ⟨b2, 0, none⟩))] a ∧ Stw ⟨Y, [], w0⟩ [(b2, [.int .i64 x5.1, .int .i64 x5.2.1, .int .i64 x5.2.2.1, .int .i64 x5.2.2.2.1, .int .i64 x5.2.2.2.2.1, .int .i64 x5.2.2.2.2.2]), (b1, [.int .i64 p0.1, v1, v2])] [] w) ?_ ?_
    ·
     have H := G4
     clear G4 K4
     refine AH (fun a w => Fr 94 [] [(1, .int .i64 p1), (2, .int .i64 p2), (3, .pointer (some ⟨b1, 0, none⟩)), (6, .bool false), (7, .int .i64 x2), (8, .int .i64 x3), (9, .pointer (some ⟨b2, 0, none⟩)), (32, .bool (decide (x5.1 = p1) && decide (x5.2.1 = p2)))] a ∧ Stw ⟨Y, [], w0⟩ [(b2, [.int .i64 x5.1, .int .i64 x5.2.1, .int .i64 x5.2.2.1, .int .i64 x5.2.2.2.1, .int .i64 x5.2.2.2.2.1, .int .i64 x5.2.2.2.2.2]), (b1, [.int .i64 p0.1, v1, v2])] [] w) ?_ ?_
     ·
      refine Ac ?_
      refine ls F W Aa (Ag B2 Aa Aa Aa T3 F Aa 0 Aa).q fun a w F W => ?_
      refine ls F W Aa (Al (v := Value.int .i64 x5.1) 0 F Aa Aa T3 Aa).q fun a w F W => ?_
      refine ls F W Aa (Ae F Aa).q fun a w F W => ?_
      refine ls F W Aa (BZ F Aa Aa).q fun a w F W => ?_
      refine ls F W Aa (Ae F Aa).q fun a w F W => ?_
      rcases Bool.eq_false_or_eq_true (decide (x5.1 = p1)) with hb0 | hb0
      ·
       rw [hb0] at F
       refine Au F W (Af F Aa Aa Aa Aa) Aa (Ak Aa) (Ag B2 Aa Aa Aa T3 F Aa 1 Aa).q fun a w F W => ?_
       refine Au F W (Af F Aa Aa Aa Aa) Aa (Ak Aa) (Al (v := Value.int .i64 x5.2.1) 0 F Aa Aa T3 Aa).q fun a w F W => ?_
       refine Au F W (Af F Aa Aa Aa Aa) Aa (Ak Aa) (Ae F Aa).q fun a w F W => ?_
       refine Au F W (Af F Aa Aa Aa Aa) Aa (Ak Aa) (BZ F Aa Aa).q fun a w F W => ?_
       refine ls F W Aa (An F Aa Aa Aa).q fun a w F W => ?_
       refine Ad (Ab ?_)
       exact ⟨F.re ⟨rfl, Aa, Aa, Aa, Aa, Aa, Aa, (by show some (Value.bool (decide (x5.2.1 = p2))) = some (Value.bool (decide (x5.1 = p1) && decide (x5.2.1 = p2))); try rw [hb0]; all_goals simp only [Bool.not_true, Bool.not_false, Bool.true_and, Bool.false_and, Bool.true_or, Bool.false_or, Bool.and_true, Bool.or_false, cond_true, cond_false]), trivial⟩, W⟩
      rw [hb0] at F
      iterate 4 refine BW F Aa Aa Aa Aa Aa Aa Aa fun a F => ?_
      refine ls F W Aa (As F Aa Aa Aa).q fun a w F W => ?_
      refine Ad (Ab ?_)
      exact ⟨F.re ⟨rfl, Aa, Aa, Aa, Aa, Aa, Aa, (by show some (Value.bool false) = some (Value.bool (decide (x5.1 = p1) && decide (x5.2.1 = p2))); try rw [hb0]; all_goals simp only [Bool.not_true, Bool.not_false, Bool.true_and, Bool.false_and, Bool.true_or, Bool.false_or, Bool.and_true, Bool.or_false, cond_true, cond_false]), trivial⟩, W⟩
     rintro a w ⟨F, W⟩
     refine Ay F Aa (fun hb => ?_) fun hb => ?_
     ·
      have H := AN hb H
      rw [hb] at F
      clear hb
      refine Ac ?_
      refine ls F W Aa (Ae F Aa).q fun a w F W => ?_
      refine ls F W Aa (Cq F Aa Aa Aa).q fun a w F W => ?_
      refine ls F W Aa (Ah F Aa).q fun a w F W => ?_
      refine Ad (Ab ?_)
      have W := W.frontM (i := 1) Aa Aa
      have W := W.frontM (i := 1) Aa Aa
      exact ⟨_, H, F.re ⟨rfl, Aa, Aa, Aa, Aa, Aa, Aa, trivial⟩, W⟩
     have H := AM (by rw [hb]; decide) H
     rw [hb] at F
     clear hb
     refine Aq (Ab ?_)
     have W := W.frontM (i := 1) Aa Aa
     have W := W.frontM (i := 1) Aa Aa
     exact ⟨_, H, F.re ⟨rfl, Aa, Aa, Aa, Aa, Aa, Aa, trivial⟩, W⟩
    rintro a w ⟨x6, hj, F, W⟩
    have hj := AW hj
    subst hj
    have H := K4
    clear G4 K4
    refine AH (fun a w => Fr 94 [] [(1, .int .i64 p1), (2, .int .i64 p2), (3, .pointer (some ⟨b1, 0, none⟩)), (6, .bool false), (7, .int .i64 x6), (8, .int .i64 x3), (44, .bool (decide (x5.2.2.1 = p1) && decide (x5.2.2.2.1 = p2)))] a ∧ Stw ⟨Y, [], w0⟩ [(b2, [.int .i64 x5.1, .int .i64 x5.2.1, .int .i64 x5.2.2.1, .int .i64 x5.2.2.2.1, .int .i64 x5.2.2.2.2.1, .int .i64 x5.2.2.2.2.2]), (b1, [.int .i64 p0.1, v1, v2])] [] w) ?_ ?_
    ·
     refine Ac ?_
     refine ls F W Aa (Ag B2 Aa Aa Aa T3 F Aa 2 Aa).q fun a w F W => ?_
     refine ls F W Aa (Al (v := Value.int .i64 x5.2.2.1) 0 F Aa Aa T3 Aa).q fun a w F W => ?_
     refine ls F W Aa (Ae F Aa).q fun a w F W => ?_
     refine ls F W Aa (BZ F Aa Aa).q fun a w F W => ?_
     refine ls F W Aa (Ae F Aa).q fun a w F W => ?_
     rcases Bool.eq_false_or_eq_true (decide (x5.2.2.1 = p1)) with hb0 | hb0
     ·
      rw [hb0] at F
      refine Au F W (Af F Aa Aa Aa Aa) Aa (Ak Aa) (Ag B2 Aa Aa Aa T3 F Aa 3 Aa).q fun a w F W => ?_
      refine Au F W (Af F Aa Aa Aa Aa) Aa (Ak Aa) (Al (v := Value.int .i64 x5.2.2.2.1) 0 F Aa Aa T3 Aa).q fun a w F W => ?_
      refine Au F W (Af F Aa Aa Aa Aa) Aa (Ak Aa) (Ae F Aa).q fun a w F W => ?_
      refine Au F W (Af F Aa Aa Aa Aa) Aa (Ak Aa) (BZ F Aa Aa).q fun a w F W => ?_
      refine ls F W Aa (An F Aa Aa Aa).q fun a w F W => ?_
      refine Ad (Ab ?_)
      exact ⟨F.re ⟨rfl, Aa, Aa, Aa, Aa, Aa, (by show some (Value.bool (decide (x5.2.2.2.1 = p2))) = some (Value.bool (decide (x5.2.2.1 = p1) && decide (x5.2.2.2.1 = p2))); try rw [hb0]; all_goals simp only [Bool.not_true, Bool.not_false, Bool.true_and, Bool.false_and, Bool.true_or, Bool.false_or, Bool.and_true, Bool.or_false, cond_true, cond_false]), trivial⟩, W⟩
     rw [hb0] at F
     iterate 4 refine BW F Aa Aa Aa Aa Aa Aa Aa fun a F => ?_
     refine ls F W Aa (As F Aa Aa Aa).q fun a w F W => ?_
     refine Ad (Ab ?_)
     exact ⟨F.re ⟨rfl, Aa, Aa, Aa, Aa, Aa, (by show some (Value.bool false) = some (Value.bool (decide (x5.2.2.1 = p1) && decide (x5.2.2.2.1 = p2))); try rw [hb0]; all_goals simp only [Bool.not_true, Bool.not_false, Bool.true_and, Bool.false_and, Bool.true_or, Bool.false_or, Bool.and_true, Bool.or_false, cond_true, cond_false]), trivial⟩, W⟩
    rintro a w ⟨F, W⟩
    refine Ay F Aa (fun hb => ?_) fun hb => ?_
    ·
     have H := AN hb H
     rw [hb] at F
     clear hb
     refine Ac ?_
     refine ls F W Aa (Ae F Aa).q fun a w F W => ?_
     refine ls F W Aa (Cq F Aa Aa Aa).q fun a w F W => ?_
     refine ls F W Aa (Ah F Aa).q fun a w F W => ?_
     refine Ad (AK (Ab ?_))
     have W := W.frontM (i := 1) Aa Aa
     have W := W.sub (M' := [(b1, [.int .i64 p0.1, v1, v2])]) (Z' := []) (List.Sublist.cons_cons _ (List.nil_sublist _)) (List.Sublist.refl _)
     exact ⟨_, H, F.re ⟨rfl, Aa, Aa, Aa, Aa, Aa, trivial⟩, W⟩
    have H := AM (by rw [hb]; decide) H
    rw [hb] at F
    clear hb
    refine Aq (AK (Ab ?_))
    have W := W.frontM (i := 1) Aa Aa
    have W := W.sub (M' := [(b1, [.int .i64 p0.1, v1, v2])]) (Z' := []) (List.Sublist.cons_cons _ (List.nil_sublist _)) (List.Sublist.refl _)
    exact ⟨_, H, F.re ⟨rfl, Aa, Aa, Aa, Aa, Aa, trivial⟩, W⟩
   rintro a w ⟨x4, hj, F, W⟩
   have hj := AW hj
   subst hj
   have H := K3
   clear G3 K3
   refine Ac ?_
   refine ls F W Aa (Ae F Aa).q fun a w F W => ?_
   refine ls F W Aa (Cq F Aa Aa Aa).q fun a w F W => ?_
   refine ls F W Aa (Ah F Aa).q fun a w F W => ?_
   refine Ad (Ab ?_)
   exact ⟨_, H, F.re ⟨rfl, Aa, Aa, Aa, Aa, Aa, trivial⟩, W⟩
  have H := AM (Bg hb) H
  rw [hb] at F
  clear hb
  refine Bk ?_
  iterate 2 refine BJ ?_
  refine Bl (Ab ?_)
  have H := L2 _ H
  exact ⟨_, H, F.re ⟨rfl, Aa, Aa, Aa, Aa, trivial⟩, W⟩
 rintro a w ⟨x1, hj, F, W⟩
 have hj := AW hj
 subst hj
 have H := K1
 clear G1 K1
 obtain ⟨o5, G5, K5⟩ := Ao H
 refine AH (fun a w => ∃ x7 : Int, some (x7) = some o5 ∧ Fr 94 [] [(1, .int .i64 p1), (2, .int .i64 p2), (3, .pointer (some ⟨b1, 0, none⟩)), (6, .bool false), (7, .int .i64 x7)] a ∧ Stw ⟨Y, [], w0⟩ [(b1, [.int .i64 p0.1, v1, v2])] [] w) ?_ ?_
 ·
  have H := G5
  clear G5 K5
  refine Ai (Ac ?_)
  refine ls F W Aa (Ah F Aa).q fun a w F W => ?_
  refine Ad (Ab (Aw ?_))
  refine Bv H (fun s a w => Fr 94 [] [(1, .int .i64 p1), (2, .int .i64 p2), (3, .pointer (some ⟨b1, 0, none⟩)), (6, .bool false), (7, .int .i64 s.1), (10, .int .i64 s.2)] a ∧ Stw ⟨Y, [], w0⟩ [(b1, [.int .i64 p0.1, v1, v2])] [] w) ⟨F.re ⟨rfl, Aa, Aa, Aa, Aa, Aa, trivial⟩, W⟩ fun s o a w H L6 hR => ?_
  obtain ⟨x8, x9⟩ := s
  obtain ⟨F, W⟩ := hR
  have F : Fr 94 [] [(1, .int .i64 p1), (2, .int .i64 p2), (3, .pointer (some ⟨b1, 0, none⟩)), (6, .bool false), (7, .int .i64 x8), (10, .int .i64 x9)] a := F
  have W : Stw ⟨Y, [], w0⟩ [(b1, [.int .i64 p0.1, v1, v2])] [] w := W
  rw [DO] at H
  refine Ai (Ai (Ac ?_))
  refine ls F W Aa (Ae F Aa).q fun a w F W => ?_
  refine ls F W Aa (Ag CJ Aa Aa Aa FW F Aa 2 Aa).q fun a w F W => ?_
  refine ls F W Aa (Al (v := v2) 0 F Aa Aa FW Aa).q fun a w F W => ?_
  refine ls F W Aa (A7 (r := Ec) (l := p0.2.2) GW Aa F Aa (Aj h_v2)).q fun a w F W => ?_
  refine ls F W Aa (Bq F Aa Aa).q fun a w F W => ?_
  refine Ad (Ab ?_)
  refine Ay F Aa (fun hb => ?_) fun hb => ?_
  ·
   have H := AN (Bf hb) H
   rw [hb] at F
   clear hb
   refine Aq (Ab ?_)
   obtain ⟨o7, G7, K7⟩ := Ao H
   refine AH (fun a w => ∃ x10 : Int, some (x10) = some o7 ∧ Fr 94 [] [(1, .int .i64 p1), (2, .int .i64 p2), (3, .pointer (some ⟨b1, 0, none⟩)), (6, .bool false), (7, .int .i64 x10), (10, .int .i64 x9)] a ∧ Stw ⟨Y, [], w0⟩ [(b1, [.int .i64 p0.1, v1, v2])] [] w) ?_ ?_
   ·
    have H := G7
    clear G7 K7
    refine Aw ?_
    obtain ⟨o8, G8, K8⟩ := Ao H
    refine AH (fun a w => ∃ x11 : Bool, some (x11) = some o8 ∧ Fr 94 [] [(1, .int .i64 p1), (2, .int .i64 p2), (3, .pointer (some ⟨b1, 0, none⟩)), (6, .bool false), (7, .int .i64 x8), (10, .int .i64 x9), (71, .bool x11)] a ∧ Stw ⟨Y, [], w0⟩ [(b1, [.int .i64 p0.1, v1, v2])] [] w) ?_ ?_
    ·
     have H := G8
     clear G8 K8
     refine Ac ?_
     refine ls F W Aa (Ag CJ Aa Aa Aa FW F Aa 2 Aa).q fun a w F W => ?_
     refine ls F W Aa (Al (v := v2) 0 F Aa Aa FW Aa).q fun a w F W => ?_
     refine ls F W Aa (Ae F Aa).q fun a w F W => ?_
     obtain ⟨x12, h2, H⟩ := Ao H
     refine ls F W Aa (AJ (r := Ec) Nd F Aa Aa (Aj h_v2) h2).q fun a w F W => ?_
     refine ls F W Aa (Ag I1 Aa Aa Aa T3 F Aa (EE v2 + (x9).toNat * 2) Aa).q fun a w F W => ?_
     refine ls F W Aa (Az (y := Value.int .i64 x12.1) (j := 0) (i := x9) F Aa Aa (Aj h_v2) h2 Nm.to T3 Aa).q fun a w F W => ?_
     refine ls F W Aa (Ae F Aa).q fun a w F W => ?_
     refine ls F W Aa (BZ F Aa Aa).q fun a w F W => ?_
     refine ls F W Aa (Ae F Aa).q fun a w F W => ?_
     rcases Bool.eq_false_or_eq_true (decide (x12.1 = p1)) with hb | hb
     ·
      have H := AN (Bf hb) H
      rw [hb] at F
      clear hb
      refine Au F W (Af F Aa Aa Aa Aa) Aa (Ak Aa) (Ag CJ Aa Aa Aa FW F Aa 2 Aa).q fun a w F W => ?_
      refine Au F W (Af F Aa Aa Aa Aa) Aa (Ak Aa) (Al (v := v2) 0 F Aa Aa FW Aa).q fun a w F W => ?_
      refine Au F W (Af F Aa Aa Aa Aa) Aa (Ak Aa) (Ae F Aa).q fun a w F W => ?_
      obtain ⟨x13, h3, H⟩ := Ao H
      refine Au F W (Af F Aa Aa Aa Aa) Aa (Ak Aa) (AJ (r := Ec) Nd F Aa Aa (Aj h_v2) h3).q fun a w F W => ?_
      refine Au F W (Af F Aa Aa Aa Aa) Aa (Ak Aa) (Ag I1 Aa Aa Aa T3 F Aa (EE v2 + (x9).toNat * 2 + 1) Aa).q fun a w F W => ?_
      refine Au F W (Af F Aa Aa Aa Aa) Aa (Ak Aa) (Az (y := Value.int .i64 x13.2) (j := 1) (i := x9) F Aa Aa (Aj h_v2) h3 Nm.to T3 Aa).q fun a w F W => ?_
      refine Au F W (Af F Aa Aa Aa Aa) Aa (Ak Aa) (Ae F Aa).q fun a w F W => ?_
      refine Au F W (Af F Aa Aa Aa Aa) Aa (Ak Aa) (BZ F Aa Aa).q fun a w F W => ?_
      refine ls F W Aa (An F Aa Aa Aa).q fun a w F W => ?_
      refine Ad (Ab ?_)
      exact ⟨_, H, F.re ⟨rfl, Aa, Aa, Aa, Aa, Aa, Aa, trivial⟩, W⟩
     have H := AM (Bg hb) H
     rw [hb] at F
     clear hb
     iterate 8 refine BW F Aa Aa Aa Aa Aa Aa Aa fun a F => ?_
     refine ls F W Aa (As F Aa Aa Aa).q fun a w F W => ?_
     refine Ad (Ab ?_)
     exact ⟨_, H, F.re ⟨rfl, Aa, Aa, Aa, Aa, Aa, Aa, trivial⟩, W⟩
    rintro a w ⟨x11, hj, F, W⟩
    have hj := AW hj
    subst hj
    have H := K8
    clear G8 K8
    refine Ay F Aa (fun hb => ?_) fun hb => ?_
    ·
     have H := AN hb H
     rw [hb] at F
     clear hb
     refine Ac ?_
     refine ls F W Aa (Ae F Aa).q fun a w F W => ?_
     refine ls F W Aa (Cq F Aa Aa Aa).q fun a w F W => ?_
     refine ls F W Aa (Ah F Aa).q fun a w F W => ?_
     refine Ad (AK (Ab ?_))
     exact ⟨_, H, F.re ⟨rfl, Aa, Aa, Aa, Aa, Aa, trivial⟩, W⟩
    have H := AM (by rw [hb]; decide) H
    rw [hb] at F
    clear hb
    refine Aq (AK (Ab ?_))
    exact ⟨_, H, F.re ⟨rfl, Aa, Aa, Aa, Aa, Aa, trivial⟩, W⟩
   rintro a w ⟨x10, hj, F, W⟩
   have hj := AW hj
   subst hj
   have H := K7
   clear G7 K7
   refine Ac ?_
   refine ls F W Aa (Ae F Aa).q fun a w F W => ?_
   refine ls F W Aa (Cq F Aa Aa Aa).q fun a w F W => ?_
   refine ls F W Aa (Ah F Aa).q fun a w F W => ?_
   refine Ad (Ab ?_)
   exact ⟨_, H, F.re ⟨rfl, Aa, Aa, Aa, Aa, Aa, trivial⟩, W⟩
  have H := AM (Bg hb) H
  rw [hb] at F
  clear hb
  refine Bk ?_
  iterate 2 refine BJ ?_
  refine Bl (Ab ?_)
  have H := L6 _ H
  exact ⟨_, H, F.re ⟨rfl, Aa, Aa, Aa, Aa, trivial⟩, W⟩
 rintro a w ⟨x7, hj, F, W⟩
 have hj := AW hj
 subst hj
 have H := K5
 clear G5 K5
 refine AH (fun a w => Fr 94 [] [(6, .bool (decide (0 ≤ p1) && (decide (p1 < p0.1) && (decide (0 ≤ p2) && (decide (p2 ≤ 7) && decide (x7 = 1))))))] a ∧ Stw ⟨Y, [], w0⟩ [(b1, [.int .i64 p0.1, v1, v2])] [] w) ?_ ?_
 ·
  refine Ac ?_
  refine ls F W Aa (Ae F Aa).q fun a w F W => ?_
  refine ls F W Aa (DC F Aa Aa).q fun a w F W => ?_
  refine ls F W Aa (Ae F Aa).q fun a w F W => ?_
  rcases Bool.eq_false_or_eq_true (decide (0 ≤ p1)) with hb0 | hb0
  ·
   rw [hb0] at F
   refine Au F W (Af F Aa Aa Aa Aa) Aa (Ak Aa) (Ae F Aa).q fun a w F W => ?_
   refine Au F W (Af F Aa Aa Aa Aa) Aa (Ak Aa) (Ag CJ Aa Aa Aa T3 F Aa 0 Aa).q fun a w F W => ?_
   refine Au F W (Af F Aa Aa Aa Aa) Aa (Ak Aa) (Al (v := Value.int .i64 p0.1) 0 F Aa Aa T3 Aa).q fun a w F W => ?_
   refine Au F W (Af F Aa Aa Aa Aa) Aa (Ak Aa) (Bq F Aa Aa).q fun a w F W => ?_
   refine ls F W Aa (An F Aa Aa Aa).q fun a w F W => ?_
   refine ls F W Aa (Ae F Aa).q fun a w F W => ?_
   rcases Bool.eq_false_or_eq_true (decide (p1 < p0.1)) with hb1 | hb1
   ·
    rw [hb1] at F
    refine Au F W (Af F Aa Aa Aa Aa) Aa (Ak Aa) (Ae F Aa).q fun a w F W => ?_
    refine Au F W (Af F Aa Aa Aa Aa) Aa (Ak Aa) (DC F Aa Aa).q fun a w F W => ?_
    refine ls F W Aa (An F Aa Aa Aa).q fun a w F W => ?_
    refine ls F W Aa (Ae F Aa).q fun a w F W => ?_
    rcases Bool.eq_false_or_eq_true (decide (0 ≤ p2)) with hb2 | hb2
    ·
     rw [hb2] at F
     refine Au F W (Af F Aa Aa Aa Aa) Aa (Ak Aa) (Ae F Aa).q fun a w F W => ?_
     refine Au F W (Af F Aa Aa Aa Aa) Aa (Ak Aa) (Id F Aa Aa).q fun a w F W => ?_
     refine ls F W Aa (An F Aa Aa Aa).q fun a w F W => ?_
     refine ls F W Aa (Ae F Aa).q fun a w F W => ?_
     rcases Bool.eq_false_or_eq_true (decide (p2 ≤ 7)) with hb3 | hb3
     ·
      rw [hb3] at F
      refine Au F W (Af F Aa Aa Aa Aa) Aa (Ak Aa) (Ae F Aa).q fun a w F W => ?_
      refine Au F W (Af F Aa Aa Aa Aa) Aa (Ak Aa) (BZ F Aa Aa).q fun a w F W => ?_
      refine ls F W Aa (An F Aa Aa Aa).q fun a w F W => ?_
      refine ls F W Aa (Ah F Aa).q fun a w F W => ?_
      refine Ad (Ab ?_)
      exact ⟨F.re ⟨(by show some (Value.bool (decide (x7 = 1))) = some (Value.bool (decide (0 ≤ p1) && (decide (p1 < p0.1) && (decide (0 ≤ p2) && (decide (p2 ≤ 7) && decide (x7 = 1)))))); try rw [hb1]; try rw [hb0]; try rw [hb2]; try rw [hb3]; all_goals simp only [Bool.not_true, Bool.not_false, Bool.true_and, Bool.false_and, Bool.true_or, Bool.false_or, Bool.and_true, Bool.or_false, cond_true, cond_false]), trivial⟩, W⟩
     rw [hb3] at F
     iterate 2 refine BW F Aa Aa Aa Aa Aa Aa Aa fun a F => ?_
     refine ls F W Aa (As F Aa Aa Aa).q fun a w F W => ?_
     refine ls F W Aa (Ah F Aa).q fun a w F W => ?_
     refine Ad (Ab ?_)
     exact ⟨F.re ⟨(by show some (Value.bool false) = some (Value.bool (decide (0 ≤ p1) && (decide (p1 < p0.1) && (decide (0 ≤ p2) && (decide (p2 ≤ 7) && decide (x7 = 1)))))); try rw [hb1]; try rw [hb0]; try rw [hb2]; try rw [hb3]; all_goals simp only [Bool.not_true, Bool.not_false, Bool.true_and, Bool.false_and, Bool.true_or, Bool.false_or, Bool.and_true, Bool.or_false, cond_true, cond_false]), trivial⟩, W⟩
    rw [hb2] at F
    iterate 2 refine BW F Aa Aa Aa Aa Aa Aa Aa fun a F => ?_
    refine ls F W Aa (As F Aa Aa Aa).q fun a w F W => ?_
    refine ls F W Aa (Ae F Aa).q fun a w F W => ?_
    iterate 2 refine BW F Aa Aa Aa Aa Aa Aa Aa fun a F => ?_
    refine ls F W Aa (As F Aa Aa Aa).q fun a w F W => ?_
    refine ls F W Aa (Ah F Aa).q fun a w F W => ?_
    refine Ad (Ab ?_)
    exact ⟨F.re ⟨(by show some (Value.bool false) = some (Value.bool (decide (0 ≤ p1) && (decide (p1 < p0.1) && (decide (0 ≤ p2) && (decide (p2 ≤ 7) && decide (x7 = 1)))))); try rw [hb1]; try rw [hb0]; try rw [hb2]; all_goals simp only [Bool.not_true, Bool.not_false, Bool.true_and, Bool.false_and, Bool.true_or, Bool.false_or, Bool.and_true, Bool.or_false, cond_true, cond_false]), trivial⟩, W⟩
   rw [hb1] at F
   iterate 2 refine BW F Aa Aa Aa Aa Aa Aa Aa fun a F => ?_
   refine ls F W Aa (As F Aa Aa Aa).q fun a w F W => ?_
   refine ls F W Aa (Ae F Aa).q fun a w F W => ?_
   iterate 2 refine BW F Aa Aa Aa Aa Aa Aa Aa fun a F => ?_
   refine ls F W Aa (As F Aa Aa Aa).q fun a w F W => ?_
   refine ls F W Aa (Ae F Aa).q fun a w F W => ?_
   iterate 2 refine BW F Aa Aa Aa Aa Aa Aa Aa fun a F => ?_
   refine ls F W Aa (As F Aa Aa Aa).q fun a w F W => ?_
   refine ls F W Aa (Ah F Aa).q fun a w F W => ?_
   refine Ad (Ab ?_)
   exact ⟨F.re ⟨(by show some (Value.bool false) = some (Value.bool (decide (0 ≤ p1) && (decide (p1 < p0.1) && (decide (0 ≤ p2) && (decide (p2 ≤ 7) && decide (x7 = 1)))))); try rw [hb1]; try rw [hb0]; all_goals simp only [Bool.not_true, Bool.not_false, Bool.true_and, Bool.false_and, Bool.true_or, Bool.false_or, Bool.and_true, Bool.or_false, cond_true, cond_false]), trivial⟩, W⟩
  rw [hb0] at F
  iterate 4 refine BW F Aa Aa Aa Aa Aa Aa Aa fun a F => ?_
  refine ls F W Aa (As F Aa Aa Aa).q fun a w F W => ?_
  refine ls F W Aa (Ae F Aa).q fun a w F W => ?_
  iterate 2 refine BW F Aa Aa Aa Aa Aa Aa Aa fun a F => ?_
  refine ls F W Aa (As F Aa Aa Aa).q fun a w F W => ?_
  refine ls F W Aa (Ae F Aa).q fun a w F W => ?_
  iterate 2 refine BW F Aa Aa Aa Aa Aa Aa Aa fun a F => ?_
  refine ls F W Aa (As F Aa Aa Aa).q fun a w F W => ?_
  refine ls F W Aa (Ae F Aa).q fun a w F W => ?_
  iterate 2 refine BW F Aa Aa Aa Aa Aa Aa Aa fun a F => ?_
  refine ls F W Aa (As F Aa Aa Aa).q fun a w F W => ?_
  refine ls F W Aa (Ah F Aa).q fun a w F W => ?_
  refine Ad (Ab ?_)
  exact ⟨F.re ⟨(by show some (Value.bool false) = some (Value.bool (decide (0 ≤ p1) && (decide (p1 < p0.1) && (decide (0 ≤ p2) && (decide (p2 ≤ 7) && decide (x7 = 1)))))); try rw [hb0]; all_goals simp only [Bool.not_true, Bool.not_false, Bool.true_and, Bool.false_and, Bool.true_or, Bool.false_or, Bool.and_true, Bool.or_false, cond_true, cond_false]), trivial⟩, W⟩
 rintro a w ⟨F, W⟩
 refine AA ?_
 have H := AW H
 subst H
 refine A8 (.inl Aa) F W Aa (Ap F Aa) ?_
 exact ⟨rfl, W.done⟩
theorem OY : Has Try.prog 56 := ⟨fun args w => Am Try.func56 rfl (by decide) args w⟩
noncomputable def DS (p0 : Int × (List (Int × Int × Int × Int × Int × Int)) × (List (Int × Int))) : Int → Option (Int ⊕ (Unit ⊕ Bool))
  | x1 => (if x1 < (p0.2.1.length : Int) then (ix p0.2.1 x1).bind fun x2 => (if x2.1 = x2.2.2.1 then some true else (if x2.2.2.2.2.1 < 1 then some true else (if x2.2.2.2.2.2 < x2.2.2.2.2.1 then some true else (if 1000 < x2.2.2.2.2.2 then some true else (ES p0 x2.1 x2.2.1).bind fun x4 => (if (!x4) = true then some true else (ES p0 x2.2.2.1 x2.2.2.2.1).bind fun x5 => some (!x5)))))).bind fun x3 => (if x3 = true then some (.inr (.inr false)) else some (.inl (DH (x1 + 1)))) else some (.inr (.inl ())))
noncomputable def DY (p0 : Int × (List (Int × Int × Int × Int × Int × Int)) × (List (Int × Int))) : Int → Option (Int ⊕ (Unit ⊕ Bool))
  | x6 => (if x6 < (p0.2.2.length : Int) then (ix p0.2.2 x6).bind fun x7 => (ix p0.2.2 x6).bind fun x8 => (ES p0 x7.1 x8.2).bind fun x9 => (if (!x9) = true then some (.inr (.inr false)) else some (.inl (DH (x6 + 1)))) else some (.inr (.inl ())))
noncomputable def Fy (p0 : Int × (List (Int × Int × Int × Int × Int × Int)) × (List (Int × Int))) : Option Bool := (if (decide (p0.1 < 1) || (decide (8 < p0.1) || (decide (24 < (p0.2.1.length : Int)) || decide (8 < (p0.2.2.length : Int))))) = true then some false else D7 (AQ (DS p0) 0) fun _ => D7 (AQ (DY p0) 0) fun _ => some true)
theorem Kk (Y : Nat → Prop) (w0 : World) (v1 : Value) (v2 : Value) (p0 : Int × (List (Int × Int × Int × Int × Int × Int)) × (List (Int × Int))) (r : Bool) (H : Fy p0 = some r) (h_v1 : Sl w0 (NX []) CS v1 p0.2.1) (h_v2 : Sl w0 (NX []) Ec v2 p0.2.2) :
    Calls Try.prog 47 #[.agg #[.int .i64 p0.1, v1, v2]] w0 fun e w' => e = .returned (.bool r) ∧ Below w0.heap.size w0 w' := by
 refine enter Try.func47 Aa Try.ntmps47 Aa fun a F => ?_
 have W := Stw.start Y w0
 unfold Fy at H
 refine Ai (Ac ?_)
 refine B9 (cs := [.int .i64 p0.1, v1, v2]) F W Aa Aa Aa fun b1 a w F W => ?_
 refine ls F W Aa (Ah F Aa).q fun a w F W => ?_
 refine Ad (Ab (Ai ?_))
 refine AH (fun a w => Fr 100 [] [(1, .pointer (some ⟨b1, 0, none⟩)), (2, .bool false), (25, .bool (decide (p0.1 < 1) || (decide (8 < p0.1) || (decide (24 < (p0.2.1.length : Int)) || decide (8 < (p0.2.2.length : Int))))))] a ∧ Stw ⟨Y, [], w0⟩ [(b1, [.int .i64 p0.1, v1, v2])] [] w) ?_ ?_
 ·
  refine Ac ?_
  refine ls F W Aa (Ag CJ Aa Aa Aa T3 F Aa 0 Aa).q fun a w F W => ?_
  refine ls F W Aa (Al (v := Value.int .i64 p0.1) 0 F Aa Aa T3 Aa).q fun a w F W => ?_
  refine ls F W Aa (Bq F Aa Aa).q fun a w F W => ?_
  refine ls F W Aa (Ae F Aa).q fun a w F W => ?_
  rcases Bool.eq_false_or_eq_true (decide (p0.1 < 1)) with hb0 | hb0
  ·
   rw [hb0] at F
   iterate 3 refine BW F Aa Aa Aa Aa Aa Aa Aa fun a F => ?_
   refine ls F W Aa (An F Aa Aa Aa).q fun a w F W => ?_
   refine ls F W Aa (Ae F Aa).q fun a w F W => ?_
   iterate 4 refine BW F Aa Aa Aa Aa Aa Aa Aa fun a F => ?_
   refine ls F W Aa (An F Aa Aa Aa).q fun a w F W => ?_
   refine ls F W Aa (Ae F Aa).q fun a w F W => ?_
   iterate 4 refine BW F Aa Aa Aa Aa Aa Aa Aa fun a F => ?_
   refine ls F W Aa (An F Aa Aa Aa).q fun a w F W => ?_
   refine Ad (Ab ?_)
   exact ⟨F.re ⟨rfl, Aa, (by show some (Value.bool true) = some (Value.bool (decide (p0.1 < 1) || (decide (8 < p0.1) || (decide (24 < (p0.2.1.length : Int)) || decide (8 < (p0.2.2.length : Int)))))); try rw [hb0]; all_goals simp only [Bool.not_true, Bool.not_false, Bool.true_and, Bool.false_and, Bool.true_or, Bool.false_or, Bool.and_true, Bool.or_false, cond_true, cond_false]), trivial⟩, W⟩
  rw [hb0] at F
  refine Au F W (Af F Aa Aa Aa Aa) Aa (Ak Aa) (Ag CJ Aa Aa Aa T3 F Aa 0 Aa).q fun a w F W => ?_
  refine Au F W (Af F Aa Aa Aa Aa) Aa (Ak Aa) (Al (v := Value.int .i64 p0.1) 0 F Aa Aa T3 Aa).q fun a w F W => ?_
  refine Au F W (Af F Aa Aa Aa Aa) Aa (Ak Aa) (Fa F Aa Aa).q fun a w F W => ?_
  refine ls F W Aa (As F Aa Aa Aa).q fun a w F W => ?_
  refine ls F W Aa (Ae F Aa).q fun a w F W => ?_
  rcases Bool.eq_false_or_eq_true (decide (8 < p0.1)) with hb1 | hb1
  ·
   rw [hb1] at F
   iterate 4 refine BW F Aa Aa Aa Aa Aa Aa Aa fun a F => ?_
   refine ls F W Aa (An F Aa Aa Aa).q fun a w F W => ?_
   refine ls F W Aa (Ae F Aa).q fun a w F W => ?_
   iterate 4 refine BW F Aa Aa Aa Aa Aa Aa Aa fun a F => ?_
   refine ls F W Aa (An F Aa Aa Aa).q fun a w F W => ?_
   refine Ad (Ab ?_)
   exact ⟨F.re ⟨rfl, Aa, (by show some (Value.bool true) = some (Value.bool (decide (p0.1 < 1) || (decide (8 < p0.1) || (decide (24 < (p0.2.1.length : Int)) || decide (8 < (p0.2.2.length : Int)))))); try rw [hb0]; try rw [hb1]; all_goals simp only [Bool.not_true, Bool.not_false, Bool.true_and, Bool.false_and, Bool.true_or, Bool.false_or, Bool.and_true, Bool.or_false, cond_true, cond_false]), trivial⟩, W⟩
  rw [hb1] at F
  refine Au F W (Af F Aa Aa Aa Aa) Aa (Ak Aa) (Ag CJ Aa Aa Aa H3 F Aa 1 Aa).q fun a w F W => ?_
  refine Au F W (Af F Aa Aa Aa Aa) Aa (Ak Aa) (Al (v := v1) 0 F Aa Aa H3 Aa).q fun a w F W => ?_
  refine Au F W (Af F Aa Aa Aa Aa) Aa (Ak Aa) (A7 (r := CS) (l := p0.2.1) IX Aa F Aa (Aj h_v1)).q fun a w F W => ?_
  refine Au F W (Af F Aa Aa Aa Aa) Aa (Ak Aa) (Fa F Aa Aa).q fun a w F W => ?_
  refine ls F W Aa (As F Aa Aa Aa).q fun a w F W => ?_
  refine ls F W Aa (Ae F Aa).q fun a w F W => ?_
  rcases Bool.eq_false_or_eq_true (decide (24 < (p0.2.1.length : Int))) with hb2 | hb2
  ·
   rw [hb2] at F
   iterate 4 refine BW F Aa Aa Aa Aa Aa Aa Aa fun a F => ?_
   refine ls F W Aa (An F Aa Aa Aa).q fun a w F W => ?_
   refine Ad (Ab ?_)
   exact ⟨F.re ⟨rfl, Aa, (by show some (Value.bool true) = some (Value.bool (decide (p0.1 < 1) || (decide (8 < p0.1) || (decide (24 < (p0.2.1.length : Int)) || decide (8 < (p0.2.2.length : Int)))))); try rw [hb2]; try rw [hb0]; try rw [hb1]; all_goals simp only [Bool.not_true, Bool.not_false, Bool.true_and, Bool.false_and, Bool.true_or, Bool.false_or, Bool.and_true, Bool.or_false, cond_true, cond_false]), trivial⟩, W⟩
  rw [hb2] at F
  refine Au F W (Af F Aa Aa Aa Aa) Aa (Ak Aa) (Ag CJ Aa Aa Aa FW F Aa 2 Aa).q fun a w F W => ?_
  refine Au F W (Af F Aa Aa Aa Aa) Aa (Ak Aa) (Al (v := v2) 0 F Aa Aa FW Aa).q fun a w F W => ?_
  refine Au F W (Af F Aa Aa Aa Aa) Aa (Ak Aa) (A7 (r := Ec) (l := p0.2.2) GW Aa F Aa (Aj h_v2)).q fun a w F W => ?_
  refine Au F W (Af F Aa Aa Aa Aa) Aa (Ak Aa) (Fa F Aa Aa).q fun a w F W => ?_
  refine ls F W Aa (As F Aa Aa Aa).q fun a w F W => ?_
  refine Ad (Ab ?_)
  exact ⟨F.re ⟨rfl, Aa, (by show some (Value.bool (decide (8 < (p0.2.2.length : Int)))) = some (Value.bool (decide (p0.1 < 1) || (decide (8 < p0.1) || (decide (24 < (p0.2.1.length : Int)) || decide (8 < (p0.2.2.length : Int)))))); try rw [hb2]; try rw [hb0]; try rw [hb1]; all_goals simp only [Bool.not_true, Bool.not_false, Bool.true_and, Bool.false_and, Bool.true_or, Bool.false_or, Bool.and_true, Bool.or_false, cond_true, cond_false]), trivial⟩, W⟩
 rintro a w ⟨F, W⟩
 refine Ay F Aa (fun hb => ?_) fun hb => ?_
 ·
  have H := AN hb H
  rw [hb] at F
  clear hb
  refine Ai (Ac ?_)
  refine ls F W Aa (Ah F Aa).q fun a w F W => ?_
  refine Ad (Ab (AA (AD ?_)))
  have H := AW H
  subst H
  refine A8 (.inl Aa) F W Aa (Ap F Aa) ?_
  exact ⟨rfl, W.done⟩
 have H := AM (by rw [hb]; decide) H
 rw [hb] at F
 clear hb
 refine Aq (Ab ?_)
 obtain ⟨o1, G1, K1, L1⟩ := IY H
 refine AH (fun a w => some (Sum.inl ()) = some o1 ∧ Fr 100 [] [(1, .pointer (some ⟨b1, 0, none⟩)), (2, .bool false)] a ∧ Stw ⟨Y, [], w0⟩ [(b1, [.int .i64 p0.1, v1, v2])] [] w) ?_ ?_
 ·
  have H := G1
  clear G1 K1
  refine Ai (Ac ?_)
  refine ls F W Aa (Ah F Aa).q fun a w F W => ?_
  refine Ad (Ab (Aw ?_))
  refine Bv H (fun s a w => Fr 100 [] [(1, .pointer (some ⟨b1, 0, none⟩)), (2, .bool false), (3, .int .i64 s)] a ∧ Stw ⟨Y, [], w0⟩ [(b1, [.int .i64 p0.1, v1, v2])] [] w) ⟨F.re ⟨rfl, Aa, Aa, trivial⟩, W⟩ fun s o a w H L2 hR => ?_
  obtain ⟨x1, rfl⟩ : ∃ x, x = s := ⟨s, rfl⟩
  obtain ⟨F, W⟩ := hR
  have F : Fr 100 [] [(1, .pointer (some ⟨b1, 0, none⟩)), (2, .bool false), (3, .int .i64 x1)] a := F
  have W : Stw ⟨Y, [], w0⟩ [(b1, [.int .i64 p0.1, v1, v2])] [] w := W
  rw [DS] at H
  refine Ai (Ai (Ac ?_))
  refine ls F W Aa (Ae F Aa).q fun a w F W => ?_
  refine ls F W Aa (Ag CJ Aa Aa Aa H3 F Aa 1 Aa).q fun a w F W => ?_
  refine ls F W Aa (Al (v := v1) 0 F Aa Aa H3 Aa).q fun a w F W => ?_
  refine ls F W Aa (A7 (r := CS) (l := p0.2.1) IX Aa F Aa (Aj h_v1)).q fun a w F W => ?_
  refine ls F W Aa (Bq F Aa Aa).q fun a w F W => ?_
  refine Ad (Ab ?_)
  refine Ay F Aa (fun hb => ?_) fun hb => ?_
  ·
   have H := AN (Bf hb) H
   rw [hb] at F
   clear hb
   refine Aq (Ab (Ai (Aw (Ai (Ac ?_)))))
   refine ls F W Aa (Ag CJ Aa Aa Aa H3 F Aa 1 Aa).q fun a w F W => ?_
   refine ls F W Aa (Al (v := v1) 0 F Aa Aa H3 Aa).q fun a w F W => ?_
   refine ls F W Aa (Ae F Aa).q fun a w F W => ?_
   obtain ⟨x2, h1, H⟩ := Ao H
   refine ls F W Aa (AJ (r := CS) Ok F Aa Aa (Aj h_v1) h1).q fun a w F W => ?_
   refine ls F W Aa (Az (y := Value.agg #[.int .i64 x2.1, .int .i64 x2.2.1, .int .i64 x2.2.2.1, .int .i64 x2.2.2.2.1, .int .i64 x2.2.2.2.2.1, .int .i64 x2.2.2.2.2.2]) (j := 0) (i := x1) F Aa Aa (Aj h_v1) h1 LD.to Iv Aa).q fun a w F W => ?_
   refine B1 (cs := [.int .i64 0, .int .i64 0, .int .i64 0, .int .i64 0, .int .i64 0, .int .i64 0]) F W Aa LW Aa fun b2 a w F W => ?_
   refine BM (vs := [.int .i64 x2.1, .int .i64 x2.2.1, .int .i64 x2.2.2.1, .int .i64 x2.2.2.2.1, .int .i64 x2.2.2.2.2.1, .int .i64 x2.2.2.2.2.2]) (M' := [(b2, [.int .i64 x2.1, .int .i64 x2.2.1, .int .i64 x2.2.2.1, .int .i64 x2.2.2.2.1, .int .i64 x2.2.2.2.2.1, .int .i64 x2.2.2.2.2.2]), (b1, [.int .i64 p0.1, v1, v2])]) 0 F W Aa Aa Aa Iv Aa Aa Aa Aa Aa fun w W => ?_
   refine Ad (Ab ?_)
   obtain ⟨o3, G3, K3⟩ := Ao H
   refine AH (fun a w => ∃ x3 : Bool, some (x3) = some o3 ∧ Fr 100 [] [(1, .pointer (some ⟨b1, 0, none⟩)), (2, .bool false), (3, .int .i64 x1), (77, .bool x3)] a ∧ Stw ⟨Y, [], w0⟩ [(b2, [.int .i64 x2.1, .int .i64 x2.2.1, .int .i64 x2.2.2.1, .int .i64 x2.2.2.2.1, .int .i64 x2.2.2.2.2.1, .int .i64 x2.2.2.2.2.2]), (b1, [.int .i64 p0.1, v1, v2])] [] w) ?_ ?_
   ·
    have H := G3
    clear G3 K3
    refine Ac ?_
    refine ls F W Aa (Ag B2 Aa Aa Aa T3 F Aa 0 Aa).q fun a w F W => ?_
    refine ls F W Aa (Al (v := Value.int .i64 x2.1) 0 F Aa Aa T3 Aa).q fun a w F W => ?_
    refine ls F W Aa (Ag B2 Aa Aa Aa T3 F Aa 2 Aa).q fun a w F W => ?_
    refine ls F W Aa (Al (v := Value.int .i64 x2.2.2.1) 0 F Aa Aa T3 Aa).q fun a w F W => ?_
    refine ls F W Aa (BZ F Aa Aa).q fun a w F W => ?_
    refine ls F W Aa (Ae F Aa).q fun a w F W => ?_
    rcases Bool.eq_false_or_eq_true (decide (x2.1 = x2.2.2.1)) with hb | hb
    ·
     have H := AN (Bf hb) H
     rw [hb] at F
     clear hb
     iterate 3 refine BW F Aa Aa Aa Aa Aa Aa Aa fun a F => ?_
     refine ls F W Aa (An F Aa Aa Aa).q fun a w F W => ?_
     refine ls F W Aa (Ae F Aa).q fun a w F W => ?_
     iterate 5 refine BW F Aa Aa Aa Aa Aa Aa Aa fun a F => ?_
     refine ls F W Aa (An F Aa Aa Aa).q fun a w F W => ?_
     refine ls F W Aa (Ae F Aa).q fun a w F W => ?_
     iterate 3 refine BW F Aa Aa Aa Aa Aa Aa Aa fun a F => ?_
     refine ls F W Aa (An F Aa Aa Aa).q fun a w F W => ?_
     refine ls F W Aa (Ae F Aa).q fun a w F W => ?_
     iterate 7 refine BW F Aa Aa Aa Aa Aa Aa Aa fun a F => ?_
     refine ls F W Aa (An F Aa Aa Aa).q fun a w F W => ?_
     refine ls F W Aa (Ae F Aa).q fun a w F W => ?_
     iterate 7 refine BW F Aa Aa Aa Aa Aa Aa Aa fun a F => ?_
     refine ls F W Aa (An F Aa Aa Aa).q fun a w F W => ?_
     refine Ad (Ab ?_)
     have W := W.frontM (i := 1) Aa Aa
     have W := W.frontM (i := 1) Aa Aa
     exact ⟨_, H, F.re ⟨rfl, Aa, Aa, Aa, trivial⟩, W⟩
    have H := AM (Bg hb) H
    rw [hb] at F
    clear hb
    refine Au F W (Af F Aa Aa Aa Aa) Aa (Ak Aa) (Ag B2 Aa Aa Aa T3 F Aa 4 Aa).q fun a w F W => ?_
    refine Au F W (Af F Aa Aa Aa Aa) Aa (Ak Aa) (Al (v := Value.int .i64 x2.2.2.2.2.1) 0 F Aa Aa T3 Aa).q fun a w F W => ?_
    refine Au F W (Af F Aa Aa Aa Aa) Aa (Ak Aa) (Bq F Aa Aa).q fun a w F W => ?_
    refine ls F W Aa (As F Aa Aa Aa).q fun a w F W => ?_
    refine ls F W Aa (Ae F Aa).q fun a w F W => ?_
    rcases Bool.eq_false_or_eq_true (decide (x2.2.2.2.2.1 < 1)) with hb | hb
    ·
     have H := AN (Bf hb) H
     rw [hb] at F
     clear hb
     iterate 5 refine BW F Aa Aa Aa Aa Aa Aa Aa fun a F => ?_
     refine ls F W Aa (An F Aa Aa Aa).q fun a w F W => ?_
     refine ls F W Aa (Ae F Aa).q fun a w F W => ?_
     iterate 3 refine BW F Aa Aa Aa Aa Aa Aa Aa fun a F => ?_
     refine ls F W Aa (An F Aa Aa Aa).q fun a w F W => ?_
     refine ls F W Aa (Ae F Aa).q fun a w F W => ?_
     iterate 7 refine BW F Aa Aa Aa Aa Aa Aa Aa fun a F => ?_
     refine ls F W Aa (An F Aa Aa Aa).q fun a w F W => ?_
     refine ls F W Aa (Ae F Aa).q fun a w F W => ?_
     iterate 7 refine BW F Aa Aa Aa Aa Aa Aa Aa fun a F => ?_
     refine ls F W Aa (An F Aa Aa Aa).q fun a w F W => ?_
     refine Ad (Ab ?_)
     have W := W.frontM (i := 1) Aa Aa
     have W := W.frontM (i := 1) Aa Aa
     exact ⟨_, H, F.re ⟨rfl, Aa, Aa, Aa, trivial⟩, W⟩
    have H := AM (Bg hb) H
    rw [hb] at F
    clear hb
    refine Au F W (Af F Aa Aa Aa Aa) Aa (Ak Aa) (Ag B2 Aa Aa Aa T3 F Aa 4 Aa).q fun a w F W => ?_
    refine Au F W (Af F Aa Aa Aa Aa) Aa (Ak Aa) (Al (v := Value.int .i64 x2.2.2.2.2.1) 0 F Aa Aa T3 Aa).q fun a w F W => ?_
    refine Au F W (Af F Aa Aa Aa Aa) Aa (Ak Aa) (Ag B2 Aa Aa Aa T3 F Aa 5 Aa).q fun a w F W => ?_
    refine Au F W (Af F Aa Aa Aa Aa) Aa (Ak Aa) (Al (v := Value.int .i64 x2.2.2.2.2.2) 0 F Aa Aa T3 Aa).q fun a w F W => ?_
    refine Au F W (Af F Aa Aa Aa Aa) Aa (Ak Aa) (Fa F Aa Aa).q fun a w F W => ?_
    refine ls F W Aa (As F Aa Aa Aa).q fun a w F W => ?_
    refine ls F W Aa (Ae F Aa).q fun a w F W => ?_
    rcases Bool.eq_false_or_eq_true (decide (x2.2.2.2.2.2 < x2.2.2.2.2.1)) with hb | hb
    ·
     have H := AN (Bf hb) H
     rw [hb] at F
     clear hb
     iterate 3 refine BW F Aa Aa Aa Aa Aa Aa Aa fun a F => ?_
     refine ls F W Aa (An F Aa Aa Aa).q fun a w F W => ?_
     refine ls F W Aa (Ae F Aa).q fun a w F W => ?_
     iterate 7 refine BW F Aa Aa Aa Aa Aa Aa Aa fun a F => ?_
     refine ls F W Aa (An F Aa Aa Aa).q fun a w F W => ?_
     refine ls F W Aa (Ae F Aa).q fun a w F W => ?_
     iterate 7 refine BW F Aa Aa Aa Aa Aa Aa Aa fun a F => ?_
     refine ls F W Aa (An F Aa Aa Aa).q fun a w F W => ?_
     refine Ad (Ab ?_)
     have W := W.frontM (i := 1) Aa Aa
     have W := W.frontM (i := 1) Aa Aa
     exact ⟨_, H, F.re ⟨rfl, Aa, Aa, Aa, trivial⟩, W⟩
    have H := AM (Bg hb) H
    rw [hb] at F
    clear hb
    refine Au F W (Af F Aa Aa Aa Aa) Aa (Ak Aa) (Ag B2 Aa Aa Aa T3 F Aa 5 Aa).q fun a w F W => ?_
    refine Au F W (Af F Aa Aa Aa Aa) Aa (Ak Aa) (Al (v := Value.int .i64 x2.2.2.2.2.2) 0 F Aa Aa T3 Aa).q fun a w F W => ?_
    refine Au F W (Af F Aa Aa Aa Aa) Aa (Ak Aa) (Fa F Aa Aa).q fun a w F W => ?_
    refine ls F W Aa (As F Aa Aa Aa).q fun a w F W => ?_
    refine ls F W Aa (Ae F Aa).q fun a w F W => ?_
    rcases Bool.eq_false_or_eq_true (decide (1000 < x2.2.2.2.2.2)) with hb | hb
    ·
     have H := AN (Bf hb) H
     rw [hb] at F
     clear hb
     iterate 7 refine BW F Aa Aa Aa Aa Aa Aa Aa fun a F => ?_
     refine ls F W Aa (An F Aa Aa Aa).q fun a w F W => ?_
     refine ls F W Aa (Ae F Aa).q fun a w F W => ?_
     iterate 7 refine BW F Aa Aa Aa Aa Aa Aa Aa fun a F => ?_
     refine ls F W Aa (An F Aa Aa Aa).q fun a w F W => ?_
     refine Ad (Ab ?_)
     have W := W.frontM (i := 1) Aa Aa
     have W := W.frontM (i := 1) Aa Aa
     exact ⟨_, H, F.re ⟨rfl, Aa, Aa, Aa, trivial⟩, W⟩
    have H := AM (Bg hb) H
    rw [hb] at F
    clear hb
    refine Au F W (Af F Aa Aa Aa Aa) Aa (Ak Aa) (Al (v := Value.agg #[.int .i64 p0.1, v1, v2]) 1 F Aa Aa G0 Aa).q fun a w F W => ?_
    refine Au F W (Af F Aa Aa Aa Aa) Aa (Ak Aa) (Ag B2 Aa Aa Aa T3 F Aa 0 Aa).q fun a w F W => ?_
    refine Au F W (Af F Aa Aa Aa Aa) Aa (Ak Aa) (Al (v := Value.int .i64 x2.1) 0 F Aa Aa T3 Aa).q fun a w F W => ?_
    refine Au F W (Af F Aa Aa Aa Aa) Aa (Ak Aa) (Ag B2 Aa Aa Aa T3 F Aa 1 Aa).q fun a w F W => ?_
    refine Au F W (Af F Aa Aa Aa Aa) Aa (Ak Aa) (Al (v := Value.int .i64 x2.2.1) 0 F Aa Aa T3 Aa).q fun a w F W => ?_
    refine J2 (Af F Aa Aa Aa Aa) ?_
    obtain ⟨x4, h2, H⟩ := Ao H
    refine ls F W Aa (BI (v := Value.bool x4) F OY Aa (fun w W => Gv any w (v1) (v2) p0 x2.1 x2.2.1 _ h2 (((Aj h_v1) : CZ _ _ _ _ _ _) w W).nx (((Aj h_v2) : CZ _ _ _ _ _ _) w W).nx)) fun a w F W => ?_
    refine Au F W (Af F Aa Aa Aa Aa) Aa (Ak Aa) (EJ F Aa).q fun a w F W => ?_
    refine ls F W Aa (As F Aa Aa Aa).q fun a w F W => ?_
    refine ls F W Aa (Ae F Aa).q fun a w F W => ?_
    rcases Bool.eq_false_or_eq_true (!x4) with hb | hb
    ·
     have H := AN hb H
     rw [hb] at F
     clear hb
     iterate 7 refine BW F Aa Aa Aa Aa Aa Aa Aa fun a F => ?_
     refine ls F W Aa (An F Aa Aa Aa).q fun a w F W => ?_
     refine Ad (Ab ?_)
     have W := W.frontM (i := 1) Aa Aa
     have W := W.frontM (i := 1) Aa Aa
     exact ⟨_, H, F.re ⟨rfl, Aa, Aa, Aa, trivial⟩, W⟩
    have H := AM (by rw [hb]; decide) H
    rw [hb] at F
    clear hb
    refine Au F W (Af F Aa Aa Aa Aa) Aa (Ak Aa) (Al (v := Value.agg #[.int .i64 p0.1, v1, v2]) 1 F Aa Aa G0 Aa).q fun a w F W => ?_
    refine Au F W (Af F Aa Aa Aa Aa) Aa (Ak Aa) (Ag B2 Aa Aa Aa T3 F Aa 2 Aa).q fun a w F W => ?_
    refine Au F W (Af F Aa Aa Aa Aa) Aa (Ak Aa) (Al (v := Value.int .i64 x2.2.2.1) 0 F Aa Aa T3 Aa).q fun a w F W => ?_
    refine Au F W (Af F Aa Aa Aa Aa) Aa (Ak Aa) (Ag B2 Aa Aa Aa T3 F Aa 3 Aa).q fun a w F W => ?_
    refine Au F W (Af F Aa Aa Aa Aa) Aa (Ak Aa) (Al (v := Value.int .i64 x2.2.2.2.1) 0 F Aa Aa T3 Aa).q fun a w F W => ?_
    refine J2 (Af F Aa Aa Aa Aa) ?_
    obtain ⟨x5, h3, H⟩ := Ao H
    refine ls F W Aa (BI (v := Value.bool x5) F OY Aa (fun w W => Gv any w (v1) (v2) p0 x2.2.2.1 x2.2.2.2.1 _ h3 (((Aj h_v1) : CZ _ _ _ _ _ _) w W).nx (((Aj h_v2) : CZ _ _ _ _ _ _) w W).nx)) fun a w F W => ?_
    refine Au F W (Af F Aa Aa Aa Aa) Aa (Ak Aa) (EJ F Aa).q fun a w F W => ?_
    refine ls F W Aa (As F Aa Aa Aa).q fun a w F W => ?_
    refine Ad (Ab ?_)
    have W := W.frontM (i := 1) Aa Aa
    have W := W.frontM (i := 1) Aa Aa
    exact ⟨_, H, F.re ⟨rfl, Aa, Aa, Aa, trivial⟩, W⟩
   rintro a w ⟨x3, hj, F, W⟩
   have hj := AW hj
   subst hj
   have H := K3
   clear G3 K3
   refine Ay F Aa (fun hb => ?_) fun hb => ?_
   ·
    have H := AN hb H
    rw [hb] at F
    clear hb
    refine Ai (Ac ?_)
    refine ls F W Aa (Ah F Aa).q fun a w F W => ?_
    refine Ad (Ab (AA (AF ?_)))
    iterate 2 refine AD ?_
    refine AF (AD ?_)
    have H := L2 _ H
    have H := L1 _ H
    have H := AW H
    subst H
    refine A8 (.inl Aa) F W Aa (Ap F Aa) ?_
    exact ⟨rfl, W.done⟩
   have H := AM (by rw [hb]; decide) H
   rw [hb] at F
   clear hb
   refine Aq (AK (Ab (Ac ?_)))
   refine ls F W Aa (Ae F Aa).q fun a w F W => ?_
   refine ls F W Aa (Cq F Aa Aa Aa).q fun a w F W => ?_
   refine ls F W Aa (Ah F Aa).q fun a w F W => ?_
   refine Ad (Ab ?_)
   have W := W.frontM (i := 1) Aa Aa
   have W := W.sub (M' := [(b1, [.int .i64 p0.1, v1, v2])]) (Z' := []) (List.Sublist.cons_cons _ (List.nil_sublist _)) (List.Sublist.refl _)
   exact ⟨_, H, F.re ⟨rfl, Aa, Aa, trivial⟩, W⟩
  have H := AM (Bg hb) H
  rw [hb] at F
  clear hb
  refine Bk ?_
  iterate 2 refine BJ ?_
  refine Bl (Ab ?_)
  have H := L2 _ H
  exact ⟨H, F.re ⟨rfl, Aa, trivial⟩, W⟩
 rintro a w ⟨hj, F, W⟩
 have H := K1 _ hj
 clear hj G1 K1 L1
 obtain ⟨o4, G4, K4, L4⟩ := IY H
 refine AH (fun a w => some (Sum.inl ()) = some o4 ∧ Fr 100 [] [(2, .bool false)] a ∧ Stw ⟨Y, [], w0⟩ [(b1, [.int .i64 p0.1, v1, v2])] [] w) ?_ ?_
 ·
  have H := G4
  clear G4 K4
  refine Ai (Ac ?_)
  refine ls F W Aa (Ah F Aa).q fun a w F W => ?_
  refine Ad (Ab (Aw ?_))
  refine Bv H (fun s a w => Fr 100 [] [(1, .pointer (some ⟨b1, 0, none⟩)), (2, .bool false), (5, .int .i64 s)] a ∧ Stw ⟨Y, [], w0⟩ [(b1, [.int .i64 p0.1, v1, v2])] [] w) ⟨F.re ⟨rfl, Aa, Aa, trivial⟩, W⟩ fun s o a w H L5 hR => ?_
  obtain ⟨x6, rfl⟩ : ∃ x, x = s := ⟨s, rfl⟩
  obtain ⟨F, W⟩ := hR
  have F : Fr 100 [] [(1, .pointer (some ⟨b1, 0, none⟩)), (2, .bool false), (5, .int .i64 x6)] a := F
  have W : Stw ⟨Y, [], w0⟩ [(b1, [.int .i64 p0.1, v1, v2])] [] w := W
  rw [DY] at H
  refine Ai (Ai (Ac ?_))
  refine ls F W Aa (Ae F Aa).q fun a w F W => ?_
  refine ls F W Aa (Ag CJ Aa Aa Aa FW F Aa 2 Aa).q fun a w F W => ?_
  refine ls F W Aa (Al (v := v2) 0 F Aa Aa FW Aa).q fun a w F W => ?_
  refine ls F W Aa (A7 (r := Ec) (l := p0.2.2) GW Aa F Aa (Aj h_v2)).q fun a w F W => ?_
  refine ls F W Aa (Bq F Aa Aa).q fun a w F W => ?_
  refine Ad (Ab ?_)
  refine Ay F Aa (fun hb => ?_) fun hb => ?_
  ·
   have H := AN (Bf hb) H
   rw [hb] at F
   clear hb
   refine Aq (Ab (Ai (Aw (Ai ?_))))
   refine Cv W MO (by kernel_rfl) ?_
   refine qs F Aa (Al (v := Value.agg #[.int .i64 p0.1, v1, v2]) 0 F Aa Aa G0 Aa).q fun a F => ?_
   refine qs F Aa (Ag CJ Aa Aa Aa FW F Aa 2 Aa).q fun a F => ?_
   refine qs F Aa (Al (v := v2) 0 F Aa Aa FW Aa).q fun a F => ?_
   refine qs F Aa (Ae F Aa).q fun a F => ?_
   obtain ⟨x7, h4, H⟩ := Ao H
   refine qs F Aa (AJ (r := Ec) Nd F Aa Aa (Aj h_v2) h4).q fun a F => ?_
   refine qs F Aa (Ag I1 Aa Aa Aa T3 F Aa (EE v2 + (x6).toNat * 2) Aa).q fun a F => ?_
   refine qs F Aa (Az (y := Value.int .i64 x7.1) (j := 0) (i := x6) F Aa Aa (Aj h_v2) h4 Nm.to T3 Aa).q fun a F => ?_
   refine qs F Aa (Ag CJ Aa Aa Aa FW F Aa 2 Aa).q fun a F => ?_
   refine qs F Aa (Al (v := v2) 0 F Aa Aa FW Aa).q fun a F => ?_
   refine qs F Aa (Ae F Aa).q fun a F => ?_
   obtain ⟨x8, h5, H⟩ := Ao H
   refine qs F Aa (AJ (r := Ec) Nd F Aa Aa (Aj h_v2) h5).q fun a F => ?_
   refine qs F Aa (Ag I1 Aa Aa Aa T3 F Aa (EE v2 + (x6).toNat * 2 + 1) Aa).q fun a F => ?_
   refine qs F Aa (Az (y := Value.int .i64 x8.2) (j := 1) (i := x6) F Aa Aa (Aj h_v2) h5 Nm.to T3 Aa).q fun a F => ?_
   obtain ⟨x9, h6, H⟩ := Ao H
   refine qs F Aa (BI (v := Value.bool x9) F OY Aa (fun w W => Gv any w (v1) (v2) p0 x7.1 x8.2 _ h6 (((Aj h_v1) : CZ _ _ _ _ _ _) w W).nx (((Aj h_v2) : CZ _ _ _ _ _ _) w W).nx)) fun a F => ?_
   refine qs F Aa (EJ F Aa).q fun a F => ?_
   refine BK fun w W => ?_
   refine Ab ?_
   refine Ay F Aa (fun hb => ?_) fun hb => ?_
   ·
    have H := AN hb H
    rw [hb] at F
    clear hb
    refine Ai (Ac ?_)
    refine ls F W Aa (Ah F Aa).q fun a w F W => ?_
    refine Ad (Ab (AA (AF ?_)))
    iterate 2 refine AD ?_
    refine AF (AD ?_)
    have H := L5 _ H
    have H := L4 _ H
    have H := AW H
    subst H
    refine A8 (.inl Aa) F W Aa (Ap F Aa) ?_
    exact ⟨rfl, W.done⟩
   have H := AM (by rw [hb]; decide) H
   rw [hb] at F
   clear hb
   refine Aq (AK (Ab (Ac ?_)))
   refine ls F W Aa (Ae F Aa).q fun a w F W => ?_
   refine ls F W Aa (Cq F Aa Aa Aa).q fun a w F W => ?_
   refine ls F W Aa (Ah F Aa).q fun a w F W => ?_
   refine Ad (Ab ?_)
   exact ⟨_, H, F.re ⟨rfl, Aa, Aa, trivial⟩, W⟩
  have H := AM (Bg hb) H
  rw [hb] at F
  clear hb
  refine Bk ?_
  iterate 2 refine BJ ?_
  refine Bl (Ab ?_)
  have H := L5 _ H
  exact ⟨H, F.re ⟨rfl, trivial⟩, W⟩
 rintro a w ⟨hj, F, W⟩
 have H := K4 _ hj
 clear hj G4 K4 L4
 refine Ai (Ac ?_)
 refine ls F W Aa (Ah F Aa).q fun a w F W => ?_
 refine Ad (Ab (AA ?_))
 have H := AW H
 subst H
 refine A8 (.inl Aa) F W Aa (Ap F Aa) ?_
 exact ⟨rfl, W.done⟩
theorem PW : Has Try.prog 47 := ⟨fun args w => Am Try.func47 rfl (by decide) args w⟩
noncomputable def CL (p1 : List (List Int)) (x3 : Int) : Int → Option (Int ⊕ (Unit ⊕ (Int ⊕ (Unit ⊕ Bool))))
  | x5 => (ix p1 x3).bind fun x6 => (if x5 < (x6.length : Int) then ((ix p1 x3).bind fun x8 => (ix x8 x5).bind fun x9 => (if x9 < 0 then some true else (ix p1 x3).bind fun x10 => (ix x10 x5).bind fun x11 => some (decide (7 < x11)))).bind fun x7 => (if x7 = true then some (.inr (.inr (.inr (.inr false)))) else some (.inl (DH (x5 + 1)))) else some (.inr (.inl ())))
noncomputable def DT (p0 : Int × (List (Int × Int × Int × Int × Int × Int)) × (List (Int × Int))) (p1 : List (List Int)) : Int → Option (Int ⊕ (Unit ⊕ Bool))
  | x3 => (if x3 < (p1.length : Int) then D7 ((ix p1 x3).bind fun x4 => (if (x4.length : Int) ≠ (p0.2.2.length : Int) then some (.inr (.inr (.inr false))) else AQ (CL p1 x3) 0)) fun _ => some (.inl (DH (x3 + 1))) else some (.inr (.inl ())))
noncomputable def EP (p0 : Int × (List (Int × Int × Int × Int × Int × Int)) × (List (Int × Int))) (p1 : List (List Int)) : Option Bool := ((Fy p0).bind fun x2 => (if (!x2) = true then some true else some (decide ((p1.length : Int) ≠ p0.1)))).bind fun x1 => (if x1 = true then some false else D7 (AQ (DT p0 p1) 0) fun _ => some true)
theorem HD (Y : Nat → Prop) (w0 : World) (v1 : Value) (v2 : Value) (v3 : Value) (p0 : Int × (List (Int × Int × Int × Int × Int × Int)) × (List (Int × Int))) (p1 : List (List Int)) (r : Bool) (H : EP p0 p1 = some r) (h_v1 : Sl w0 (NX []) CS v1 p0.2.1) (h_v2 : Sl w0 (NX []) Ec v2 p0.2.2) (h_v3 : Sl w0 (NX []) (Rp.slice (Rp.int .i64)) v3 p1) :
    Calls Try.prog 37 #[.agg #[.int .i64 p0.1, v1, v2], v3] w0 fun e w' => e = .returned (.bool r) ∧ Below w0.heap.size w0 w' := by
 refine enter Try.func37 Aa Try.ntmps37 Aa fun a F => ?_
 have W := Stw.start Y w0
 obtain ⟨v4, h1, h_v3⟩ := h_v3.ex Dc
 unfold EP at H
 refine Ai (Ac ?_)
 refine B9 (cs := [.int .i64 p0.1, v1, v2]) F W Aa Aa Aa fun b1 a w F W => ?_
 refine ls F W Aa (Ah F Aa).q fun a w F W => ?_
 refine Ad (Ab (Ai ?_))
 obtain ⟨o1, G1, K1⟩ := Ao H
 refine AH (fun a w => ∃ x1 : Bool, some (x1) = some o1 ∧ Fr 59 [] [(1, v3), (2, .pointer (some ⟨b1, 0, none⟩)), (4, .bool false), (16, .bool x1)] a ∧ Stw ⟨Y, [], w0⟩ [(b1, [.int .i64 p0.1, v1, v2])] [] w) ?_ ?_
 ·
  have H := G1
  clear G1 K1
  refine Ac ?_
  refine ls F W Aa (Al (v := Value.agg #[.int .i64 p0.1, v1, v2]) 0 F Aa Aa G0 Aa).q fun a w F W => ?_
  obtain ⟨x2, h2, H⟩ := Ao H
  refine ls F W Aa (BI (v := Value.bool x2) F PW Aa (fun w W => Kk any w (v1) (v2) p0 _ h2 (((Aj h_v1) : CZ _ _ _ _ _ _) w W).nx (((Aj h_v2) : CZ _ _ _ _ _ _) w W).nx)) fun a w F W => ?_
  refine ls F W Aa (EJ F Aa).q fun a w F W => ?_
  refine ls F W Aa (Ae F Aa).q fun a w F W => ?_
  rcases Bool.eq_false_or_eq_true (!x2) with hb | hb
  ·
   have H := AN hb H
   rw [hb] at F
   clear hb
   iterate 5 refine BW F Aa Aa Aa Aa Aa Aa Aa fun a F => ?_
   refine ls F W Aa (An F Aa Aa Aa).q fun a w F W => ?_
   refine Ad (Ab ?_)
   exact ⟨_, H, F.re ⟨rfl, Aa, Aa, Aa, trivial⟩, W⟩
  have H := AM (by rw [hb]; decide) H
  rw [hb] at F
  clear hb
  refine Au F W (Af F Aa Aa Aa Aa) Aa (Ak Aa) (Ae F Aa).q fun a w F W => ?_
  refine Au F W (Af F Aa Aa Aa Aa) Aa (Ak Aa) (A7 (r := (Rp.slice (Rp.int .i64))) (l := p1) Ik Aa F Aa (Bx Dc h1 (Aj h_v3))).q fun a w F W => ?_
  refine Au F W (Af F Aa Aa Aa Aa) Aa (Ak Aa) (Ag CJ Aa Aa Aa T3 F Aa 0 Aa).q fun a w F W => ?_
  refine Au F W (Af F Aa Aa Aa Aa) Aa (Ak Aa) (Al (v := Value.int .i64 p0.1) 0 F Aa Aa T3 Aa).q fun a w F W => ?_
  refine Au F W (Af F Aa Aa Aa Aa) Aa (Ak Aa) (Fd F Aa Aa).q fun a w F W => ?_
  refine ls F W Aa (As F Aa Aa Aa).q fun a w F W => ?_
  refine Ad (Ab ?_)
  exact ⟨_, H, F.re ⟨rfl, Aa, Aa, Aa, trivial⟩, W⟩
 rintro a w ⟨x1, hj, F, W⟩
 have hj := AW hj
 subst hj
 have H := K1
 clear G1 K1
 refine Ay F Aa (fun hb => ?_) fun hb => ?_
 ·
  have H := AN hb H
  rw [hb] at F
  clear hb
  refine Ai (Ac ?_)
  refine ls F W Aa (Ah F Aa).q fun a w F W => ?_
  refine Ad (Ab (AA (AD ?_)))
  have H := AW H
  subst H
  refine A8 (.inl Aa) F W Aa (Ap F Aa) ?_
  exact ⟨rfl, W.done⟩
 have H := AM (by rw [hb]; decide) H
 rw [hb] at F
 clear hb
 refine Aq (Ab ?_)
 obtain ⟨o2, G2, K2, L2⟩ := IY H
 refine AH (fun a w => some (Sum.inl ()) = some o2 ∧ Fr 59 [] [(4, .bool false)] a ∧ Stw ⟨Y, [], w0⟩ [(b1, [.int .i64 p0.1, v1, v2])] [] w) ?_ ?_
 ·
  have H := G2
  clear G2 K2
  refine Ai (Ac ?_)
  refine ls F W Aa (Ah F Aa).q fun a w F W => ?_
  refine Ad (Ab (Aw ?_))
  refine Bv H (fun s a w => Fr 59 [] [(1, v3), (2, .pointer (some ⟨b1, 0, none⟩)), (4, .bool false), (5, .int .i64 s)] a ∧ Stw ⟨Y, [], w0⟩ [(b1, [.int .i64 p0.1, v1, v2])] [] w) ⟨F.re ⟨rfl, Aa, Aa, Aa, trivial⟩, W⟩ fun s o a w H L3 hR => ?_
  obtain ⟨x3, rfl⟩ : ∃ x, x = s := ⟨s, rfl⟩
  obtain ⟨F, W⟩ := hR
  have F : Fr 59 [] [(1, v3), (2, .pointer (some ⟨b1, 0, none⟩)), (4, .bool false), (5, .int .i64 x3)] a := F
  have W : Stw ⟨Y, [], w0⟩ [(b1, [.int .i64 p0.1, v1, v2])] [] w := W
  rw [DT] at H
  refine Ai (Ai (Ac ?_))
  iterate 2 refine ls F W Aa (Ae F Aa).q fun a w F W => ?_
  refine ls F W Aa (A7 (r := (Rp.slice (Rp.int .i64))) (l := p1) Ik Aa F Aa (Bx Dc h1 (Aj h_v3))).q fun a w F W => ?_
  refine ls F W Aa (Bq F Aa Aa).q fun a w F W => ?_
  refine Ad (Ab ?_)
  refine Ay F Aa (fun hb => ?_) fun hb => ?_
  ·
   have H := AN (Bf hb) H
   rw [hb] at F
   clear hb
   refine Aq (Ab ?_)
   obtain ⟨o4, G4, K4, L4⟩ := IY H
   refine AH (fun a w => some (Sum.inl ()) = some o4 ∧ Fr 59 [] [(1, v3), (2, .pointer (some ⟨b1, 0, none⟩)), (4, .bool false), (5, .int .i64 x3)] a ∧ Stw ⟨Y, [], w0⟩ [(b1, [.int .i64 p0.1, v1, v2])] [] w) ?_ ?_
   ·
    have H := G4
    clear G4 K4
    refine Aw ?_
    iterate 2 refine Ai ?_
    refine Cv W MO (by kernel_rfl) ?_
    iterate 2 refine qs F Aa (Ae F Aa).q fun a F => ?_
    obtain ⟨x4, h3, H⟩ := Ao H
    obtain ⟨v5, h4, h5⟩ := DN h1 h3
    have h6 : Ez v5 = [(v5.1)] := congrArg (fun q : List Int => ([(v5.1)] : List Value)) h5
    refine qs F Aa (AJ (r := (Rp.vsl (Rp.int .i64))) Lw F Aa Aa (Aj h_v3) h4).q fun a F => ?_
    refine qs F Aa (Az (y := (v5.1)) (j := 0) (i := x3) (enc := Ez) F Aa Aa (Aj h_v3) h4 HL FZ (by rw [h6]; rfl)).q fun a F => ?_
    refine qs F Aa (A7 (r := (Rp.int .i64)) (l := x4) Fq Aa F Aa (CT (Aj h_v3) h4 Db.here (congrArg (fun q : List Int => q) h5))).q fun a F => ?_
    refine qs F Aa (Ag CJ Aa Aa Aa FW F Aa 2 Aa).q fun a F => ?_
    refine qs F Aa (Al (v := v2) 0 F Aa Aa FW Aa).q fun a F => ?_
    refine qs F Aa (A7 (r := Ec) (l := p0.2.2) GW Aa F Aa (Aj h_v2)).q fun a F => ?_
    refine qs F Aa (Fd F Aa Aa).q fun a F => ?_
    refine BK fun w W => ?_
    refine Ab ?_
    refine Ay F Aa (fun hb => ?_) fun hb => ?_
    ·
     have H := AN (Bf hb) H
     rw [hb] at F
     clear hb
     refine Ai (Ac ?_)
     refine ls F W Aa (Ah F Aa).q fun a w F W => ?_
     refine Ad (Ab (AA (AD (AF ?_))))
     iterate 2 refine AD ?_
     refine AF (AD ?_)
     have H := L4 _ H
     have H := L3 _ H
     have H := L2 _ H
     have H := AW H
     subst H
     refine A8 (.inl Aa) F W Aa (Ap F Aa) ?_
     exact ⟨rfl, W.done⟩
    have H := AM (Bg hb) H
    rw [hb] at F
    clear hb
    refine Aq (Ab (Ai (Ac ?_)))
    refine ls F W Aa (Ah F Aa).q fun a w F W => ?_
    refine Ad (Ab (Aw ?_))
    refine Bv H (fun s a w => Fr 59 [] [(1, v3), (2, .pointer (some ⟨b1, 0, none⟩)), (4, .bool false), (5, .int .i64 x3), (6, .int .i64 s)] a ∧ Stw ⟨Y, [], w0⟩ [(b1, [.int .i64 p0.1, v1, v2])] [] w) ⟨F.re ⟨rfl, Aa, Aa, Aa, Aa, trivial⟩, W⟩ fun s o a w H L5 hR => ?_
    obtain ⟨x5, rfl⟩ : ∃ x, x = s := ⟨s, rfl⟩
    obtain ⟨F, W⟩ := hR
    have F : Fr 59 [] [(1, v3), (2, .pointer (some ⟨b1, 0, none⟩)), (4, .bool false), (5, .int .i64 x3), (6, .int .i64 x5)] a := F
    have W : Stw ⟨Y, [], w0⟩ [(b1, [.int .i64 p0.1, v1, v2])] [] w := W
    rw [CL] at H
    refine Ai (Ai (Ac ?_))
    iterate 3 refine ls F W Aa (Ae F Aa).q fun a w F W => ?_
    obtain ⟨x6, h7, H⟩ := Ao H
    obtain ⟨v6, h8, h9⟩ := DN h1 h7
    have h10 : Ez v6 = [(v6.1)] := congrArg (fun q : List Int => ([(v6.1)] : List Value)) h9
    refine ls F W Aa (AJ (r := (Rp.vsl (Rp.int .i64))) Lw F Aa Aa (Aj h_v3) h8).q fun a w F W => ?_
    refine ls F W Aa (Az (y := (v6.1)) (j := 0) (i := x3) (enc := Ez) F Aa Aa (Aj h_v3) h8 HL FZ (by rw [h10]; rfl)).q fun a w F W => ?_
    refine ls F W Aa (A7 (r := (Rp.int .i64)) (l := x6) Fq Aa F Aa (CT (Aj h_v3) h8 Db.here (congrArg (fun q : List Int => q) h9))).q fun a w F W => ?_
    refine ls F W Aa (Bq F Aa Aa).q fun a w F W => ?_
    refine Ad (Ab ?_)
    refine Ay F Aa (fun hb => ?_) fun hb => ?_
    ·
     have H := AN (Bf hb) H
     rw [hb] at F
     clear hb
     refine Aq (Ab (Ai (Aw ?_)))
     obtain ⟨o6, G6, K6⟩ := Ao H
     refine AH (fun a w => ∃ x7 : Bool, some (x7) = some o6 ∧ Fr 59 [] [(1, v3), (2, .pointer (some ⟨b1, 0, none⟩)), (4, .bool false), (5, .int .i64 x3), (6, .int .i64 x5), (58, .bool x7)] a ∧ Stw ⟨Y, [], w0⟩ [(b1, [.int .i64 p0.1, v1, v2])] [] w) ?_ ?_
     ·
      have H := G6
      clear G6 K6
      refine Ac ?_
      iterate 2 refine ls F W Aa (Ae F Aa).q fun a w F W => ?_
      obtain ⟨x8, h11, H⟩ := Ao H
      obtain ⟨v7, h12, h13⟩ := DN h1 h11
      have h14 : Ez v7 = [(v7.1)] := congrArg (fun q : List Int => ([(v7.1)] : List Value)) h13
      refine ls F W Aa (AJ (r := (Rp.vsl (Rp.int .i64))) Lw F Aa Aa (Aj h_v3) h12).q fun a w F W => ?_
      refine ls F W Aa (Az (y := (v7.1)) (j := 0) (i := x3) (enc := Ez) F Aa Aa (Aj h_v3) h12 HL FZ (by rw [h14]; rfl)).q fun a w F W => ?_
      refine ls F W Aa (Ae F Aa).q fun a w F W => ?_
      obtain ⟨x9, h15, H⟩ := Ao H
      refine ls F W Aa (AJ (r := (Rp.int .i64)) HV F Aa Aa (CT (Aj h_v3) h12 Db.here (congrArg (fun q : List Int => q) h13)) h15).q fun a w F W => ?_
      refine ls F W Aa (Az (y := Value.int .i64 x9) (j := 0) (i := x5) F Aa Aa (CT (Aj h_v3) h12 Db.here (congrArg (fun q : List Int => q) h13)) h15 Fl.int.to T3 Aa).q fun a w F W => ?_
      refine ls F W Aa (Bq F Aa Aa).q fun a w F W => ?_
      refine ls F W Aa (Ae F Aa).q fun a w F W => ?_
      rcases Bool.eq_false_or_eq_true (decide (x9 < 0)) with hb | hb
      ·
       have H := AN (Bf hb) H
       rw [hb] at F
       clear hb
       iterate 8 refine BW F Aa Aa Aa Aa Aa Aa Aa fun a F => ?_
       refine ls F W Aa (An F Aa Aa Aa).q fun a w F W => ?_
       refine Ad (Ab ?_)
       exact ⟨_, H, F.re ⟨rfl, Aa, Aa, Aa, Aa, Aa, trivial⟩, W⟩
      have H := AM (Bg hb) H
      rw [hb] at F
      clear hb
      iterate 2 refine Au F W (Af F Aa Aa Aa Aa) Aa (Ak Aa) (Ae F Aa).q fun a w F W => ?_
      obtain ⟨x10, h16, H⟩ := Ao H
      obtain ⟨v8, h17, h18⟩ := DN h1 h16
      have h19 : Ez v8 = [(v8.1)] := congrArg (fun q : List Int => ([(v8.1)] : List Value)) h18
      refine Au F W (Af F Aa Aa Aa Aa) Aa (Ak Aa) (AJ (r := (Rp.vsl (Rp.int .i64))) Lw F Aa Aa (Aj h_v3) h17).q fun a w F W => ?_
      refine Au F W (Af F Aa Aa Aa Aa) Aa (Ak Aa) (Az (y := (v8.1)) (j := 0) (i := x3) (enc := Ez) F Aa Aa (Aj h_v3) h17 HL FZ (by rw [h19]; rfl)).q fun a w F W => ?_
      refine Au F W (Af F Aa Aa Aa Aa) Aa (Ak Aa) (Ae F Aa).q fun a w F W => ?_
      obtain ⟨x11, h20, H⟩ := Ao H
      refine Au F W (Af F Aa Aa Aa Aa) Aa (Ak Aa) (AJ (r := (Rp.int .i64)) HV F Aa Aa (CT (Aj h_v3) h17 Db.here (congrArg (fun q : List Int => q) h18)) h20).q fun a w F W => ?_
      refine Au F W (Af F Aa Aa Aa Aa) Aa (Ak Aa) (Az (y := Value.int .i64 x11) (j := 0) (i := x5) F Aa Aa (CT (Aj h_v3) h17 Db.here (congrArg (fun q : List Int => q) h18)) h20 Fl.int.to T3 Aa).q fun a w F W => ?_
      refine Au F W (Af F Aa Aa Aa Aa) Aa (Ak Aa) (Fa F Aa Aa).q fun a w F W => ?_
      refine ls F W Aa (As F Aa Aa Aa).q fun a w F W => ?_
      refine Ad (Ab ?_)
      exact ⟨_, H, F.re ⟨rfl, Aa, Aa, Aa, Aa, Aa, trivial⟩, W⟩
     rintro a w ⟨x7, hj, F, W⟩
     have hj := AW hj
     subst hj
     have H := K6
     clear G6 K6
     refine Ay F Aa (fun hb => ?_) fun hb => ?_
     ·
      have H := AN hb H
      rw [hb] at F
      clear hb
      refine Ai (Ac ?_)
      refine ls F W Aa (Ah F Aa).q fun a w F W => ?_
      refine Ad (Ab (AA (AF ?_)))
      iterate 2 refine AD ?_
      iterate 2 refine AF ?_
      iterate 2 refine AD ?_
      refine AF (AD ?_)
      have H := L5 _ H
      have H := L4 _ H
      have H := L3 _ H
      have H := L2 _ H
      have H := AW H
      subst H
      refine A8 (.inl Aa) F W Aa (Ap F Aa) ?_
      exact ⟨rfl, W.done⟩
     have H := AM (by rw [hb]; decide) H
     rw [hb] at F
     clear hb
     refine Aq (AK (Ab (Ac ?_)))
     refine ls F W Aa (Ae F Aa).q fun a w F W => ?_
     refine ls F W Aa (Cq F Aa Aa Aa).q fun a w F W => ?_
     refine ls F W Aa (Ah F Aa).q fun a w F W => ?_
     refine Ad (Ab ?_)
     exact ⟨_, H, F.re ⟨rfl, Aa, Aa, Aa, Aa, trivial⟩, W⟩
    have H := AM (Bg hb) H
    rw [hb] at F
    clear hb
    refine Bk ?_
    iterate 2 refine BJ ?_
    refine Bl (AK (Ab ?_))
    have H := L5 _ H
    exact ⟨H, F.re ⟨rfl, Aa, Aa, Aa, trivial⟩, W⟩
   rintro a w ⟨hj, F, W⟩
   have H := K4 _ hj
   clear hj G4 K4 L4
   refine Ac ?_
   refine ls F W Aa (Ae F Aa).q fun a w F W => ?_
   refine ls F W Aa (Cq F Aa Aa Aa).q fun a w F W => ?_
   refine ls F W Aa (Ah F Aa).q fun a w F W => ?_
   refine Ad (Ab ?_)
   exact ⟨_, H, F.re ⟨rfl, Aa, Aa, Aa, trivial⟩, W⟩
  have H := AM (Bg hb) H
  rw [hb] at F
  clear hb
  refine Bk ?_
  iterate 2 refine BJ ?_
  refine Bl (Ab ?_)
  have H := L3 _ H
  exact ⟨H, F.re ⟨rfl, trivial⟩, W⟩
 rintro a w ⟨hj, F, W⟩
 have H := K2 _ hj
 clear hj G2 K2 L2
 refine Ai (Ac ?_)
 refine ls F W Aa (Ah F Aa).q fun a w F W => ?_
 refine Ad (Ab (AA ?_))
 have H := AW H
 subst H
 refine A8 (.inl Aa) F W Aa (Ap F Aa) ?_
 exact ⟨rfl, W.done⟩
theorem Pi : Has Try.prog 37 := ⟨fun args w => Am Try.func37 rfl (by decide) args w⟩
noncomputable def Fg (p0 : Int × (List (Int × Int × Int × Int × Int × Int)) × (List (Int × Int))) (p1 : Int) (p2 : Int) : Int → Option (Int ⊕ (Unit ⊕ (Int × Int × Int × Bool)))
  | x1 => (if x1 < (p0.2.1.length : Int) then (ix p0.2.1 x1).bind fun x2 => (if (decide (x2.1 = p1) && decide (x2.2.1 = p2)) = true then some (.inr (.inr (x2.2.2.1, x2.2.2.2.1, x1, true))) else (if (decide (x2.2.2.1 = p1) && decide (x2.2.2.2.1 = p2)) = true then some (.inr (.inr (x2.1, x2.2.1, x1, true))) else some (.inl (DH (x1 + 1))))) else some (.inr (.inl ())))
noncomputable def FF (p0 : Int × (List (Int × Int × Int × Int × Int × Int)) × (List (Int × Int))) (p1 : Int) (p2 : Int) : Option (Int × Int × Int × Bool) := D7 (AQ (Fg p0 p1 p2) 0) fun _ => some (0, 0, 0, false)
theorem KM (Y : Nat → Prop) (w0 : World) (v1 : Value) (v2 : Value) (p0 : Int × (List (Int × Int × Int × Int × Int × Int)) × (List (Int × Int))) (p1 : Int) (p2 : Int) (r : Int × Int × Int × Bool) (H : FF p0 p1 p2 = some r) (h_v1 : Sl w0 (NX []) CS v1 p0.2.1) (h_v2 : Sl w0 (NX []) Ec v2 p0.2.2) :
    Calls Try.prog 57 #[.agg #[.int .i64 p0.1, v1, v2], .int .i64 p1, .int .i64 p2] w0 fun e w' => e = .returned (.tuple #[.int .i64 r.1, .int .i64 r.2.1, .int .i64 r.2.2.1, .bool r.2.2.2]) ∧ Below w0.heap.size w0 w' := by
 refine enter Try.func57 Aa Try.ntmps57 Aa fun a F => ?_
 have W := Stw.start Y w0
 unfold FF at H
 refine Ai (Ac ?_)
 refine B9 (cs := [.int .i64 p0.1, v1, v2]) F W Aa Aa Aa fun b1 a w F W => ?_
 iterate 4 refine ls F W Aa (Ah F Aa).q fun a w F W => ?_
 refine Ad (Ab ?_)
 obtain ⟨o1, G1, K1, L1⟩ := IY H
 refine AH (fun a w => some (Sum.inl ()) = some o1 ∧ Fr 54 [] [(6, .int .i64 0), (7, .int .i64 0), (8, .int .i64 0), (9, .bool false)] a ∧ Stw ⟨Y, [], w0⟩ [(b1, [.int .i64 p0.1, v1, v2])] [] w) ?_ ?_
 ·
  have H := G1
  clear G1 K1
  refine Ai (Ac ?_)
  refine ls F W Aa (Ah F Aa).q fun a w F W => ?_
  refine Ad (Ab (Aw ?_))
  refine Bv H (fun s a w => Fr 54 [] [(1, .int .i64 p1), (2, .int .i64 p2), (3, .pointer (some ⟨b1, 0, none⟩)), (6, .int .i64 0), (7, .int .i64 0), (8, .int .i64 0), (9, .bool false), (10, .int .i64 s)] a ∧ Stw ⟨Y, [], w0⟩ [(b1, [.int .i64 p0.1, v1, v2])] [] w) ⟨F.re ⟨rfl, Aa, Aa, Aa, Aa, Aa, Aa, Aa, trivial⟩, W⟩ fun s o a w H L2 hR => ?_
  obtain ⟨x1, rfl⟩ : ∃ x, x = s := ⟨s, rfl⟩
  obtain ⟨F, W⟩ := hR
  have F : Fr 54 [] [(1, .int .i64 p1), (2, .int .i64 p2), (3, .pointer (some ⟨b1, 0, none⟩)), (6, .int .i64 0), (7, .int .i64 0), (8, .int .i64 0), (9, .bool false), (10, .int .i64 x1)] a := F
  have W : Stw ⟨Y, [], w0⟩ [(b1, [.int .i64 p0.1, v1, v2])] [] w := W
  rw [Fg] at H
  refine Ai (Ai (Ac ?_))
  refine ls F W Aa (Ae F Aa).q fun a w F W => ?_
  refine ls F W Aa (Ag CJ Aa Aa Aa H3 F Aa 1 Aa).q fun a w F W => ?_
  refine ls F W Aa (Al (v := v1) 0 F Aa Aa H3 Aa).q fun a w F W => ?_
  refine ls F W Aa (A7 (r := CS) (l := p0.2.1) IX Aa F Aa (Aj h_v1)).q fun a w F W => ?_
  refine ls F W Aa (Bq F Aa Aa).q fun a w F W => ?_
  refine Ad (Ab ?_)
  refine Ay F Aa (fun hb => ?_) fun hb => ?_
  ·
   have H := AN (Bf hb) H
   rw [hb] at F
   clear hb
   refine Aq (Ab (Ai (Aw (Ai (Ac ?_)))))
   refine ls F W Aa (Ag CJ Aa Aa Aa H3 F Aa 1 Aa).q fun a w F W => ?_
   refine ls F W Aa (Al (v := v1) 0 F Aa Aa H3 Aa).q fun a w F W => ?_
   refine ls F W Aa (Ae F Aa).q fun a w F W => ?_
   obtain ⟨x2, h1, H⟩ := Ao H
   refine ls F W Aa (AJ (r := CS) Ok F Aa Aa (Aj h_v1) h1).q fun a w F W => ?_
   refine ls F W Aa (Az (y := Value.agg #[.int .i64 x2.1, .int .i64 x2.2.1, .int .i64 x2.2.2.1, .int .i64 x2.2.2.2.1, .int .i64 x2.2.2.2.2.1, .int .i64 x2.2.2.2.2.2]) (j := 0) (i := x1) F Aa Aa (Aj h_v1) h1 LD.to Iv Aa).q fun a w F W => ?_
   refine B1 (cs := [.int .i64 0, .int .i64 0, .int .i64 0, .int .i64 0, .int .i64 0, .int .i64 0]) F W Aa LW Aa fun b2 a w F W => ?_
   refine BM (vs := [.int .i64 x2.1, .int .i64 x2.2.1, .int .i64 x2.2.2.1, .int .i64 x2.2.2.2.1, .int .i64 x2.2.2.2.2.1, .int .i64 x2.2.2.2.2.2]) (M' := [(b2, [.int .i64 x2.1, .int .i64 x2.2.1, .int .i64 x2.2.2.1, .int .i64 x2.2.2.2.1, .int .i64 x2.2.2.2.2.1, .int .i64 x2.2.2.2.2.2]), (b1, [.int .i64 p0.1, v1, v2])]) 0 F W Aa Aa Aa Iv Aa Aa Aa Aa Aa fun w W => ?_
   refine Ad (Ab (Ai ?_))
   refine AH (fun a w => Fr 54 [] [(1, .int .i64 p1), (2, .int .i64 p2), (3, .pointer (some ⟨b1, 0, none⟩)), (6, .int .i64 0), (7, .int .i64 0), (8, .int .i64 0), (9, .bool false), (10, .int .i64 x1), (11, .pointer (some ⟨b2, 0, none⟩)), (33, .bool (decide (x2.1 = p1) && decide (x2.2.1 = p2)))] a ∧ Stw ⟨Y, [], w0⟩ [(b2, [.int .i64 x2.1, .int .i64 x2.2.1, .int .i64 x2.2.2.1, .int .i64 x2.2.2.2.1, .int .i64 x2.2.2.2.2.1, .int .i64 x2.2.2.2.2.2]), (b1, [.int .i64 p0.1, v1, v2])] [] w) ?_ ?_
   ·
    refine Ac ?_
    refine ls F W Aa (Ag B2 Aa Aa Aa T3 F Aa 0 Aa).q fun a w F W => ?_
    refine ls F W Aa (Al (v := Value.int .i64 x2.1) 0 F Aa Aa T3 Aa).q fun a w F W => ?_
    refine ls F W Aa (Ae F Aa).q fun a w F W => ?_
    refine ls F W Aa (BZ F Aa Aa).q fun a w F W => ?_
    refine ls F W Aa (Ae F Aa).q fun a w F W => ?_
    rcases Bool.eq_false_or_eq_true (decide (x2.1 = p1)) with hb0 | hb0
    ·
     rw [hb0] at F
     refine Au F W (Af F Aa Aa Aa Aa) Aa (Ak Aa) (Ag B2 Aa Aa Aa T3 F Aa 1 Aa).q fun a w F W => ?_
     refine Au F W (Af F Aa Aa Aa Aa) Aa (Ak Aa) (Al (v := Value.int .i64 x2.2.1) 0 F Aa Aa T3 Aa).q fun a w F W => ?_
     refine Au F W (Af F Aa Aa Aa Aa) Aa (Ak Aa) (Ae F Aa).q fun a w F W => ?_
     refine Au F W (Af F Aa Aa Aa Aa) Aa (Ak Aa) (BZ F Aa Aa).q fun a w F W => ?_
     refine ls F W Aa (An F Aa Aa Aa).q fun a w F W => ?_
     refine Ad (Ab ?_)
     exact ⟨F.re ⟨rfl, Aa, Aa, Aa, Aa, Aa, Aa, Aa, Aa, (by show some (Value.bool (decide (x2.2.1 = p2))) = some (Value.bool (decide (x2.1 = p1) && decide (x2.2.1 = p2))); try rw [hb0]; all_goals simp only [Bool.not_true, Bool.not_false, Bool.true_and, Bool.false_and, Bool.true_or, Bool.false_or, Bool.and_true, Bool.or_false, cond_true, cond_false]), trivial⟩, W⟩
    rw [hb0] at F
    iterate 4 refine BW F Aa Aa Aa Aa Aa Aa Aa fun a F => ?_
    refine ls F W Aa (As F Aa Aa Aa).q fun a w F W => ?_
    refine Ad (Ab ?_)
    exact ⟨F.re ⟨rfl, Aa, Aa, Aa, Aa, Aa, Aa, Aa, Aa, (by show some (Value.bool false) = some (Value.bool (decide (x2.1 = p1) && decide (x2.2.1 = p2))); try rw [hb0]; all_goals simp only [Bool.not_true, Bool.not_false, Bool.true_and, Bool.false_and, Bool.true_or, Bool.false_or, Bool.and_true, Bool.or_false, cond_true, cond_false]), trivial⟩, W⟩
   rintro a w ⟨F, W⟩
   refine Ay F Aa (fun hb => ?_) fun hb => ?_
   ·
    have H := AN hb H
    rw [hb] at F
    clear hb
    refine Ai ?_
    refine Cv W MO (by kernel_rfl) ?_
    refine qs F Aa (Ag B2 Aa Aa Aa T3 F Aa 2 Aa).q fun a F => ?_
    refine qs F Aa (Al (v := Value.int .i64 x2.2.2.1) 0 F Aa Aa T3 Aa).q fun a F => ?_
    refine qs F Aa (Ag B2 Aa Aa Aa T3 F Aa 3 Aa).q fun a F => ?_
    refine qs F Aa (Al (v := Value.int .i64 x2.2.2.2.1) 0 F Aa Aa T3 Aa).q fun a F => ?_
    refine qs F Aa (Ae F Aa).q fun a F => ?_
    iterate 4 refine qs F Aa (Ah F Aa).q fun a F => ?_
    refine BK fun w W => ?_
    refine Ab (AA (AD (AF ?_)))
    iterate 2 refine AD ?_
    refine AF (AD ?_)
    have H := L2 _ H
    have H := L1 _ H
    have H := AW H
    subst H
    refine Jd (.inl Aa) F W Aa (Ap F Aa) (Ap F Aa) (Ap F Aa) (Ap F Aa) ?_
    exact ⟨rfl, W.done⟩
   have H := AM (by rw [hb]; decide) H
   rw [hb] at F
   clear hb
   refine Aq (Ab ?_)
   refine AH (fun a w => Fr 54 [] [(1, .int .i64 p1), (2, .int .i64 p2), (3, .pointer (some ⟨b1, 0, none⟩)), (6, .int .i64 0), (7, .int .i64 0), (8, .int .i64 0), (9, .bool false), (10, .int .i64 x1), (11, .pointer (some ⟨b2, 0, none⟩)), (48, .bool (decide (x2.2.2.1 = p1) && decide (x2.2.2.2.1 = p2)))] a ∧ Stw ⟨Y, [], w0⟩ [(b2, [.int .i64 x2.1, .int .i64 x2.2.1, .int .i64 x2.2.2.1, .int .i64 x2.2.2.2.1, .int .i64 x2.2.2.2.2.1, .int .i64 x2.2.2.2.2.2]), (b1, [.int .i64 p0.1, v1, v2])] [] w) ?_ ?_
   ·
    refine Ac ?_
    refine ls F W Aa (Ag B2 Aa Aa Aa T3 F Aa 2 Aa).q fun a w F W => ?_
    refine ls F W Aa (Al (v := Value.int .i64 x2.2.2.1) 0 F Aa Aa T3 Aa).q fun a w F W => ?_
    refine ls F W Aa (Ae F Aa).q fun a w F W => ?_
    refine ls F W Aa (BZ F Aa Aa).q fun a w F W => ?_
    refine ls F W Aa (Ae F Aa).q fun a w F W => ?_
    rcases Bool.eq_false_or_eq_true (decide (x2.2.2.1 = p1)) with hb0 | hb0
    ·
     rw [hb0] at F
     refine Au F W (Af F Aa Aa Aa Aa) Aa (Ak Aa) (Ag B2 Aa Aa Aa T3 F Aa 3 Aa).q fun a w F W => ?_
     refine Au F W (Af F Aa Aa Aa Aa) Aa (Ak Aa) (Al (v := Value.int .i64 x2.2.2.2.1) 0 F Aa Aa T3 Aa).q fun a w F W => ?_
     refine Au F W (Af F Aa Aa Aa Aa) Aa (Ak Aa) (Ae F Aa).q fun a w F W => ?_
     refine Au F W (Af F Aa Aa Aa Aa) Aa (Ak Aa) (BZ F Aa Aa).q fun a w F W => ?_
     refine ls F W Aa (An F Aa Aa Aa).q fun a w F W => ?_
     refine Ad (Ab ?_)
     exact ⟨F.re ⟨rfl, Aa, Aa, Aa, Aa, Aa, Aa, Aa, Aa, (by show some (Value.bool (decide (x2.2.2.2.1 = p2))) = some (Value.bool (decide (x2.2.2.1 = p1) && decide (x2.2.2.2.1 = p2))); try rw [hb0]; all_goals simp only [Bool.not_true, Bool.not_false, Bool.true_and, Bool.false_and, Bool.true_or, Bool.false_or, Bool.and_true, Bool.or_false, cond_true, cond_false]), trivial⟩, W⟩
    rw [hb0] at F
    iterate 4 refine BW F Aa Aa Aa Aa Aa Aa Aa fun a F => ?_
    refine ls F W Aa (As F Aa Aa Aa).q fun a w F W => ?_
    refine Ad (Ab ?_)
    exact ⟨F.re ⟨rfl, Aa, Aa, Aa, Aa, Aa, Aa, Aa, Aa, (by show some (Value.bool false) = some (Value.bool (decide (x2.2.2.1 = p1) && decide (x2.2.2.2.1 = p2))); try rw [hb0]; all_goals simp only [Bool.not_true, Bool.not_false, Bool.true_and, Bool.false_and, Bool.true_or, Bool.false_or, Bool.and_true, Bool.or_false, cond_true, cond_false]), trivial⟩, W⟩
   rintro a w ⟨F, W⟩
   refine Ay F Aa (fun hb => ?_) fun hb => ?_
   ·
    have H := AN hb H
    rw [hb] at F
    clear hb
    refine Ai ?_
    refine Cv W MO (by kernel_rfl) ?_
    refine qs F Aa (Ag B2 Aa Aa Aa T3 F Aa 0 Aa).q fun a F => ?_
    refine qs F Aa (Al (v := Value.int .i64 x2.1) 0 F Aa Aa T3 Aa).q fun a F => ?_
    refine qs F Aa (Ag B2 Aa Aa Aa T3 F Aa 1 Aa).q fun a F => ?_
    refine qs F Aa (Al (v := Value.int .i64 x2.2.1) 0 F Aa Aa T3 Aa).q fun a F => ?_
    refine qs F Aa (Ae F Aa).q fun a F => ?_
    iterate 4 refine qs F Aa (Ah F Aa).q fun a F => ?_
    refine BK fun w W => ?_
    refine Ab (AA (AF ?_))
    iterate 2 refine AD ?_
    refine AF (AD ?_)
    have H := L2 _ H
    have H := L1 _ H
    have H := AW H
    subst H
    refine Jd (.inl Aa) F W Aa (Ap F Aa) (Ap F Aa) (Ap F Aa) (Ap F Aa) ?_
    exact ⟨rfl, W.done⟩
   have H := AM (by rw [hb]; decide) H
   rw [hb] at F
   clear hb
   refine Aq (AK (Ab (Ac ?_)))
   refine ls F W Aa (Ae F Aa).q fun a w F W => ?_
   refine ls F W Aa (Cq F Aa Aa Aa).q fun a w F W => ?_
   refine ls F W Aa (Ah F Aa).q fun a w F W => ?_
   refine Ad (Ab ?_)
   have W := W.frontM (i := 1) Aa Aa
   have W := W.sub (M' := [(b1, [.int .i64 p0.1, v1, v2])]) (Z' := []) (List.Sublist.cons_cons _ (List.nil_sublist _)) (List.Sublist.refl _)
   exact ⟨_, H, F.re ⟨rfl, Aa, Aa, Aa, Aa, Aa, Aa, Aa, trivial⟩, W⟩
  have H := AM (Bg hb) H
  rw [hb] at F
  clear hb
  refine Bk ?_
  iterate 2 refine BJ ?_
  refine Bl (Ab ?_)
  have H := L2 _ H
  exact ⟨H, F.re ⟨rfl, Aa, Aa, Aa, trivial⟩, W⟩
 rintro a w ⟨hj, F, W⟩
 have H := K1 _ hj
 clear hj G1 K1 L1
 refine Ai (Ac ?_)
 iterate 4 refine ls F W Aa (Ah F Aa).q fun a w F W => ?_
 refine Ad (Ab (AA ?_))
 have H := AW H
 subst H
 refine Jd (.inl Aa) F W Aa (Ap F Aa) (Ap F Aa) (Ap F Aa) (Ap F Aa) ?_
 exact ⟨rfl, W.done⟩
theorem P0 : Has Try.prog 57 := ⟨fun args w => Am Try.func57 rfl (by decide) args w⟩
noncomputable def F2 (p0 : Int × (List (Int × Int × Int × Int × Int × Int)) × (List (Int × Int))) (p1 : List (List Int)) (p2 : Int) (p3 : Int) : Option (Int × Bool) := (if p2 < 0 then some true else (if (p1.length : Int) ≤ p2 then some true else (if p3 < 0 then some true else (ix p1 p2).bind fun x2 => some (decide ((x2.length : Int) ≤ p3))))).bind fun x1 => (if x1 = true then some (0, false) else (ix p1 p2).bind fun x3 => (ix x3 p3).bind fun x4 => (FF p0 p2 x4).bind fun x5 => some (x5.1, x5.2.2.2))
theorem Ky (Y : Nat → Prop) (w0 : World) (v1 : Value) (v2 : Value) (v3 : Value) (p0 : Int × (List (Int × Int × Int × Int × Int × Int)) × (List (Int × Int))) (p1 : List (List Int)) (p2 : Int) (p3 : Int) (r : Int × Bool) (H : F2 p0 p1 p2 p3 = some r) (h_v1 : Sl w0 (NX []) CS v1 p0.2.1) (h_v2 : Sl w0 (NX []) Ec v2 p0.2.2) (h_v3 : Sl w0 (NX []) (Rp.slice (Rp.int .i64)) v3 p1) :
    Calls Try.prog 48 #[.agg #[.int .i64 p0.1, v1, v2], v3, .int .i64 p2, .int .i64 p3] w0 fun e w' => e = .returned (.tuple #[.int .i64 r.1, .bool r.2]) ∧ Below w0.heap.size w0 w' := by
 refine enter Try.func48 Aa Try.ntmps48 Aa fun a F => ?_
 have W := Stw.start Y w0
 obtain ⟨v4, h1, h_v3⟩ := h_v3.ex Dc
 unfold F2 at H
 refine Ai (Ac ?_)
 refine B9 (cs := [.int .i64 p0.1, v1, v2]) F W Aa Aa Aa fun b1 a w F W => ?_
 iterate 2 refine ls F W Aa (Ah F Aa).q fun a w F W => ?_
 refine Ad (Ab (Ai ?_))
 obtain ⟨o1, G1, K1⟩ := Ao H
 refine AH (fun a w => ∃ x1 : Bool, some (x1) = some o1 ∧ Fr 52 [] [(1, v3), (2, .int .i64 p2), (3, .int .i64 p3), (4, .pointer (some ⟨b1, 0, none⟩)), (8, .int .i64 0), (9, .bool false), (34, .bool x1)] a ∧ Stw ⟨Y, [], w0⟩ [(b1, [.int .i64 p0.1, v1, v2])] [] w) ?_ ?_
 ·
  have H := G1
  clear G1 K1
  refine Ac ?_
  refine ls F W Aa (Ae F Aa).q fun a w F W => ?_
  refine ls F W Aa (Bq F Aa Aa).q fun a w F W => ?_
  refine ls F W Aa (Ae F Aa).q fun a w F W => ?_
  rcases Bool.eq_false_or_eq_true (decide (p2 < 0)) with hb | hb
  ·
   have H := AN (Bf hb) H
   rw [hb] at F
   clear hb
   iterate 4 refine BW F Aa Aa Aa Aa Aa Aa Aa fun a F => ?_
   refine ls F W Aa (An F Aa Aa Aa).q fun a w F W => ?_
   refine ls F W Aa (Ae F Aa).q fun a w F W => ?_
   iterate 2 refine BW F Aa Aa Aa Aa Aa Aa Aa fun a F => ?_
   refine ls F W Aa (An F Aa Aa Aa).q fun a w F W => ?_
   refine ls F W Aa (Ae F Aa).q fun a w F W => ?_
   iterate 7 refine BW F Aa Aa Aa Aa Aa Aa Aa fun a F => ?_
   refine ls F W Aa (An F Aa Aa Aa).q fun a w F W => ?_
   refine Ad (Ab ?_)
   exact ⟨_, H, F.re ⟨rfl, Aa, Aa, Aa, Aa, Aa, Aa, trivial⟩, W⟩
  have H := AM (Bg hb) H
  rw [hb] at F
  clear hb
  iterate 2 refine Au F W (Af F Aa Aa Aa Aa) Aa (Ak Aa) (Ae F Aa).q fun a w F W => ?_
  refine Au F W (Af F Aa Aa Aa Aa) Aa (Ak Aa) (A7 (r := (Rp.slice (Rp.int .i64))) (l := p1) Ik Aa F Aa (Bx Dc h1 (Aj h_v3))).q fun a w F W => ?_
  refine Au F W (Af F Aa Aa Aa Aa) Aa (Ak Aa) (DC F Aa Aa).q fun a w F W => ?_
  refine ls F W Aa (As F Aa Aa Aa).q fun a w F W => ?_
  refine ls F W Aa (Ae F Aa).q fun a w F W => ?_
  rcases Bool.eq_false_or_eq_true (decide ((p1.length : Int) ≤ p2)) with hb | hb
  ·
   have H := AN (Bf hb) H
   rw [hb] at F
   clear hb
   iterate 2 refine BW F Aa Aa Aa Aa Aa Aa Aa fun a F => ?_
   refine ls F W Aa (An F Aa Aa Aa).q fun a w F W => ?_
   refine ls F W Aa (Ae F Aa).q fun a w F W => ?_
   iterate 7 refine BW F Aa Aa Aa Aa Aa Aa Aa fun a F => ?_
   refine ls F W Aa (An F Aa Aa Aa).q fun a w F W => ?_
   refine Ad (Ab ?_)
   exact ⟨_, H, F.re ⟨rfl, Aa, Aa, Aa, Aa, Aa, Aa, trivial⟩, W⟩
  have H := AM (Bg hb) H
  rw [hb] at F
  clear hb
  refine Au F W (Af F Aa Aa Aa Aa) Aa (Ak Aa) (Ae F Aa).q fun a w F W => ?_
  refine Au F W (Af F Aa Aa Aa Aa) Aa (Ak Aa) (Bq F Aa Aa).q fun a w F W => ?_
  refine ls F W Aa (As F Aa Aa Aa).q fun a w F W => ?_
  refine ls F W Aa (Ae F Aa).q fun a w F W => ?_
  rcases Bool.eq_false_or_eq_true (decide (p3 < 0)) with hb | hb
  ·
   have H := AN (Bf hb) H
   rw [hb] at F
   clear hb
   iterate 7 refine BW F Aa Aa Aa Aa Aa Aa Aa fun a F => ?_
   refine ls F W Aa (An F Aa Aa Aa).q fun a w F W => ?_
   refine Ad (Ab ?_)
   exact ⟨_, H, F.re ⟨rfl, Aa, Aa, Aa, Aa, Aa, Aa, trivial⟩, W⟩
  have H := AM (Bg hb) H
  rw [hb] at F
  clear hb
  iterate 3 refine Au F W (Af F Aa Aa Aa Aa) Aa (Ak Aa) (Ae F Aa).q fun a w F W => ?_
  obtain ⟨x2, h2, H⟩ := Ao H
  obtain ⟨v5, h3, h4⟩ := DN h1 h2
  have h5 : Ez v5 = [(v5.1)] := congrArg (fun q : List Int => ([(v5.1)] : List Value)) h4
  refine Au F W (Af F Aa Aa Aa Aa) Aa (Ak Aa) (AJ (r := (Rp.vsl (Rp.int .i64))) Lw F Aa Aa (Aj h_v3) h3).q fun a w F W => ?_
  refine Au F W (Af F Aa Aa Aa Aa) Aa (Ak Aa) (Az (y := (v5.1)) (j := 0) (i := p2) (enc := Ez) F Aa Aa (Aj h_v3) h3 HL FZ (by rw [h5]; rfl)).q fun a w F W => ?_
  refine Au F W (Af F Aa Aa Aa Aa) Aa (Ak Aa) (A7 (r := (Rp.int .i64)) (l := x2) Fq Aa F Aa (CT (Aj h_v3) h3 Db.here (congrArg (fun q : List Int => q) h4))).q fun a w F W => ?_
  refine Au F W (Af F Aa Aa Aa Aa) Aa (Ak Aa) (DC F Aa Aa).q fun a w F W => ?_
  refine ls F W Aa (As F Aa Aa Aa).q fun a w F W => ?_
  refine Ad (Ab ?_)
  exact ⟨_, H, F.re ⟨rfl, Aa, Aa, Aa, Aa, Aa, Aa, trivial⟩, W⟩
 rintro a w ⟨x1, hj, F, W⟩
 have hj := AW hj
 subst hj
 have H := K1
 clear G1 K1
 refine Ay F Aa (fun hb => ?_) fun hb => ?_
 ·
  have H := AN hb H
  rw [hb] at F
  clear hb
  refine Ai (Ac ?_)
  iterate 2 refine ls F W Aa (Ah F Aa).q fun a w F W => ?_
  refine Ad (Ab (AA (AD ?_)))
  have H := AW H
  subst H
  refine Eb (.inl Aa) F W Aa (Ap F Aa) (Ap F Aa) ?_
  exact ⟨rfl, W.done⟩
 have H := AM (by rw [hb]; decide) H
 rw [hb] at F
 clear hb
 refine Aq (Ab (Ai ?_))
 refine Cv W MO (by kernel_rfl) ?_
 refine qs F Aa (Al (v := Value.agg #[.int .i64 p0.1, v1, v2]) 0 F Aa Aa G0 Aa).q fun a F => ?_
 iterate 3 refine qs F Aa (Ae F Aa).q fun a F => ?_
 obtain ⟨x3, h6, H⟩ := Ao H
 obtain ⟨v6, h7, h8⟩ := DN h1 h6
 have h9 : Ez v6 = [(v6.1)] := congrArg (fun q : List Int => ([(v6.1)] : List Value)) h8
 refine qs F Aa (AJ (r := (Rp.vsl (Rp.int .i64))) Lw F Aa Aa (Aj h_v3) h7).q fun a F => ?_
 refine qs F Aa (Az (y := (v6.1)) (j := 0) (i := p2) (enc := Ez) F Aa Aa (Aj h_v3) h7 HL FZ (by rw [h9]; rfl)).q fun a F => ?_
 refine qs F Aa (Ae F Aa).q fun a F => ?_
 obtain ⟨x4, h10, H⟩ := Ao H
 refine qs F Aa (AJ (r := (Rp.int .i64)) HV F Aa Aa (CT (Aj h_v3) h7 Db.here (congrArg (fun q : List Int => q) h8)) h10).q fun a F => ?_
 refine qs F Aa (Az (y := Value.int .i64 x4) (j := 0) (i := p3) F Aa Aa (CT (Aj h_v3) h7 Db.here (congrArg (fun q : List Int => q) h8)) h10 Fl.int.to T3 Aa).q fun a F => ?_
 obtain ⟨x5, h11, H⟩ := Ao H
 refine qs F Aa (BI (v := Value.tuple #[.int .i64 x5.1, .int .i64 x5.2.1, .int .i64 x5.2.2.1, .bool x5.2.2.2]) F P0 Aa (fun w W => KM any w (v1) (v2) p0 p2 x4 _ h11 (((Aj h_v1) : CZ _ _ _ _ _ _) w W).nx (((Aj h_v2) : CZ _ _ _ _ _ _) w W).nx)) fun a F => ?_
 refine qs F Aa (Ae F Aa).q fun a F => ?_
 refine qs F Aa (AZ (v := Value.int .i64 x5.1) F Aa Aa).q fun a F => ?_
 refine qs F Aa (AZ (v := Value.int .i64 x5.2.1) F Aa Aa).q fun a F => ?_
 refine qs F Aa (AZ (v := Value.int .i64 x5.2.2.1) F Aa Aa).q fun a F => ?_
 refine qs F Aa (AZ (v := Value.bool x5.2.2.2) F Aa Aa).q fun a F => ?_
 iterate 4 refine qs F Aa (Ah F Aa).q fun a F => ?_
 refine BK fun w W => ?_
 refine Ab (Ai (Ac ?_))
 iterate 2 refine ls F W Aa (Ae F Aa).q fun a w F W => ?_
 iterate 2 refine ls F W Aa (Ah F Aa).q fun a w F W => ?_
 refine Ad (Ab (AA ?_))
 have H := AW H
 subst H
 refine Eb (.inl Aa) F W Aa (Ap F Aa) (Ap F Aa) ?_
 exact ⟨rfl, W.done⟩
theorem PF : Has Try.prog 48 := ⟨fun args w => Am Try.func48 rfl (by decide) args w⟩
noncomputable def C9 (p0 : Int × (List (Int × Int × Int × Int × Int × Int)) × (List (Int × Int))) (p1 : List (List Int)) (p3 : Int) (p4 : Int) : (Int × Int) → Option ((Int × Int) ⊕ (Int ⊕ (Int × Bool)))
  | (x2, x3) => (if x3 ≤ p4 then ((ix p0.2.2 p3).bind fun x5 => (if x5.1 = x2 then (ix p0.2.2 p3).bind fun x6 => (ix p1 x2).bind fun x7 => (ix x7 p3).bind fun x8 => some (decide (x6.2 = x8)) else some false)).bind fun x4 => (if x4 = true then some (.inr (.inr (x2, decide (x3 = p4)))) else (if x3 = p4 then some (.inr (.inr (x2, false))) else (F2 p0 p1 x2 p3).bind fun x9 => (if (!x9.2) = true then some (.inr (.inr ((-1), false))) else some (.inl (x9.1, DH (x3 + 1)))))) else some (.inr (.inl x2)))
noncomputable def Dq (p0 : Int × (List (Int × Int × Int × Int × Int × Int)) × (List (Int × Int))) (p1 : List (List Int)) (p2 : Int) (p3 : Int) (p4 : Int) : Option (Int × Bool) := D7 (AQ (C9 p0 p1 p3 p4) (p2, 0)) fun x1 => some (x1, false)
theorem HA (Y : Nat → Prop) (w0 : World) (v1 : Value) (v2 : Value) (v3 : Value) (p0 : Int × (List (Int × Int × Int × Int × Int × Int)) × (List (Int × Int))) (p1 : List (List Int)) (p2 : Int) (p3 : Int) (p4 : Int) (r : Int × Bool) (H : Dq p0 p1 p2 p3 p4 = some r) (h_v1 : Sl w0 (NX []) CS v1 p0.2.1) (h_v2 : Sl w0 (NX []) Ec v2 p0.2.2) (h_v3 : Sl w0 (NX []) (Rp.slice (Rp.int .i64)) v3 p1) :
    Calls Try.prog 38 #[.agg #[.int .i64 p0.1, v1, v2], v3, .int .i64 p2, .int .i64 p3, .int .i64 p4] w0 fun e w' => e = .returned (.tuple #[.int .i64 r.1, .bool r.2]) ∧ Below w0.heap.size w0 w' := by
 refine enter Try.func38 Aa Try.ntmps38 Aa fun a F => ?_
 have W := Stw.start Y w0
 obtain ⟨v4, h1, h_v3⟩ := h_v3.ex Dc
 unfold Dq at H
 refine Ai (Ac ?_)
 refine B9 (cs := [.int .i64 p0.1, v1, v2]) F W Aa Aa Aa fun b1 a w F W => ?_
 iterate 2 refine ls F W Aa (Ah F Aa).q fun a w F W => ?_
 refine Ad (Ab (Ai (Ac ?_)))
 refine ls F W Aa (Ae F Aa).q fun a w F W => ?_
 refine ls F W Aa (Ah F Aa).q fun a w F W => ?_
 refine Ad (Ab ?_)
 obtain ⟨o1, G1, K1, L1⟩ := IY H
 refine AH (fun a w => ∃ x1 : Int, some (Sum.inl x1) = some o1 ∧ Fr 66 [] [(10, .int .i64 0), (11, .bool false), (12, .int .i64 x1)] a ∧ Stw ⟨Y, [], w0⟩ [(b1, [.int .i64 p0.1, v1, v2])] [] w) ?_ ?_
 ·
  have H := G1
  clear G1 K1
  refine Ai (Ac ?_)
  refine ls F W Aa (Ah F Aa).q fun a w F W => ?_
  refine Ad (Ab (Aw ?_))
  refine Bv H (fun s a w => Fr 66 [] [(1, v3), (3, .int .i64 p3), (4, .int .i64 p4), (5, .pointer (some ⟨b1, 0, none⟩)), (10, .int .i64 0), (11, .bool false), (12, .int .i64 s.1), (13, .int .i64 s.2)] a ∧ Stw ⟨Y, [], w0⟩ [(b1, [.int .i64 p0.1, v1, v2])] [] w) ⟨F.re ⟨rfl, Aa, Aa, Aa, Aa, Aa, Aa, Aa, trivial⟩, W⟩ fun s o a w H L2 hR => ?_
  obtain ⟨x2, x3⟩ := s
  obtain ⟨F, W⟩ := hR
  have F : Fr 66 [] [(1, v3), (3, .int .i64 p3), (4, .int .i64 p4), (5, .pointer (some ⟨b1, 0, none⟩)), (10, .int .i64 0), (11, .bool false), (12, .int .i64 x2), (13, .int .i64 x3)] a := F
  have W : Stw ⟨Y, [], w0⟩ [(b1, [.int .i64 p0.1, v1, v2])] [] w := W
  rw [C9] at H
  refine Ai (Ai (Ac ?_))
  iterate 2 refine ls F W Aa (Ae F Aa).q fun a w F W => ?_
  refine ls F W Aa (Id F Aa Aa).q fun a w F W => ?_
  refine Ad (Ab ?_)
  refine Ay F Aa (fun hb => ?_) fun hb => ?_
  ·
   have H := AN (Bf hb) H
   rw [hb] at F
   clear hb
   refine Aq (Ab (Ai (Aw (Ai ?_))))
   obtain ⟨o3, G3, K3⟩ := Ao H
   refine AH (fun a w => ∃ x4 : Bool, some (x4) = some o3 ∧ Fr 66 [] [(1, v3), (3, .int .i64 p3), (4, .int .i64 p4), (5, .pointer (some ⟨b1, 0, none⟩)), (10, .int .i64 0), (11, .bool false), (12, .int .i64 x2), (13, .int .i64 x3), (45, .bool x4)] a ∧ Stw ⟨Y, [], w0⟩ [(b1, [.int .i64 p0.1, v1, v2])] [] w) ?_ ?_
   ·
    have H := G3
    clear G3 K3
    refine Cv W MO (by kernel_rfl) ?_
    refine qs F Aa (Ag CJ Aa Aa Aa FW F Aa 2 Aa).q fun a F => ?_
    refine qs F Aa (Al (v := v2) 0 F Aa Aa FW Aa).q fun a F => ?_
    refine qs F Aa (Ae F Aa).q fun a F => ?_
    obtain ⟨x5, h2, H⟩ := Ao H
    refine qs F Aa (AJ (r := Ec) Nd F Aa Aa (Aj h_v2) h2).q fun a F => ?_
    refine qs F Aa (Ag I1 Aa Aa Aa T3 F Aa (EE v2 + (p3).toNat * 2) Aa).q fun a F => ?_
    refine qs F Aa (Az (y := Value.int .i64 x5.1) (j := 0) (i := p3) F Aa Aa (Aj h_v2) h2 Nm.to T3 Aa).q fun a F => ?_
    refine qs F Aa (Ae F Aa).q fun a F => ?_
    refine qs F Aa (BZ F Aa Aa).q fun a F => ?_
    refine qs F Aa (Ae F Aa).q fun a F => ?_
    rcases Bool.eq_false_or_eq_true (decide (x5.1 = x2)) with hb | hb
    ·
     have H := AN (Bf hb) H
     rw [hb] at F
     clear hb
     refine D8 F (Af F Aa Aa Aa Aa) Aa (Ak Aa) (Ag CJ Aa Aa Aa FW F Aa 2 Aa).q fun a F => ?_
     refine D8 F (Af F Aa Aa Aa Aa) Aa (Ak Aa) (Al (v := v2) 0 F Aa Aa FW Aa).q fun a F => ?_
     refine D8 F (Af F Aa Aa Aa Aa) Aa (Ak Aa) (Ae F Aa).q fun a F => ?_
     obtain ⟨x6, h3, H⟩ := Ao H
     refine D8 F (Af F Aa Aa Aa Aa) Aa (Ak Aa) (AJ (r := Ec) Nd F Aa Aa (Aj h_v2) h3).q fun a F => ?_
     refine D8 F (Af F Aa Aa Aa Aa) Aa (Ak Aa) (Ag I1 Aa Aa Aa T3 F Aa (EE v2 + (p3).toNat * 2 + 1) Aa).q fun a F => ?_
     refine D8 F (Af F Aa Aa Aa Aa) Aa (Ak Aa) (Az (y := Value.int .i64 x6.2) (j := 1) (i := p3) F Aa Aa (Aj h_v2) h3 Nm.to T3 Aa).q fun a F => ?_
     iterate 2 refine D8 F (Af F Aa Aa Aa Aa) Aa (Ak Aa) (Ae F Aa).q fun a F => ?_
     obtain ⟨x7, h4, H⟩ := Ao H
     obtain ⟨v5, h5, h6⟩ := DN h1 h4
     have h7 : Ez v5 = [(v5.1)] := congrArg (fun q : List Int => ([(v5.1)] : List Value)) h6
     refine D8 F (Af F Aa Aa Aa Aa) Aa (Ak Aa) (AJ (r := (Rp.vsl (Rp.int .i64))) Lw F Aa Aa (Aj h_v3) h5).q fun a F => ?_
     refine D8 F (Af F Aa Aa Aa Aa) Aa (Ak Aa) (Az (y := (v5.1)) (j := 0) (i := x2) (enc := Ez) F Aa Aa (Aj h_v3) h5 HL FZ (by rw [h7]; rfl)).q fun a F => ?_
     refine D8 F (Af F Aa Aa Aa Aa) Aa (Ak Aa) (Ae F Aa).q fun a F => ?_
     obtain ⟨x8, h8, H⟩ := Ao H
     refine D8 F (Af F Aa Aa Aa Aa) Aa (Ak Aa) (AJ (r := (Rp.int .i64)) HV F Aa Aa (CT (Aj h_v3) h5 Db.here (congrArg (fun q : List Int => q) h6)) h8).q fun a F => ?_
     refine D8 F (Af F Aa Aa Aa Aa) Aa (Ak Aa) (Az (y := Value.int .i64 x8) (j := 0) (i := p3) F Aa Aa (CT (Aj h_v3) h5 Db.here (congrArg (fun q : List Int => q) h6)) h8 Fl.int.to T3 Aa).q fun a F => ?_
     refine D8 F (Af F Aa Aa Aa Aa) Aa (Ak Aa) (BZ F Aa Aa).q fun a F => ?_
     refine qs F Aa (An F Aa Aa Aa).q fun a F => ?_
     refine BK fun w W => ?_
     refine Ab ?_
     exact ⟨_, H, F.re ⟨rfl, Aa, Aa, Aa, Aa, Aa, Aa, Aa, Aa, trivial⟩, W⟩
    have H := AM (Bg hb) H
    rw [hb] at F
    clear hb
    iterate 14 refine HZ F (EW F Aa Aa Aa Aa Aa) Aa Aa fun a F => ?_
    refine qs F Aa (As F Aa Aa Aa).q fun a F => ?_
    refine BK fun w W => ?_
    refine Ab ?_
    exact ⟨_, H, F.re ⟨rfl, Aa, Aa, Aa, Aa, Aa, Aa, Aa, Aa, trivial⟩, W⟩
   rintro a w ⟨x4, hj, F, W⟩
   have hj := AW hj
   subst hj
   have H := K3
   clear G3 K3
   refine Ay F Aa (fun hb => ?_) fun hb => ?_
   ·
    have H := AN hb H
    rw [hb] at F
    clear hb
    refine Ai (Ac ?_)
    iterate 3 refine ls F W Aa (Ae F Aa).q fun a w F W => ?_
    refine ls F W Aa (BZ F Aa Aa).q fun a w F W => ?_
    iterate 2 refine ls F W Aa (Ah F Aa).q fun a w F W => ?_
    refine Ad (Ab (AA (AD (AF ?_))))
    iterate 2 refine AD ?_
    refine AF (AD ?_)
    have H := L2 _ H
    have H := L1 _ H
    have H := AW H
    subst H
    refine Eb (.inl Aa) F W Aa (Ap F Aa) (Ap F Aa) ?_
    exact ⟨rfl, W.done⟩
   have H := AM (by rw [hb]; decide) H
   rw [hb] at F
   clear hb
   refine Aq (Ab (Ai (Ai (Ac ?_))))
   iterate 2 refine ls F W Aa (Ae F Aa).q fun a w F W => ?_
   refine ls F W Aa (BZ F Aa Aa).q fun a w F W => ?_
   refine Ad (Ab ?_)
   refine Ay F Aa (fun hb => ?_) fun hb => ?_
   ·
    have H := AN (Bf hb) H
    rw [hb] at F
    clear hb
    refine Ai (Ac ?_)
    refine ls F W Aa (Ae F Aa).q fun a w F W => ?_
    iterate 2 refine ls F W Aa (Ah F Aa).q fun a w F W => ?_
    refine Ad (Ab (AA (AD (AF ?_))))
    iterate 2 refine AD ?_
    refine AF (AD ?_)
    have H := L2 _ H
    have H := L1 _ H
    have H := AW H
    subst H
    refine Eb (.inl Aa) F W Aa (Ap F Aa) (Ap F Aa) ?_
    exact ⟨rfl, W.done⟩
   have H := AM (Bg hb) H
   rw [hb] at F
   clear hb
   refine Aq (Ab (Ai (Ac ?_)))
   refine ls F W Aa (Al (v := Value.agg #[.int .i64 p0.1, v1, v2]) 0 F Aa Aa G0 Aa).q fun a w F W => ?_
   iterate 3 refine ls F W Aa (Ae F Aa).q fun a w F W => ?_
   obtain ⟨x9, h9, H⟩ := Ao H
   refine ls F W Aa (BI (v := Value.tuple #[.int .i64 x9.1, .bool x9.2]) F PF Aa (fun w W => Ky any w (v1) (v2) (v3) p0 p1 x2 p3 _ h9 (((Aj h_v1) : CZ _ _ _ _ _ _) w W).nx (((Aj h_v2) : CZ _ _ _ _ _ _) w W).nx (((Bx Dc h1 (Aj h_v3)) : CZ _ _ _ _ _ _) w W).nx)) fun a w F W => ?_
   refine ls F W Aa (Ae F Aa).q fun a w F W => ?_
   refine ls F W Aa (AZ (v := Value.int .i64 x9.1) F Aa Aa).q fun a w F W => ?_
   refine ls F W Aa (AZ (v := Value.bool x9.2) F Aa Aa).q fun a w F W => ?_
   iterate 2 refine ls F W Aa (Ah F Aa).q fun a w F W => ?_
   refine Ad (Ab (Ai (Ai (Ac ?_))))
   refine ls F W Aa (Ae F Aa).q fun a w F W => ?_
   refine ls F W Aa (EJ F Aa).q fun a w F W => ?_
   refine Ad (Ab ?_)
   refine Ay F Aa (fun hb => ?_) fun hb => ?_
   ·
    have H := AN hb H
    rw [hb] at F
    clear hb
    refine Ai (Ac ?_)
    iterate 2 refine ls F W Aa (Ah F Aa).q fun a w F W => ?_
    refine Ad (Ab (AA (AD (AF ?_))))
    iterate 2 refine AD ?_
    refine AF (AD ?_)
    have H := L2 _ H
    have H := L1 _ H
    have H := AW H
    subst H
    refine Eb (.inl Aa) F W Aa (Ap F Aa) (Ap F Aa) ?_
    exact ⟨rfl, W.done⟩
   have H := AM (by rw [hb]; decide) H
   rw [hb] at F
   clear hb
   refine Aq (Ab (Ac ?_))
   refine ls F W Aa (Ae F Aa).q fun a w F W => ?_
   refine ls F W Aa (Ah F Aa).q fun a w F W => ?_
   refine Ad (AK (Ab (Ac ?_)))
   refine ls F W Aa (Ae F Aa).q fun a w F W => ?_
   refine ls F W Aa (Cq F Aa Aa Aa).q fun a w F W => ?_
   refine ls F W Aa (Ah F Aa).q fun a w F W => ?_
   refine Ad (Ab ?_)
   exact ⟨_, H, F.re ⟨rfl, Aa, Aa, Aa, Aa, Aa, Aa, Aa, trivial⟩, W⟩
  have H := AM (Bg hb) H
  rw [hb] at F
  clear hb
  refine Bk ?_
  iterate 2 refine BJ ?_
  refine Bl (Ab ?_)
  have H := L2 _ H
  exact ⟨_, H, F.re ⟨rfl, Aa, Aa, trivial⟩, W⟩
 rintro a w ⟨x1, hj, F, W⟩
 have H := K1 _ hj
 clear hj G1 K1 L1
 refine Ai (Ac ?_)
 refine ls F W Aa (Ae F Aa).q fun a w F W => ?_
 iterate 2 refine ls F W Aa (Ah F Aa).q fun a w F W => ?_
 refine Ad (Ab (AA ?_))
 have H := AW H
 subst H
 refine Eb (.inl Aa) F W Aa (Ap F Aa) (Ap F Aa) ?_
 exact ⟨rfl, W.done⟩
end Go.Proofs.Ytflaelbmglmmcaa
