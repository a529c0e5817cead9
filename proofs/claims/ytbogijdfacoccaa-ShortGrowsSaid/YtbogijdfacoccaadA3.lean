/- The functions of layer 19, FC. Conditions: none. -/
import Derived.Test.YtbogijdfacoccaadA2
namespace Go.Proofs.Ytbogijdfacoccaa
open Go Go.RowKit
set_option linter.unusedVariables false
set_option linter.unusedSimpArgs false
set_option maxRecDepth 20000
theorem H9 : Has Try.prog 9 := ⟨fun args w => Aj Try.func9 rfl (by decide) args w⟩
noncomputable def DC (p0 : Int × (List (Int × Int × Int × Int × Int × Int)) × (List (Int × Int))) (p1 : Int) (p2 : Int) : (Int × Int) → Option ((Int × Int) ⊕ Int)
  | (x2, x3) => (if x3 < (p0.2.1.length : Int) then ((ix p0.2.1 x3).bind fun x5 => (if (decide (x5.1 = p1) && decide (x5.2.1 = p2)) = true then some (BM (x2 + 1)) else some x2).bind fun x6 => (if (decide (x5.2.2.1 = p1) && decide (x5.2.2.2.1 = p2)) = true then some (BM (x6 + 1)) else some x6)).bind fun x4 => some (.inl (x4, BM (x3 + 1))) else some (.inr x2))
noncomputable def DH (p0 : Int × (List (Int × Int × Int × Int × Int × Int)) × (List (Int × Int))) (p1 : Int) (p2 : Int) : (Int × Int) → Option ((Int × Int) ⊕ Int)
  | (x8, x9) => (if x9 < (p0.2.2.length : Int) then (((ix p0.2.2 x9).bind fun x12 => (if x12.1 = p1 then (ix p0.2.2 x9).bind fun x13 => some (decide (x13.2 = p2)) else some false)).bind fun x11 => (if x11 = true then some (BM (x8 + 1)) else some x8)).bind fun x10 => some (.inl (x10, BM (x9 + 1))) else some (.inr x8))
noncomputable def E3 (p0 : Int × (List (Int × Int × Int × Int × Int × Int)) × (List (Int × Int))) (p1 : Int) (p2 : Int) : Option Bool := (AN (DC p0 p1 p2) (0, 0)).bind fun x1 => (AN (DH p0 p1 p2) (x1, 0)).bind fun x7 => some (decide (0 ≤ p1) && (decide (p1 < p0.1) && (decide (0 ≤ p2) && (decide (p2 ≤ 7) && decide (x7 = 1)))))
theorem GF (Y : Nat → Prop) (w0 : World) (v1 : Value) (v2 : Value) (p0 : Int × (List (Int × Int × Int × Int × Int × Int)) × (List (Int × Int))) (p1 : Int) (p2 : Int) (r : Bool) (H : E3 p0 p1 p2 = some r) (h_v1 : Sl w0 (NX []) Fd v1 p0.2.1) (h_v2 : Sl w0 (NX []) Ft v2 p0.2.2) :
    Calls Try.prog 60 #[.agg #[.int .i64 p0.1, v1, v2], .int .i64 p1, .int .i64 p2] w0 fun e w' => e = .returned (.bool r) ∧ Below w0.heap.size w0 w' := by
 refine enter Try.func60 Aa Try.ntmps60 Aa fun a F => ?_
 have W := Stw.start Y w0
 unfold E3 at H
 refine Ah (Ab ?_)
 refine EJ (cs := [.int .i64 p0.1, v1, v2]) F W Aa Aa Aa fun b1 a w F W => ?_
 refine ls F W Aa (Af F Aa).q fun a w F W => ?_
 refine Ae (Ac (Ah (Ab ?_)))
 refine ls F W Aa (Af F Aa).q fun a w F W => ?_
 refine Ae (Ac ?_)
 obtain ⟨o1, G1, K1⟩ := Al H
 refine AL (fun a w => ∃ x1 : Int, some (x1) = some o1 ∧ Fr 94 [] [(1, .int .i64 p1), (2, .int .i64 p2), (3, .pointer (some ⟨b1, 0, none⟩)), (6, .bool false), (7, .int .i64 x1)] a ∧ Stw ⟨Y, [], w0⟩ [(b1, [.int .i64 p0.1, v1, v2])] [] w) ?_ ?_
 ·
  have H := G1
  clear G1 K1
  refine Ah (Ab ?_)
  refine ls F W Aa (Af F Aa).q fun a w F W => ?_
  refine Ae (Ac (Ay ?_))
  refine Bf H (fun s a w => Fr 94 [] [(1, .int .i64 p1), (2, .int .i64 p2), (3, .pointer (some ⟨b1, 0, none⟩)), (6, .bool false), (7, .int .i64 s.1), (8, .int .i64 s.2)] a ∧ Stw ⟨Y, [], w0⟩ [(b1, [.int .i64 p0.1, v1, v2])] [] w) ⟨F.re ⟨rfl, Aa, Aa, Aa, Aa, Aa, trivial⟩, W⟩ fun s o a w H L2 hR => ?_
  obtain ⟨x2, x3⟩ := s
  obtain ⟨F, W⟩ := hR
  have F : Fr 94 [] [(1, .int .i64 p1), (2, .int .i64 p2), (3, .pointer (some ⟨b1, 0, none⟩)), (6, .bool false), (7, .int .i64 x2), (8, .int .i64 x3)] a := F
  have W : Stw ⟨Y, [], w0⟩ [(b1, [.int .i64 p0.1, v1, v2])] [] w := W
  rw [DC] at H
  refine Ah (Ah (Ab ?_))
  refine ls F W Aa (Ad F Aa).q fun a w F W => ?_
  refine ls F W Aa (Ai CD Aa Aa Aa H6 F Aa 1 Aa).q fun a w F W => ?_
  refine ls F W Aa (Ao (v := v1) 0 F Aa Aa H6 Aa).q fun a w F W => ?_
  refine ls F W Aa (Bd (r := Fd) (l := p0.2.1) Is Aa F Aa (An h_v1)).q fun a w F W => ?_
  refine ls F W Aa (Bl F Aa Aa).q fun a w F W => ?_
  refine Ae (Ac ?_)
  refine AC F Aa (fun hb => ?_) fun hb => ?_
  ·
   have H := AS (Bu hb) H
   rw [hb] at F
   clear hb
   refine Aw (Ac ?_)
   obtain ⟨o3, G3, K3⟩ := Al H
   refine AL (fun a w => ∃ x4 : Int, some (x4) = some o3 ∧ Fr 94 [] [(1, .int .i64 p1), (2, .int .i64 p2), (3, .pointer (some ⟨b1, 0, none⟩)), (6, .bool false), (7, .int .i64 x4), (8, .int .i64 x3)] a ∧ Stw ⟨Y, [], w0⟩ [(b1, [.int .i64 p0.1, v1, v2])] [] w) ?_ ?_
   ·
    have H := G3
    clear G3 K3
    refine Ay (Ah (Ab ?_))
    refine ls F W Aa (Ai CD Aa Aa Aa H6 F Aa 1 Aa).q fun a w F W => ?_
    refine ls F W Aa (Ao (v := v1) 0 F Aa Aa H6 Aa).q fun a w F W => ?_
    refine ls F W Aa (Ad F Aa).q fun a w F W => ?_
    obtain ⟨x5, h1, H⟩ := Al H
    refine ls F W Aa (AG (r := Fd) Pe F Aa Aa (An h_v1) h1).q fun a w F W => ?_
    refine ls F W Aa (Av (y := Value.agg #[.int .i64 x5.1, .int .i64 x5.2.1, .int .i64 x5.2.2.1, .int .i64 x5.2.2.2.1, .int .i64 x5.2.2.2.2.1, .int .i64 x5.2.2.2.2.2]) (j := 0) (i := x3) F Aa Aa (An h_v1) h1 Pd.to On Aa).q fun a w F W => ?_
    refine CM (cs := [.int .i64 0, .int .i64 0, .int .i64 0, .int .i64 0, .int .i64 0, .int .i64 0]) F W Aa Pg Aa fun b2 a w F W => ?_
    refine Dv (vs := [.int .i64 x5.1, .int .i64 x5.2.1, .int .i64 x5.2.2.1, .int .i64 x5.2.2.2.1, .int .i64 x5.2.2.2.2.1, .int .i64 x5.2.2.2.2.2]) (M' := [(b2, [.int .i64 x5.1, .int .i64 x5.2.1, .int .i64 x5.2.2.1, .int .i64 x5.2.2.2.1, .int .i64 x5.2.2.2.2.1, .int .i64 x5.2.2.2.2.2]), (b1, [.int .i64 p0.1, v1, v2])]) 0 F W Aa Aa Aa On Aa Aa Aa Aa Aa fun w W => ?_
    refine Ae (Ac ?_)
    obtain ⟨o4, G4, K4⟩ := Al H
    refine AL (fun a w => ∃ x6 : Int, some (x6) = some o4 ∧ Fr 94 [] [(1, .int .i64 p1), (2, .int .i64 p2), (3, .pointer (some ⟨b1, 0, none⟩)), (6, .bool false), (7, .int .i64 x6), (8, .int .i64 x3), (9, .pointer (some ⟨b2, 0, none⟩))] a ∧ Stw ⟨Y, [], w0⟩ [(b2, [.int .i64 x5.1, .int .i64 x5.2.1, .int .i64 x5.2.2.1, .int .i64 x5.2.2.2.1, .int .i64 x5.2.2.2.2.1, .int .i64 x5.2.2.2.2.2]), (b1, [.int .i64 p0.1, v1, v2])] [] w) ?_ ?_
    ·
     have H := G4
     clear G4 K4
     refine AL (fun a w => Fr 94 [] [(1, .int .i64 p1), (2, .int .i64 p2), (3, .pointer (some ⟨b1, 0, none⟩)), (6, .bool false), (7, .int .i64 x2), (8, .int .i64 x3), (9, .pointer (some ⟨b2, 0, none⟩)), (32, .bool (decide (x5.1 = p1) && decide (x5.2.1 = p2)))] a ∧ Stw ⟨Y, [], w0⟩ [(b2, [.int .i64 x5.1, .int .i64 x5.2.1, .int .i64 x5.2.2.1, .int .i64 x5.2.2.2.1, .int .i64 x5.2.2.2.2.1, .int .i64 x5.2.2.2.2.2]), (b1, [.int .i64 p0.1, v1, v2])] [] w) ?_ ?_
     ·
      refine Ab ?_
      refine ls F W Aa (Ai DA Aa Aa Aa T3 F Aa 0 Aa).q fun a w F W => ?_
      refine ls F W Aa (Ao (v := Value.int .i64 x5.1) 0 F Aa Aa T3 Aa).q fun a w F W => ?_
      refine ls F W Aa (Ad F Aa).q fun a w F W => ?_
      refine ls F W Aa (C6 F Aa Aa).q fun a w F W => ?_
      refine ls F W Aa (Ad F Aa).q fun a w F W => ?_
      rcases Bool.eq_false_or_eq_true (decide (x5.1 = p1)) with hb0 | hb0
      ·
       rw [hb0] at F
       refine AA F W (Ag F Aa Aa Aa Aa) Aa (Ak Aa) (Ai DA Aa Aa Aa T3 F Aa 1 Aa).q fun a w F W => ?_
       refine AA F W (Ag F Aa Aa Aa Aa) Aa (Ak Aa) (Ao (v := Value.int .i64 x5.2.1) 0 F Aa Aa T3 Aa).q fun a w F W => ?_
       refine AA F W (Ag F Aa Aa Aa Aa) Aa (Ak Aa) (Ad F Aa).q fun a w F W => ?_
       refine AA F W (Ag F Aa Aa Aa Aa) Aa (Ak Aa) (C6 F Aa Aa).q fun a w F W => ?_
       refine ls F W Aa (Am F Aa Aa Aa).q fun a w F W => ?_
       refine Ae (Ac ?_)
       exact ⟨F.re ⟨rfl, Aa, Aa, Aa, Aa, Aa, Aa, (by show some (Value.bool (decide (x5.2.1 = p2))) = some (Value.bool (decide (x5.1 = p1) && decide (x5.2.1 = p2))); try rw [hb0]; all_goals simp only [Bool.not_true, Bool.not_false, Bool.true_and, Bool.false_and, Bool.true_or, Bool.false_or, Bool.and_true, Bool.or_false, cond_true, cond_false]), trivial⟩, W⟩
      rw [hb0] at F
      iterate 4 refine Cf F Aa Aa Aa Aa Aa Aa Aa fun a F => ?_
      refine ls F W Aa (As F Aa Aa Aa).q fun a w F W => ?_
      refine Ae (Ac ?_)
      exact ⟨F.re ⟨rfl, Aa, Aa, Aa, Aa, Aa, Aa, (by show some (Value.bool false) = some (Value.bool (decide (x5.1 = p1) && decide (x5.2.1 = p2))); try rw [hb0]; all_goals simp only [Bool.not_true, Bool.not_false, Bool.true_and, Bool.false_and, Bool.true_or, Bool.false_or, Bool.and_true, Bool.or_false, cond_true, cond_false]), trivial⟩, W⟩
     rintro a w ⟨F, W⟩
     refine AC F Aa (fun hb => ?_) fun hb => ?_
     ·
      have H := AS hb H
      rw [hb] at F
      clear hb
      refine Ab ?_
      refine ls F W Aa (Ad F Aa).q fun a w F W => ?_
      refine ls F W Aa (BT F Aa Aa Aa).q fun a w F W => ?_
      refine ls F W Aa (Af F Aa).q fun a w F W => ?_
      refine Ae (Ac ?_)
      have W := W.frontM (i := 1) Aa Aa
      have W := W.frontM (i := 1) Aa Aa
      exact ⟨_, H, F.re ⟨rfl, Aa, Aa, Aa, Aa, Aa, Aa, trivial⟩, W⟩
     have H := AU (by rw [hb]; decide) H
     rw [hb] at F
     clear hb
     refine Aw (Ac ?_)
     have W := W.frontM (i := 1) Aa Aa
     have W := W.frontM (i := 1) Aa Aa
     exact ⟨_, H, F.re ⟨rfl, Aa, Aa, Aa, Aa, Aa, Aa, trivial⟩, W⟩
    rintro a w ⟨x6, hj, F, W⟩
    have hj := AZ hj
    subst hj
    have H := K4
    clear G4 K4
    refine AL (fun a w => Fr 94 [] [(1, .int .i64 p1), (2, .int .i64 p2), (3, .pointer (some ⟨b1, 0, none⟩)), (6, .bool false), (7, .int .i64 x6), (8, .int .i64 x3), (44, .bool (decide (x5.2.2.1 = p1) && decide (x5.2.2.2.1 = p2)))] a ∧ Stw ⟨Y, [], w0⟩ [(b2, [.int .i64 x5.1, .int .i64 x5.2.1, .int .i64 x5.2.2.1, .int .i64 x5.2.2.2.1, .int .i64 x5.2.2.2.2.1, .int .i64 x5.2.2.2.2.2]), (b1, [.int .i64 p0.1, v1, v2])] [] w) ?_ ?_
    ·
     refine Ab ?_
     refine ls F W Aa (Ai DA Aa Aa Aa T3 F Aa 2 Aa).q fun a w F W => ?_
     refine ls F W Aa (Ao (v := Value.int .i64 x5.2.2.1) 0 F Aa Aa T3 Aa).q fun a w F W => ?_
     refine ls F W Aa (Ad F Aa).q fun a w F W => ?_
     refine ls F W Aa (C6 F Aa Aa).q fun a w F W => ?_
     refine ls F W Aa (Ad F Aa).q fun a w F W => ?_
     rcases Bool.eq_false_or_eq_true (decide (x5.2.2.1 = p1)) with hb0 | hb0
     ·
      rw [hb0] at F
      refine AA F W (Ag F Aa Aa Aa Aa) Aa (Ak Aa) (Ai DA Aa Aa Aa T3 F Aa 3 Aa).q fun a w F W => ?_
      refine AA F W (Ag F Aa Aa Aa Aa) Aa (Ak Aa) (Ao (v := Value.int .i64 x5.2.2.2.1) 0 F Aa Aa T3 Aa).q fun a w F W => ?_
      refine AA F W (Ag F Aa Aa Aa Aa) Aa (Ak Aa) (Ad F Aa).q fun a w F W => ?_
      refine AA F W (Ag F Aa Aa Aa Aa) Aa (Ak Aa) (C6 F Aa Aa).q fun a w F W => ?_
      refine ls F W Aa (Am F Aa Aa Aa).q fun a w F W => ?_
      refine Ae (Ac ?_)
      exact ⟨F.re ⟨rfl, Aa, Aa, Aa, Aa, Aa, (by show some (Value.bool (decide (x5.2.2.2.1 = p2))) = some (Value.bool (decide (x5.2.2.1 = p1) && decide (x5.2.2.2.1 = p2))); try rw [hb0]; all_goals simp only [Bool.not_true, Bool.not_false, Bool.true_and, Bool.false_and, Bool.true_or, Bool.false_or, Bool.and_true, Bool.or_false, cond_true, cond_false]), trivial⟩, W⟩
     rw [hb0] at F
     iterate 4 refine Cf F Aa Aa Aa Aa Aa Aa Aa fun a F => ?_
     refine ls F W Aa (As F Aa Aa Aa).q fun a w F W => ?_
     refine Ae (Ac ?_)
     exact ⟨F.re ⟨rfl, Aa, Aa, Aa, Aa, Aa, (by show some (Value.bool false) = some (Value.bool (decide (x5.2.2.1 = p1) && decide (x5.2.2.2.1 = p2))); try rw [hb0]; all_goals simp only [Bool.not_true, Bool.not_false, Bool.true_and, Bool.false_and, Bool.true_or, Bool.false_or, Bool.and_true, Bool.or_false, cond_true, cond_false]), trivial⟩, W⟩
    rintro a w ⟨F, W⟩
    refine AC F Aa (fun hb => ?_) fun hb => ?_
    ·
     have H := AS hb H
     rw [hb] at F
     clear hb
     refine Ab ?_
     refine ls F W Aa (Ad F Aa).q fun a w F W => ?_
     refine ls F W Aa (BT F Aa Aa Aa).q fun a w F W => ?_
     refine ls F W Aa (Af F Aa).q fun a w F W => ?_
     refine Ae (AX (Ac ?_))
     have W := W.frontM (i := 1) Aa Aa
     have W := W.sub (M' := [(b1, [.int .i64 p0.1, v1, v2])]) (Z' := []) (List.Sublist.cons_cons _ (List.nil_sublist _)) (List.Sublist.refl _)
     exact ⟨_, H, F.re ⟨rfl, Aa, Aa, Aa, Aa, Aa, trivial⟩, W⟩
    have H := AU (by rw [hb]; decide) H
    rw [hb] at F
    clear hb
    refine Aw (AX (Ac ?_))
    have W := W.frontM (i := 1) Aa Aa
    have W := W.sub (M' := [(b1, [.int .i64 p0.1, v1, v2])]) (Z' := []) (List.Sublist.cons_cons _ (List.nil_sublist _)) (List.Sublist.refl _)
    exact ⟨_, H, F.re ⟨rfl, Aa, Aa, Aa, Aa, Aa, trivial⟩, W⟩
   rintro a w ⟨x4, hj, F, W⟩
   have hj := AZ hj
   subst hj
   have H := K3
   clear G3 K3
   refine Ab ?_
   refine ls F W Aa (Ad F Aa).q fun a w F W => ?_
   refine ls F W Aa (BT F Aa Aa Aa).q fun a w F W => ?_
   refine ls F W Aa (Af F Aa).q fun a w F W => ?_
   refine Ae (Ac ?_)
   exact ⟨_, H, F.re ⟨rfl, Aa, Aa, Aa, Aa, Aa, trivial⟩, W⟩
  have H := AU (Bv hb) H
  rw [hb] at F
  clear hb
  refine Bn ?_
  iterate 2 refine BR ?_
  refine Bm (Ac ?_)
  have H := L2 _ H
  exact ⟨_, H, F.re ⟨rfl, Aa, Aa, Aa, Aa, trivial⟩, W⟩
 rintro a w ⟨x1, hj, F, W⟩
 have hj := AZ hj
 subst hj
 have H := K1
 clear G1 K1
 obtain ⟨o5, G5, K5⟩ := Al H
 refine AL (fun a w => ∃ x7 : Int, some (x7) = some o5 ∧ Fr 94 [] [(1, .int .i64 p1), (2, .int .i64 p2), (3, .pointer (some ⟨b1, 0, none⟩)), (6, .bool false), (7, .int .i64 x7)] a ∧ Stw ⟨Y, [], w0⟩ [(b1, [.int .i64 p0.1, v1, v2])] [] w) ?_ ?_
 ·
  have H := G5
  clear G5 K5
  refine Ah (Ab ?_)
  refine ls F W Aa (Af F Aa).q fun a w F W => ?_
  refine Ae (Ac (Ay ?_))
  refine Bf H (fun s a w => Fr 94 [] [(1, .int .i64 p1), (2, .int .i64 p2), (3, .pointer (some ⟨b1, 0, none⟩)), (6, .bool false), (7, .int .i64 s.1), (10, .int .i64 s.2)] a ∧ Stw ⟨Y, [], w0⟩ [(b1, [.int .i64 p0.1, v1, v2])] [] w) ⟨F.re ⟨rfl, Aa, Aa, Aa, Aa, Aa, trivial⟩, W⟩ fun s o a w H L6 hR => ?_
  obtain ⟨x8, x9⟩ := s
  obtain ⟨F, W⟩ := hR
  have F : Fr 94 [] [(1, .int .i64 p1), (2, .int .i64 p2), (3, .pointer (some ⟨b1, 0, none⟩)), (6, .bool false), (7, .int .i64 x8), (10, .int .i64 x9)] a := F
  have W : Stw ⟨Y, [], w0⟩ [(b1, [.int .i64 p0.1, v1, v2])] [] w := W
  rw [DH] at H
  refine Ah (Ah (Ab ?_))
  refine ls F W Aa (Ad F Aa).q fun a w F W => ?_
  refine ls F W Aa (Ai CD Aa Aa Aa Hl F Aa 2 Aa).q fun a w F W => ?_
  refine ls F W Aa (Ao (v := v2) 0 F Aa Aa Hl Aa).q fun a w F W => ?_
  refine ls F W Aa (Bd (r := Ft) (l := p0.2.2) J3 Aa F Aa (An h_v2)).q fun a w F W => ?_
  refine ls F W Aa (Bl F Aa Aa).q fun a w F W => ?_
  refine Ae (Ac ?_)
  refine AC F Aa (fun hb => ?_) fun hb => ?_
  ·
   have H := AS (Bu hb) H
   rw [hb] at F
   clear hb
   refine Aw (Ac ?_)
   obtain ⟨o7, G7, K7⟩ := Al H
   refine AL (fun a w => ∃ x10 : Int, some (x10) = some o7 ∧ Fr 94 [] [(1, .int .i64 p1), (2, .int .i64 p2), (3, .pointer (some ⟨b1, 0, none⟩)), (6, .bool false), (7, .int .i64 x10), (10, .int .i64 x9)] a ∧ Stw ⟨Y, [], w0⟩ [(b1, [.int .i64 p0.1, v1, v2])] [] w) ?_ ?_
   ·
    have H := G7
    clear G7 K7
    refine Ay ?_
    obtain ⟨o8, G8, K8⟩ := Al H
    refine AL (fun a w => ∃ x11 : Bool, some (x11) = some o8 ∧ Fr 94 [] [(1, .int .i64 p1), (2, .int .i64 p2), (3, .pointer (some ⟨b1, 0, none⟩)), (6, .bool false), (7, .int .i64 x8), (10, .int .i64 x9), (71, .bool x11)] a ∧ Stw ⟨Y, [], w0⟩ [(b1, [.int .i64 p0.1, v1, v2])] [] w) ?_ ?_
    ·
     have H := G8
     clear G8 K8
     refine Ab ?_
     refine ls F W Aa (Ai CD Aa Aa Aa Hl F Aa 2 Aa).q fun a w F W => ?_
     refine ls F W Aa (Ao (v := v2) 0 F Aa Aa Hl Aa).q fun a w F W => ?_
     refine ls F W Aa (Ad F Aa).q fun a w F W => ?_
     obtain ⟨x12, h2, H⟩ := Al H
     refine ls F W Aa (AG (r := Ft) OE F Aa Aa (An h_v2) h2).q fun a w F W => ?_
     refine ls F W Aa (Ai JU Aa Aa Aa T3 F Aa (EV v2 + (x9).toNat * 2) Aa).q fun a w F W => ?_
     refine ls F W Aa (Av (y := Value.int .i64 x12.1) (j := 0) (i := x9) F Aa Aa (An h_v2) h2 OD.to T3 Aa).q fun a w F W => ?_
     refine ls F W Aa (Ad F Aa).q fun a w F W => ?_
     refine ls F W Aa (C6 F Aa Aa).q fun a w F W => ?_
     refine ls F W Aa (Ad F Aa).q fun a w F W => ?_
     rcases Bool.eq_false_or_eq_true (decide (x12.1 = p1)) with hb | hb
     ·
      have H := AS (Bu hb) H
      rw [hb] at F
      clear hb
      refine AA F W (Ag F Aa Aa Aa Aa) Aa (Ak Aa) (Ai CD Aa Aa Aa Hl F Aa 2 Aa).q fun a w F W => ?_
      refine AA F W (Ag F Aa Aa Aa Aa) Aa (Ak Aa) (Ao (v := v2) 0 F Aa Aa Hl Aa).q fun a w F W => ?_
      refine AA F W (Ag F Aa Aa Aa Aa) Aa (Ak Aa) (Ad F Aa).q fun a w F W => ?_
      obtain ⟨x13, h3, H⟩ := Al H
      refine AA F W (Ag F Aa Aa Aa Aa) Aa (Ak Aa) (AG (r := Ft) OE F Aa Aa (An h_v2) h3).q fun a w F W => ?_
      refine AA F W (Ag F Aa Aa Aa Aa) Aa (Ak Aa) (Ai JU Aa Aa Aa T3 F Aa (EV v2 + (x9).toNat * 2 + 1) Aa).q fun a w F W => ?_
      refine AA F W (Ag F Aa Aa Aa Aa) Aa (Ak Aa) (Av (y := Value.int .i64 x13.2) (j := 1) (i := x9) F Aa Aa (An h_v2) h3 OD.to T3 Aa).q fun a w F W => ?_
      refine AA F W (Ag F Aa Aa Aa Aa) Aa (Ak Aa) (Ad F Aa).q fun a w F W => ?_
      refine AA F W (Ag F Aa Aa Aa Aa) Aa (Ak Aa) (C6 F Aa Aa).q fun a w F W => ?_
      refine ls F W Aa (Am F Aa Aa Aa).q fun a w F W => ?_
      refine Ae (Ac ?_)
      exact ⟨_, H, F.re ⟨rfl, Aa, Aa, Aa, Aa, Aa, Aa, trivial⟩, W⟩
     have H := AU (Bv hb) H
     rw [hb] at F
     clear hb
     iterate 8 refine Cf F Aa Aa Aa Aa Aa Aa Aa fun a F => ?_
     refine ls F W Aa (As F Aa Aa Aa).q fun a w F W => ?_
     refine Ae (Ac ?_)
     exact ⟨_, H, F.re ⟨rfl, Aa, Aa, Aa, Aa, Aa, Aa, trivial⟩, W⟩
    rintro a w ⟨x11, hj, F, W⟩
    have hj := AZ hj
    subst hj
    have H := K8
    clear G8 K8
    refine AC F Aa (fun hb => ?_) fun hb => ?_
    ·
     have H := AS hb H
     rw [hb] at F
     clear hb
     refine Ab ?_
     refine ls F W Aa (Ad F Aa).q fun a w F W => ?_
     refine ls F W Aa (BT F Aa Aa Aa).q fun a w F W => ?_
     refine ls F W Aa (Af F Aa).q fun a w F W => ?_
     refine Ae (AX (Ac ?_))
     exact ⟨_, H, F.re ⟨rfl, Aa, Aa, Aa, Aa, Aa, trivial⟩, W⟩
    have H := AU (by rw [hb]; decide) H
    rw [hb] at F
    clear hb
    refine Aw (AX (Ac ?_))
    exact ⟨_, H, F.re ⟨rfl, Aa, Aa, Aa, Aa, Aa, trivial⟩, W⟩
   rintro a w ⟨x10, hj, F, W⟩
   have hj := AZ hj
   subst hj
   have H := K7
   clear G7 K7
   refine Ab ?_
   refine ls F W Aa (Ad F Aa).q fun a w F W => ?_
   refine ls F W Aa (BT F Aa Aa Aa).q fun a w F W => ?_
   refine ls F W Aa (Af F Aa).q fun a w F W => ?_
   refine Ae (Ac ?_)
   exact ⟨_, H, F.re ⟨rfl, Aa, Aa, Aa, Aa, Aa, trivial⟩, W⟩
  have H := AU (Bv hb) H
  rw [hb] at F
  clear hb
  refine Bn ?_
  iterate 2 refine BR ?_
  refine Bm (Ac ?_)
  have H := L6 _ H
  exact ⟨_, H, F.re ⟨rfl, Aa, Aa, Aa, Aa, trivial⟩, W⟩
 rintro a w ⟨x7, hj, F, W⟩
 have hj := AZ hj
 subst hj
 have H := K5
 clear G5 K5
 refine AL (fun a w => Fr 94 [] [(6, .bool (decide (0 ≤ p1) && (decide (p1 < p0.1) && (decide (0 ≤ p2) && (decide (p2 ≤ 7) && decide (x7 = 1))))))] a ∧ Stw ⟨Y, [], w0⟩ [(b1, [.int .i64 p0.1, v1, v2])] [] w) ?_ ?_
 ·
  refine Ab ?_
  refine ls F W Aa (Ad F Aa).q fun a w F W => ?_
  refine ls F W Aa (E7 F Aa Aa).q fun a w F W => ?_
  refine ls F W Aa (Ad F Aa).q fun a w F W => ?_
  rcases Bool.eq_false_or_eq_true (decide (0 ≤ p1)) with hb0 | hb0
  ·
   rw [hb0] at F
   refine AA F W (Ag F Aa Aa Aa Aa) Aa (Ak Aa) (Ad F Aa).q fun a w F W => ?_
   refine AA F W (Ag F Aa Aa Aa Aa) Aa (Ak Aa) (Ai CD Aa Aa Aa T3 F Aa 0 Aa).q fun a w F W => ?_
   refine AA F W (Ag F Aa Aa Aa Aa) Aa (Ak Aa) (Ao (v := Value.int .i64 p0.1) 0 F Aa Aa T3 Aa).q fun a w F W => ?_
   refine AA F W (Ag F Aa Aa Aa Aa) Aa (Ak Aa) (Bl F Aa Aa).q fun a w F W => ?_
   refine ls F W Aa (Am F Aa Aa Aa).q fun a w F W => ?_
   refine ls F W Aa (Ad F Aa).q fun a w F W => ?_
   rcases Bool.eq_false_or_eq_true (decide (p1 < p0.1)) with hb1 | hb1
   ·
    rw [hb1] at F
    refine AA F W (Ag F Aa Aa Aa Aa) Aa (Ak Aa) (Ad F Aa).q fun a w F W => ?_
    refine AA F W (Ag F Aa Aa Aa Aa) Aa (Ak Aa) (E7 F Aa Aa).q fun a w F W => ?_
    refine ls F W Aa (Am F Aa Aa Aa).q fun a w F W => ?_
    refine ls F W Aa (Ad F Aa).q fun a w F W => ?_
    rcases Bool.eq_false_or_eq_true (decide (0 ≤ p2)) with hb2 | hb2
    ·
     rw [hb2] at F
     refine AA F W (Ag F Aa Aa Aa Aa) Aa (Ak Aa) (Ad F Aa).q fun a w F W => ?_
     refine AA F W (Ag F Aa Aa Aa Aa) Aa (Ak Aa) (IL F Aa Aa).q fun a w F W => ?_
     refine ls F W Aa (Am F Aa Aa Aa).q fun a w F W => ?_
     refine ls F W Aa (Ad F Aa).q fun a w F W => ?_
     rcases Bool.eq_false_or_eq_true (decide (p2 ≤ 7)) with hb3 | hb3
     ·
      rw [hb3] at F
      refine AA F W (Ag F Aa Aa Aa Aa) Aa (Ak Aa) (Ad F Aa).q fun a w F W => ?_
      refine AA F W (Ag F Aa Aa Aa Aa) Aa (Ak Aa) (C6 F Aa Aa).q fun a w F W => ?_
      refine ls F W Aa (Am F Aa Aa Aa).q fun a w F W => ?_
      refine ls F W Aa (Af F Aa).q fun a w F W => ?_
      refine Ae (Ac ?_)
      exact ⟨F.re ⟨(by show some (Value.bool (decide (x7 = 1))) = some (Value.bool (decide (0 ≤ p1) && (decide (p1 < p0.1) && (decide (0 ≤ p2) && (decide (p2 ≤ 7) && decide (x7 = 1)))))); try rw [hb1]; try rw [hb0]; try rw [hb2]; try rw [hb3]; all_goals simp only [Bool.not_true, Bool.not_false, Bool.true_and, Bool.false_and, Bool.true_or, Bool.false_or, Bool.and_true, Bool.or_false, cond_true, cond_false]), trivial⟩, W⟩
     rw [hb3] at F
     iterate 2 refine Cf F Aa Aa Aa Aa Aa Aa Aa fun a F => ?_
     refine ls F W Aa (As F Aa Aa Aa).q fun a w F W => ?_
     refine ls F W Aa (Af F Aa).q fun a w F W => ?_
     refine Ae (Ac ?_)
     exact ⟨F.re ⟨(by show some (Value.bool false) = some (Value.bool (decide (0 ≤ p1) && (decide (p1 < p0.1) && (decide (0 ≤ p2) && (decide (p2 ≤ 7) && decide (x7 = 1)))))); try rw [hb1]; try rw [hb0]; try rw [hb2]; try rw [hb3]; all_goals simp only [Bool.not_true, Bool.not_false, Bool.true_and, Bool.false_and, Bool.true_or, Bool.false_or, Bool.and_true, Bool.or_false, cond_true, cond_false]), trivial⟩, W⟩
    rw [hb2] at F
    iterate 2 refine Cf F Aa Aa Aa Aa Aa Aa Aa fun a F => ?_
    refine ls F W Aa (As F Aa Aa Aa).q fun a w F W => ?_
    refine ls F W Aa (Ad F Aa).q fun a w F W => ?_
    iterate 2 refine Cf F Aa Aa Aa Aa Aa Aa Aa fun a F => ?_
    refine ls F W Aa (As F Aa Aa Aa).q fun a w F W => ?_
    refine ls F W Aa (Af F Aa).q fun a w F W => ?_
    refine Ae (Ac ?_)
    exact ⟨F.re ⟨(by show some (Value.bool false) = some (Value.bool (decide (0 ≤ p1) && (decide (p1 < p0.1) && (decide (0 ≤ p2) && (decide (p2 ≤ 7) && decide (x7 = 1)))))); try rw [hb1]; try rw [hb0]; try rw [hb2]; all_goals simp only [Bool.not_true, Bool.not_false, Bool.true_and, Bool.false_and, Bool.true_or, Bool.false_or, Bool.and_true, Bool.or_false, cond_true, cond_false]), trivial⟩, W⟩
   rw [hb1] at F
   iterate 2 refine Cf F Aa Aa Aa Aa Aa Aa Aa fun a F => ?_
   refine ls F W Aa (As F Aa Aa Aa).q fun a w F W => ?_
   refine ls F W Aa (Ad F Aa).q fun a w F W => ?_
   iterate 2 refine Cf F Aa Aa Aa Aa Aa Aa Aa fun a F => ?_
   refine ls F W Aa (As F Aa Aa Aa).q fun a w F W => ?_
   refine ls F W Aa (Ad F Aa).q fun a w F W => ?_
   iterate 2 refine Cf F Aa Aa Aa Aa Aa Aa Aa fun a F => ?_
   refine ls F W Aa (As F Aa Aa Aa).q fun a w F W => ?_
   refine ls F W Aa (Af F Aa).q fun a w F W => ?_
   refine Ae (Ac ?_)
   exact ⟨F.re ⟨(by show some (Value.bool false) = some (Value.bool (decide (0 ≤ p1) && (decide (p1 < p0.1) && (decide (0 ≤ p2) && (decide (p2 ≤ 7) && decide (x7 = 1)))))); try rw [hb1]; try rw [hb0]; all_goals simp only [Bool.not_true, Bool.not_false, Bool.true_and, Bool.false_and, Bool.true_or, Bool.false_or, Bool.and_true, Bool.or_false, cond_true, cond_false]), trivial⟩, W⟩
  rw [hb0] at F
  iterate 4 refine Cf F Aa Aa Aa Aa Aa Aa Aa fun a F => ?_
  refine ls F W Aa (As F Aa Aa Aa).q fun a w F W => ?_
  refine ls F W Aa (Ad F Aa).q fun a w F W => ?_
  iterate 2 refine Cf F Aa Aa Aa Aa Aa Aa Aa fun a F => ?_
  refine ls F W Aa (As F Aa Aa Aa).q fun a w F W => ?_
  refine ls F W Aa (Ad F Aa).q fun a w F W => ?_
  iterate 2 refine Cf F Aa Aa Aa Aa Aa Aa Aa fun a F => ?_
  refine ls F W Aa (As F Aa Aa Aa).q fun a w F W => ?_
  refine ls F W Aa (Ad F Aa).q fun a w F W => ?_
  iterate 2 refine Cf F Aa Aa Aa Aa Aa Aa Aa fun a F => ?_
  refine ls F W Aa (As F Aa Aa Aa).q fun a w F W => ?_
  refine ls F W Aa (Af F Aa).q fun a w F W => ?_
  refine Ae (Ac ?_)
  exact ⟨F.re ⟨(by show some (Value.bool false) = some (Value.bool (decide (0 ≤ p1) && (decide (p1 < p0.1) && (decide (0 ≤ p2) && (decide (p2 ≤ 7) && decide (x7 = 1)))))); try rw [hb0]; all_goals simp only [Bool.not_true, Bool.not_false, Bool.true_and, Bool.false_and, Bool.true_or, Bool.false_or, Bool.and_true, Bool.or_false, cond_true, cond_false]), trivial⟩, W⟩
 rintro a w ⟨F, W⟩
 refine AB ?_
 have H := AZ H
 subst H
 refine AW (.inl Aa) F W Aa (Az F Aa) ?_
 exact ⟨rfl, W.done⟩
theorem PZ : Has Try.prog 60 := ⟨fun args w => Aj Try.func60 rfl (by decide) args w⟩
noncomputable def DR (p0 : Int × (List (Int × Int × Int × Int × Int × Int)) × (List (Int × Int))) : Int → Option (Int ⊕ (Unit ⊕ Bool))
  | x1 => (if x1 < (p0.2.1.length : Int) then (ix p0.2.1 x1).bind fun x2 => (if x2.1 = x2.2.2.1 then some true else (if x2.2.2.2.2.1 < 1 then some true else (if x2.2.2.2.2.2 < x2.2.2.2.2.1 then some true else (if 1000 < x2.2.2.2.2.2 then some true else (E3 p0 x2.1 x2.2.1).bind fun x4 => (if (!x4) = true then some true else (E3 p0 x2.2.2.1 x2.2.2.2.1).bind fun x5 => some (!x5)))))).bind fun x3 => (if x3 = true then some (.inr (.inr false)) else some (.inl (BM (x1 + 1)))) else some (.inr (.inl ())))
noncomputable def DZ (p0 : Int × (List (Int × Int × Int × Int × Int × Int)) × (List (Int × Int))) : Int → Option (Int ⊕ (Unit ⊕ Bool))
  | x6 => (if x6 < (p0.2.2.length : Int) then (ix p0.2.2 x6).bind fun x7 => (ix p0.2.2 x6).bind fun x8 => (E3 p0 x7.1 x8.2).bind fun x9 => (if (!x9) = true then some (.inr (.inr false)) else some (.inl (BM (x6 + 1)))) else some (.inr (.inl ())))
noncomputable def Fq (p0 : Int × (List (Int × Int × Int × Int × Int × Int)) × (List (Int × Int))) : Option Bool := (if (decide (p0.1 < 1) || (decide (8 < p0.1) || (decide (24 < (p0.2.1.length : Int)) || decide (8 < (p0.2.2.length : Int))))) = true then some false else Iu (AN (DR p0) 0) fun _ => Iu (AN (DZ p0) 0) fun _ => some true)
theorem KE (Y : Nat → Prop) (w0 : World) (v1 : Value) (v2 : Value) (p0 : Int × (List (Int × Int × Int × Int × Int × Int)) × (List (Int × Int))) (r : Bool) (H : Fq p0 = some r) (h_v1 : Sl w0 (NX []) Fd v1 p0.2.1) (h_v2 : Sl w0 (NX []) Ft v2 p0.2.2) :
    Calls Try.prog 41 #[.agg #[.int .i64 p0.1, v1, v2]] w0 fun e w' => e = .returned (.bool r) ∧ Below w0.heap.size w0 w' := by
 refine enter Try.func41 Aa Try.ntmps41 Aa fun a F => ?_
 have W := Stw.start Y w0
 unfold Fq at H
 refine Ah (Ab ?_)
 refine EJ (cs := [.int .i64 p0.1, v1, v2]) F W Aa Aa Aa fun b1 a w F W => ?_
 refine ls F W Aa (Af F Aa).q fun a w F W => ?_
 refine Ae (Ac (Ah ?_))
 refine AL (fun a w => Fr 100 [] [(1, .pointer (some ⟨b1, 0, none⟩)), (2, .bool false), (25, .bool (decide (p0.1 < 1) || (decide (8 < p0.1) || (decide (24 < (p0.2.1.length : Int)) || decide (8 < (p0.2.2.length : Int))))))] a ∧ Stw ⟨Y, [], w0⟩ [(b1, [.int .i64 p0.1, v1, v2])] [] w) ?_ ?_
 ·
  refine Ab ?_
  refine ls F W Aa (Ai CD Aa Aa Aa T3 F Aa 0 Aa).q fun a w F W => ?_
  refine ls F W Aa (Ao (v := Value.int .i64 p0.1) 0 F Aa Aa T3 Aa).q fun a w F W => ?_
  refine ls F W Aa (Bl F Aa Aa).q fun a w F W => ?_
  refine ls F W Aa (Ad F Aa).q fun a w F W => ?_
  rcases Bool.eq_false_or_eq_true (decide (p0.1 < 1)) with hb0 | hb0
  ·
   rw [hb0] at F
   iterate 3 refine Cf F Aa Aa Aa Aa Aa Aa Aa fun a F => ?_
   refine ls F W Aa (Am F Aa Aa Aa).q fun a w F W => ?_
   refine ls F W Aa (Ad F Aa).q fun a w F W => ?_
   iterate 4 refine Cf F Aa Aa Aa Aa Aa Aa Aa fun a F => ?_
   refine ls F W Aa (Am F Aa Aa Aa).q fun a w F W => ?_
   refine ls F W Aa (Ad F Aa).q fun a w F W => ?_
   iterate 4 refine Cf F Aa Aa Aa Aa Aa Aa Aa fun a F => ?_
   refine ls F W Aa (Am F Aa Aa Aa).q fun a w F W => ?_
   refine Ae (Ac ?_)
   exact ⟨F.re ⟨rfl, Aa, (by show some (Value.bool true) = some (Value.bool (decide (p0.1 < 1) || (decide (8 < p0.1) || (decide (24 < (p0.2.1.length : Int)) || decide (8 < (p0.2.2.length : Int)))))); try rw [hb0]; all_goals simp only [Bool.not_true, Bool.not_false, Bool.true_and, Bool.false_and, Bool.true_or, Bool.false_or, Bool.and_true, Bool.or_false, cond_true, cond_false]), trivial⟩, W⟩
  rw [hb0] at F
  refine AA F W (Ag F Aa Aa Aa Aa) Aa (Ak Aa) (Ai CD Aa Aa Aa T3 F Aa 0 Aa).q fun a w F W => ?_
  refine AA F W (Ag F Aa Aa Aa Aa) Aa (Ak Aa) (Ao (v := Value.int .i64 p0.1) 0 F Aa Aa T3 Aa).q fun a w F W => ?_
  refine AA F W (Ag F Aa Aa Aa Aa) Aa (Ak Aa) (DN F Aa Aa).q fun a w F W => ?_
  refine ls F W Aa (As F Aa Aa Aa).q fun a w F W => ?_
  refine ls F W Aa (Ad F Aa).q fun a w F W => ?_
  rcases Bool.eq_false_or_eq_true (decide (8 < p0.1)) with hb1 | hb1
  ·
   rw [hb1] at F
   iterate 4 refine Cf F Aa Aa Aa Aa Aa Aa Aa fun a F => ?_
   refine ls F W Aa (Am F Aa Aa Aa).q fun a w F W => ?_
   refine ls F W Aa (Ad F Aa).q fun a w F W => ?_
   iterate 4 refine Cf F Aa Aa Aa Aa Aa Aa Aa fun a F => ?_
   refine ls F W Aa (Am F Aa Aa Aa).q fun a w F W => ?_
   refine Ae (Ac ?_)
   exact ⟨F.re ⟨rfl, Aa, (by show some (Value.bool true) = some (Value.bool (decide (p0.1 < 1) || (decide (8 < p0.1) || (decide (24 < (p0.2.1.length : Int)) || decide (8 < (p0.2.2.length : Int)))))); try rw [hb0]; try rw [hb1]; all_goals simp only [Bool.not_true, Bool.not_false, Bool.true_and, Bool.false_and, Bool.true_or, Bool.false_or, Bool.and_true, Bool.or_false, cond_true, cond_false]), trivial⟩, W⟩
  rw [hb1] at F
  refine AA F W (Ag F Aa Aa Aa Aa) Aa (Ak Aa) (Ai CD Aa Aa Aa H6 F Aa 1 Aa).q fun a w F W => ?_
  refine AA F W (Ag F Aa Aa Aa Aa) Aa (Ak Aa) (Ao (v := v1) 0 F Aa Aa H6 Aa).q fun a w F W => ?_
  refine AA F W (Ag F Aa Aa Aa Aa) Aa (Ak Aa) (Bd (r := Fd) (l := p0.2.1) Is Aa F Aa (An h_v1)).q fun a w F W => ?_
  refine AA F W (Ag F Aa Aa Aa Aa) Aa (Ak Aa) (DN F Aa Aa).q fun a w F W => ?_
  refine ls F W Aa (As F Aa Aa Aa).q fun a w F W => ?_
  refine ls F W Aa (Ad F Aa).q fun a w F W => ?_
  rcases Bool.eq_false_or_eq_true (decide (24 < (p0.2.1.length : Int))) with hb2 | hb2
  ·
   rw [hb2] at F
   iterate 4 refine Cf F Aa Aa Aa Aa Aa Aa Aa fun a F => ?_
   refine ls F W Aa (Am F Aa Aa Aa).q fun a w F W => ?_
   refine Ae (Ac ?_)
   exact ⟨F.re ⟨rfl, Aa, (by show some (Value.bool true) = some (Value.bool (decide (p0.1 < 1) || (decide (8 < p0.1) || (decide (24 < (p0.2.1.length : Int)) || decide (8 < (p0.2.2.length : Int)))))); try rw [hb2]; try rw [hb0]; try rw [hb1]; all_goals simp only [Bool.not_true, Bool.not_false, Bool.true_and, Bool.false_and, Bool.true_or, Bool.false_or, Bool.and_true, Bool.or_false, cond_true, cond_false]), trivial⟩, W⟩
  rw [hb2] at F
  refine AA F W (Ag F Aa Aa Aa Aa) Aa (Ak Aa) (Ai CD Aa Aa Aa Hl F Aa 2 Aa).q fun a w F W => ?_
  refine AA F W (Ag F Aa Aa Aa Aa) Aa (Ak Aa) (Ao (v := v2) 0 F Aa Aa Hl Aa).q fun a w F W => ?_
  refine AA F W (Ag F Aa Aa Aa Aa) Aa (Ak Aa) (Bd (r := Ft) (l := p0.2.2) J3 Aa F Aa (An h_v2)).q fun a w F W => ?_
  refine AA F W (Ag F Aa Aa Aa Aa) Aa (Ak Aa) (DN F Aa Aa).q fun a w F W => ?_
  refine ls F W Aa (As F Aa Aa Aa).q fun a w F W => ?_
  refine Ae (Ac ?_)
  exact ⟨F.re ⟨rfl, Aa, (by show some (Value.bool (decide (8 < (p0.2.2.length : Int)))) = some (Value.bool (decide (p0.1 < 1) || (decide (8 < p0.1) || (decide (24 < (p0.2.1.length : Int)) || decide (8 < (p0.2.2.length : Int)))))); try rw [hb2]; try rw [hb0]; try rw [hb1]; all_goals simp only [Bool.not_true, Bool.not_false, Bool.true_and, Bool.false_and, Bool.true_or, Bool.false_or, Bool.and_true, Bool.or_false, cond_true, cond_false]), trivial⟩, W⟩
 rintro a w ⟨F, W⟩
 refine AC F Aa (fun hb => ?_) fun hb => ?_
 ·
  have H := AS hb H
  rw [hb] at F
  clear hb
  refine Ah (Ab ?_)
  refine ls F W Aa (Af F Aa).q fun a w F W => ?_
  refine Ae (Ac (AB (AY ?_)))
  have H := AZ H
  subst H
  refine AW (.inl Aa) F W Aa (Az F Aa) ?_
  exact ⟨rfl, W.done⟩
 have H := AU (by rw [hb]; decide) H
 rw [hb] at F
 clear hb
 refine Aw (Ac ?_)
 obtain ⟨o1, G1, K1, L1⟩ := NW H
 refine AL (fun a w => some (Sum.inl ()) = some o1 ∧ Fr 100 [] [(1, .pointer (some ⟨b1, 0, none⟩)), (2, .bool false)] a ∧ Stw ⟨Y, [], w0⟩ [(b1, [.int .i64 p0.1, v1, v2])] [] w) ?_ ?_
 ·
  have H := G1
  clear G1 K1
  refine Ah (Ab ?_)
  refine ls F W Aa (Af F Aa).q fun a w F W => ?_
  refine Ae (Ac (Ay ?_))
  refine Bf H (fun s a w => Fr 100 [] [(1, .pointer (some ⟨b1, 0, none⟩)), (2, .bool false), (3, .int .i64 s)] a ∧ Stw ⟨Y, [], w0⟩ [(b1, [.int .i64 p0.1, v1, v2])] [] w) ⟨F.re ⟨rfl, Aa, Aa, trivial⟩, W⟩ fun s o a w H L2 hR => ?_
  obtain ⟨x1, rfl⟩ : ∃ x, x = s := ⟨s, rfl⟩
  obtain ⟨F, W⟩ := hR
  have F : Fr 100 [] [(1, .pointer (some ⟨b1, 0, none⟩)), (2, .bool false), (3, .int .i64 x1)] a := F
  have W : Stw ⟨Y, [], w0⟩ [(b1, [.int .i64 p0.1, v1, v2])] [] w := W
  rw [DR] at H
  refine Ah (Ah (Ab ?_))
  refine ls F W Aa (Ad F Aa).q fun a w F W => ?_
  refine ls F W Aa (Ai CD Aa Aa Aa H6 F Aa 1 Aa).q fun a w F W => ?_
  refine ls F W Aa (Ao (v := v1) 0 F Aa Aa H6 Aa).q fun a w F W => ?_
  refine ls F W Aa (Bd (r := Fd) (l := p0.2.1) Is Aa F Aa (An h_v1)).q fun a w F W => ?_
  refine ls F W Aa (Bl F Aa Aa).q fun a w F W => ?_
  refine Ae (Ac ?_)
  refine AC F Aa (fun hb => ?_) fun hb => ?_
  ·
   have H := AS (Bu hb) H
   rw [hb] at F
   clear hb
   refine Aw (Ac (Ah (Ay (Ah (Ab ?_)))))
   refine ls F W Aa (Ai CD Aa Aa Aa H6 F Aa 1 Aa).q fun a w F W => ?_
   refine ls F W Aa (Ao (v := v1) 0 F Aa Aa H6 Aa).q fun a w F W => ?_
   refine ls F W Aa (Ad F Aa).q fun a w F W => ?_
   obtain ⟨x2, h1, H⟩ := Al H
   refine ls F W Aa (AG (r := Fd) Pe F Aa Aa (An h_v1) h1).q fun a w F W => ?_
   refine ls F W Aa (Av (y := Value.agg #[.int .i64 x2.1, .int .i64 x2.2.1, .int .i64 x2.2.2.1, .int .i64 x2.2.2.2.1, .int .i64 x2.2.2.2.2.1, .int .i64 x2.2.2.2.2.2]) (j := 0) (i := x1) F Aa Aa (An h_v1) h1 Pd.to On Aa).q fun a w F W => ?_
   refine CM (cs := [.int .i64 0, .int .i64 0, .int .i64 0, .int .i64 0, .int .i64 0, .int .i64 0]) F W Aa Pg Aa fun b2 a w F W => ?_
   refine Dv (vs := [.int .i64 x2.1, .int .i64 x2.2.1, .int .i64 x2.2.2.1, .int .i64 x2.2.2.2.1, .int .i64 x2.2.2.2.2.1, .int .i64 x2.2.2.2.2.2]) (M' := [(b2, [.int .i64 x2.1, .int .i64 x2.2.1, .int .i64 x2.2.2.1, .int .i64 x2.2.2.2.1, .int .i64 x2.2.2.2.2.1, .int .i64 x2.2.2.2.2.2]), (b1, [.int .i64 p0.1, v1, v2])]) 0 F W Aa Aa Aa On Aa Aa Aa Aa Aa fun w W => ?_
   refine Ae (Ac ?_)
   obtain ⟨o3, G3, K3⟩ := Al H
   refine AL (fun a w => ∃ x3 : Bool, some (x3) = some o3 ∧ Fr 100 [] [(1, .pointer (some ⟨b1, 0, none⟩)), (2, .bool false), (3, .int .i64 x1), (77, .bool x3)] a ∧ Stw ⟨Y, [], w0⟩ [(b2, [.int .i64 x2.1, .int .i64 x2.2.1, .int .i64 x2.2.2.1, .int .i64 x2.2.2.2.1, .int .i64 x2.2.2.2.2.1, .int .i64 x2.2.2.2.2.2]), (b1, [.int .i64 p0.1, v1, v2])] [] w) ?_ ?_
   ·
    have H := G3
    clear G3 K3
    refine Ab ?_
    refine ls F W Aa (Ai DA Aa Aa Aa T3 F Aa 0 Aa).q fun a w F W => ?_
    refine ls F W Aa (Ao (v := Value.int .i64 x2.1) 0 F Aa Aa T3 Aa).q fun a w F W => ?_
    refine ls F W Aa (Ai DA Aa Aa Aa T3 F Aa 2 Aa).q fun a w F W => ?_
    refine ls F W Aa (Ao (v := Value.int .i64 x2.2.2.1) 0 F Aa Aa T3 Aa).q fun a w F W => ?_
    refine ls F W Aa (C6 F Aa Aa).q fun a w F W => ?_
    refine ls F W Aa (Ad F Aa).q fun a w F W => ?_
    rcases Bool.eq_false_or_eq_true (decide (x2.1 = x2.2.2.1)) with hb | hb
    ·
     have H := AS (Bu hb) H
     rw [hb] at F
     clear hb
     iterate 3 refine Cf F Aa Aa Aa Aa Aa Aa Aa fun a F => ?_
     refine ls F W Aa (Am F Aa Aa Aa).q fun a w F W => ?_
     refine ls F W Aa (Ad F Aa).q fun a w F W => ?_
     iterate 5 refine Cf F Aa Aa Aa Aa Aa Aa Aa fun a F => ?_
     refine ls F W Aa (Am F Aa Aa Aa).q fun a w F W => ?_
     refine ls F W Aa (Ad F Aa).q fun a w F W => ?_
     iterate 3 refine Cf F Aa Aa Aa Aa Aa Aa Aa fun a F => ?_
     refine ls F W Aa (Am F Aa Aa Aa).q fun a w F W => ?_
     refine ls F W Aa (Ad F Aa).q fun a w F W => ?_
     iterate 7 refine Cf F Aa Aa Aa Aa Aa Aa Aa fun a F => ?_
     refine ls F W Aa (Am F Aa Aa Aa).q fun a w F W => ?_
     refine ls F W Aa (Ad F Aa).q fun a w F W => ?_
     iterate 7 refine Cf F Aa Aa Aa Aa Aa Aa Aa fun a F => ?_
     refine ls F W Aa (Am F Aa Aa Aa).q fun a w F W => ?_
     refine Ae (Ac ?_)
     have W := W.frontM (i := 1) Aa Aa
     have W := W.frontM (i := 1) Aa Aa
     exact ⟨_, H, F.re ⟨rfl, Aa, Aa, Aa, trivial⟩, W⟩
    have H := AU (Bv hb) H
    rw [hb] at F
    clear hb
    refine AA F W (Ag F Aa Aa Aa Aa) Aa (Ak Aa) (Ai DA Aa Aa Aa T3 F Aa 4 Aa).q fun a w F W => ?_
    refine AA F W (Ag F Aa Aa Aa Aa) Aa (Ak Aa) (Ao (v := Value.int .i64 x2.2.2.2.2.1) 0 F Aa Aa T3 Aa).q fun a w F W => ?_
    refine AA F W (Ag F Aa Aa Aa Aa) Aa (Ak Aa) (Bl F Aa Aa).q fun a w F W => ?_
    refine ls F W Aa (As F Aa Aa Aa).q fun a w F W => ?_
    refine ls F W Aa (Ad F Aa).q fun a w F W => ?_
    rcases Bool.eq_false_or_eq_true (decide (x2.2.2.2.2.1 < 1)) with hb | hb
    ·
     have H := AS (Bu hb) H
     rw [hb] at F
     clear hb
     iterate 5 refine Cf F Aa Aa Aa Aa Aa Aa Aa fun a F => ?_
     refine ls F W Aa (Am F Aa Aa Aa).q fun a w F W => ?_
     refine ls F W Aa (Ad F Aa).q fun a w F W => ?_
     iterate 3 refine Cf F Aa Aa Aa Aa Aa Aa Aa fun a F => ?_
     refine ls F W Aa (Am F Aa Aa Aa).q fun a w F W => ?_
     refine ls F W Aa (Ad F Aa).q fun a w F W => ?_
     iterate 7 refine Cf F Aa Aa Aa Aa Aa Aa Aa fun a F => ?_
     refine ls F W Aa (Am F Aa Aa Aa).q fun a w F W => ?_
     refine ls F W Aa (Ad F Aa).q fun a w F W => ?_
     iterate 7 refine Cf F Aa Aa Aa Aa Aa Aa Aa fun a F => ?_
     refine ls F W Aa (Am F Aa Aa Aa).q fun a w F W => ?_
     refine Ae (Ac ?_)
     have W := W.frontM (i := 1) Aa Aa
     have W := W.frontM (i := 1) Aa Aa
     exact ⟨_, H, F.re ⟨rfl, Aa, Aa, Aa, trivial⟩, W⟩
    have H := AU (Bv hb) H
    rw [hb] at F
    clear hb
    refine AA F W (Ag F Aa Aa Aa Aa) Aa (Ak Aa) (Ai DA Aa Aa Aa T3 F Aa 4 Aa).q fun a w F W => ?_
    refine AA F W (Ag F Aa Aa Aa Aa) Aa (Ak Aa) (Ao (v := Value.int .i64 x2.2.2.2.2.1) 0 F Aa Aa T3 Aa).q fun a w F W => ?_
    refine AA F W (Ag F Aa Aa Aa Aa) Aa (Ak Aa) (Ai DA Aa Aa Aa T3 F Aa 5 Aa).q fun a w F W => ?_
    refine AA F W (Ag F Aa Aa Aa Aa) Aa (Ak Aa) (Ao (v := Value.int .i64 x2.2.2.2.2.2) 0 F Aa Aa T3 Aa).q fun a w F W => ?_
    refine AA F W (Ag F Aa Aa Aa Aa) Aa (Ak Aa) (DN F Aa Aa).q fun a w F W => ?_
    refine ls F W Aa (As F Aa Aa Aa).q fun a w F W => ?_
    refine ls F W Aa (Ad F Aa).q fun a w F W => ?_
    rcases Bool.eq_false_or_eq_true (decide (x2.2.2.2.2.2 < x2.2.2.2.2.1)) with hb | hb
    ·
     have H := AS (Bu hb) H
     rw [hb] at F
     clear hb
     iterate 3 refine Cf F Aa Aa Aa Aa Aa Aa Aa fun a F => ?_
     refine ls F W Aa (Am F Aa Aa Aa).q fun a w F W => ?_
     refine ls F W Aa (Ad F Aa).q fun a w F W => ?_
     iterate 7 refine Cf F Aa Aa Aa Aa Aa Aa Aa fun a F => ?_
     refine ls F W Aa (Am F Aa Aa Aa).q fun a w F W => ?_
     refine ls F W Aa (Ad F Aa).q fun a w F W => ?_
     iterate 7 refine Cf F Aa Aa Aa Aa Aa Aa Aa fun a F => ?_
     refine ls F W Aa (Am F Aa Aa Aa).q fun a w F W => ?_
     refine Ae (Ac ?_)
     have W := W.frontM (i := 1) Aa Aa
     have W := W.frontM (i := 1) Aa Aa
     exact ⟨_, H, F.re ⟨rfl, Aa, Aa, Aa, trivial⟩, W⟩
    have H := AU (Bv hb) H
    rw [hb] at F
    clear hb
    refine AA F W (Ag F Aa Aa Aa Aa) Aa (Ak Aa) (Ai DA Aa Aa Aa T3 F Aa 5 Aa).q fun a w F W => ?_
    refine AA F W (Ag F Aa Aa Aa Aa) Aa (Ak Aa) (Ao (v := Value.int .i64 x2.2.2.2.2.2) 0 F Aa Aa T3 Aa).q fun a w F W => ?_
    refine AA F W (Ag F Aa Aa Aa Aa) Aa (Ak Aa) (DN F Aa Aa).q fun a w F W => ?_
    refine ls F W Aa (As F Aa Aa Aa).q fun a w F W => ?_
    refine ls F W Aa (Ad F Aa).q fun a w F W => ?_
    rcases Bool.eq_false_or_eq_true (decide (1000 < x2.2.2.2.2.2)) with hb | hb
    ·
     have H := AS (Bu hb) H
     rw [hb] at F
     clear hb
     iterate 7 refine Cf F Aa Aa Aa Aa Aa Aa Aa fun a F => ?_
     refine ls F W Aa (Am F Aa Aa Aa).q fun a w F W => ?_
     refine ls F W Aa (Ad F Aa).q fun a w F W => ?_
     iterate 7 refine Cf F Aa Aa Aa Aa Aa Aa Aa fun a F => ?_
     refine ls F W Aa (Am F Aa Aa Aa).q fun a w F W => ?_
     refine Ae (Ac ?_)
     have W := W.frontM (i := 1) Aa Aa
     have W := W.frontM (i := 1) Aa Aa
     exact ⟨_, H, F.re ⟨rfl, Aa, Aa, Aa, trivial⟩, W⟩
    have H := AU (Bv hb) H
    rw [hb] at F
    clear hb
    refine AA F W (Ag F Aa Aa Aa Aa) Aa (Ak Aa) (Ao (v := Value.agg #[.int .i64 p0.1, v1, v2]) 1 F Aa Aa Ik Aa).q fun a w F W => ?_
    refine AA F W (Ag F Aa Aa Aa Aa) Aa (Ak Aa) (Ai DA Aa Aa Aa T3 F Aa 0 Aa).q fun a w F W => ?_
    refine AA F W (Ag F Aa Aa Aa Aa) Aa (Ak Aa) (Ao (v := Value.int .i64 x2.1) 0 F Aa Aa T3 Aa).q fun a w F W => ?_
    refine AA F W (Ag F Aa Aa Aa Aa) Aa (Ak Aa) (Ai DA Aa Aa Aa T3 F Aa 1 Aa).q fun a w F W => ?_
    refine AA F W (Ag F Aa Aa Aa Aa) Aa (Ak Aa) (Ao (v := Value.int .i64 x2.2.1) 0 F Aa Aa T3 Aa).q fun a w F W => ?_
    refine Lx (Ag F Aa Aa Aa Aa) ?_
    obtain ⟨x4, h2, H⟩ := Al H
    refine ls F W Aa (A1 (v := Value.bool x4) F PZ Aa (fun w W => GF any w (v1) (v2) p0 x2.1 x2.2.1 _ h2 (((An h_v1) : Eb _ _ _ _ _ _) w W).nx (((An h_v2) : Eb _ _ _ _ _ _) w W).nx)) fun a w F W => ?_
    refine AA F W (Ag F Aa Aa Aa Aa) Aa (Ak Aa) (FN F Aa).q fun a w F W => ?_
    refine ls F W Aa (As F Aa Aa Aa).q fun a w F W => ?_
    refine ls F W Aa (Ad F Aa).q fun a w F W => ?_
    rcases Bool.eq_false_or_eq_true (!x4) with hb | hb
    ·
     have H := AS hb H
     rw [hb] at F
     clear hb
     iterate 7 refine Cf F Aa Aa Aa Aa Aa Aa Aa fun a F => ?_
     refine ls F W Aa (Am F Aa Aa Aa).q fun a w F W => ?_
     refine Ae (Ac ?_)
     have W := W.frontM (i := 1) Aa Aa
     have W := W.frontM (i := 1) Aa Aa
     exact ⟨_, H, F.re ⟨rfl, Aa, Aa, Aa, trivial⟩, W⟩
    have H := AU (by rw [hb]; decide) H
    rw [hb] at F
    clear hb
    refine AA F W (Ag F Aa Aa Aa Aa) Aa (Ak Aa) (Ao (v := Value.agg #[.int .i64 p0.1, v1, v2]) 1 F Aa Aa Ik Aa).q fun a w F W => ?_
    refine AA F W (Ag F Aa Aa Aa Aa) Aa (Ak Aa) (Ai DA Aa Aa Aa T3 F Aa 2 Aa).q fun a w F W => ?_
    refine AA F W (Ag F Aa Aa Aa Aa) Aa (Ak Aa) (Ao (v := Value.int .i64 x2.2.2.1) 0 F Aa Aa T3 Aa).q fun a w F W => ?_
    refine AA F W (Ag F Aa Aa Aa Aa) Aa (Ak Aa) (Ai DA Aa Aa Aa T3 F Aa 3 Aa).q fun a w F W => ?_
    refine AA F W (Ag F Aa Aa Aa Aa) Aa (Ak Aa) (Ao (v := Value.int .i64 x2.2.2.2.1) 0 F Aa Aa T3 Aa).q fun a w F W => ?_
    refine Lx (Ag F Aa Aa Aa Aa) ?_
    obtain ⟨x5, h3, H⟩ := Al H
    refine ls F W Aa (A1 (v := Value.bool x5) F PZ Aa (fun w W => GF any w (v1) (v2) p0 x2.2.2.1 x2.2.2.2.1 _ h3 (((An h_v1) : Eb _ _ _ _ _ _) w W).nx (((An h_v2) : Eb _ _ _ _ _ _) w W).nx)) fun a w F W => ?_
    refine AA F W (Ag F Aa Aa Aa Aa) Aa (Ak Aa) (FN F Aa).q fun a w F W => ?_
    refine ls F W Aa (As F Aa Aa Aa).q fun a w F W => ?_
    refine Ae (Ac ?_)
    have W := W.frontM (i := 1) Aa Aa
    have W := W.frontM (i := 1) Aa Aa
    exact ⟨_, H, F.re ⟨rfl, Aa, Aa, Aa, trivial⟩, W⟩
   rintro a w ⟨x3, hj, F, W⟩
   have hj := AZ hj
   subst hj
   have H := K3
   clear G3 K3
   refine AC F Aa (fun hb => ?_) fun hb => ?_
   ·
    have H := AS hb H
    rw [hb] at F
    clear hb
    refine Ah (Ab ?_)
    refine ls F W Aa (Af F Aa).q fun a w F W => ?_
    refine Ae (Ac (AB (A8 ?_)))
    iterate 2 refine AY ?_
    refine A8 (AY ?_)
    have H := L2 _ H
    have H := L1 _ H
    have H := AZ H
    subst H
    refine AW (.inl Aa) F W Aa (Az F Aa) ?_
    exact ⟨rfl, W.done⟩
   have H := AU (by rw [hb]; decide) H
   rw [hb] at F
   clear hb
   refine Aw (AX (Ac (Ab ?_)))
   refine ls F W Aa (Ad F Aa).q fun a w F W => ?_
   refine ls F W Aa (BT F Aa Aa Aa).q fun a w F W => ?_
   refine ls F W Aa (Af F Aa).q fun a w F W => ?_
   refine Ae (Ac ?_)
   have W := W.frontM (i := 1) Aa Aa
   have W := W.sub (M' := [(b1, [.int .i64 p0.1, v1, v2])]) (Z' := []) (List.Sublist.cons_cons _ (List.nil_sublist _)) (List.Sublist.refl _)
   exact ⟨_, H, F.re ⟨rfl, Aa, Aa, trivial⟩, W⟩
  have H := AU (Bv hb) H
  rw [hb] at F
  clear hb
  refine Bn ?_
  iterate 2 refine BR ?_
  refine Bm (Ac ?_)
  have H := L2 _ H
  exact ⟨H, F.re ⟨rfl, Aa, trivial⟩, W⟩
 rintro a w ⟨hj, F, W⟩
 have H := K1 _ hj
 clear hj G1 K1 L1
 obtain ⟨o4, G4, K4, L4⟩ := NW H
 refine AL (fun a w => some (Sum.inl ()) = some o4 ∧ Fr 100 [] [(2, .bool false)] a ∧ Stw ⟨Y, [], w0⟩ [(b1, [.int .i64 p0.1, v1, v2])] [] w) ?_ ?_
 ·
  have H := G4
  clear G4 K4
  refine Ah (Ab ?_)
  refine ls F W Aa (Af F Aa).q fun a w F W => ?_
  refine Ae (Ac (Ay ?_))
  refine Bf H (fun s a w => Fr 100 [] [(1, .pointer (some ⟨b1, 0, none⟩)), (2, .bool false), (5, .int .i64 s)] a ∧ Stw ⟨Y, [], w0⟩ [(b1, [.int .i64 p0.1, v1, v2])] [] w) ⟨F.re ⟨rfl, Aa, Aa, trivial⟩, W⟩ fun s o a w H L5 hR => ?_
  obtain ⟨x6, rfl⟩ : ∃ x, x = s := ⟨s, rfl⟩
  obtain ⟨F, W⟩ := hR
  have F : Fr 100 [] [(1, .pointer (some ⟨b1, 0, none⟩)), (2, .bool false), (5, .int .i64 x6)] a := F
  have W : Stw ⟨Y, [], w0⟩ [(b1, [.int .i64 p0.1, v1, v2])] [] w := W
  rw [DZ] at H
  refine Ah (Ah (Ab ?_))
  refine ls F W Aa (Ad F Aa).q fun a w F W => ?_
  refine ls F W Aa (Ai CD Aa Aa Aa Hl F Aa 2 Aa).q fun a w F W => ?_
  refine ls F W Aa (Ao (v := v2) 0 F Aa Aa Hl Aa).q fun a w F W => ?_
  refine ls F W Aa (Bd (r := Ft) (l := p0.2.2) J3 Aa F Aa (An h_v2)).q fun a w F W => ?_
  refine ls F W Aa (Bl F Aa Aa).q fun a w F W => ?_
  refine Ae (Ac ?_)
  refine AC F Aa (fun hb => ?_) fun hb => ?_
  ·
   have H := AS (Bu hb) H
   rw [hb] at F
   clear hb
   refine Aw (Ac (Ah (Ay (Ah ?_))))
   refine Db W MO (by kernel_rfl) ?_
   refine qs F Aa (Ao (v := Value.agg #[.int .i64 p0.1, v1, v2]) 0 F Aa Aa Ik Aa).q fun a F => ?_
   refine qs F Aa (Ai CD Aa Aa Aa Hl F Aa 2 Aa).q fun a F => ?_
   refine qs F Aa (Ao (v := v2) 0 F Aa Aa Hl Aa).q fun a F => ?_
   refine qs F Aa (Ad F Aa).q fun a F => ?_
   obtain ⟨x7, h4, H⟩ := Al H
   refine qs F Aa (AG (r := Ft) OE F Aa Aa (An h_v2) h4).q fun a F => ?_
   refine qs F Aa (Ai JU Aa Aa Aa T3 F Aa (EV v2 + (x6).toNat * 2) Aa).q fun a F => ?_
   refine qs F Aa (Av (y := Value.int .i64 x7.1) (j := 0) (i := x6) F Aa Aa (An h_v2) h4 OD.to T3 Aa).q fun a F => ?_
   refine qs F Aa (Ai CD Aa Aa Aa Hl F Aa 2 Aa).q fun a F => ?_
   refine qs F Aa (Ao (v := v2) 0 F Aa Aa Hl Aa).q fun a F => ?_
   refine qs F Aa (Ad F Aa).q fun a F => ?_
   obtain ⟨x8, h5, H⟩ := Al H
   refine qs F Aa (AG (r := Ft) OE F Aa Aa (An h_v2) h5).q fun a F => ?_
   refine qs F Aa (Ai JU Aa Aa Aa T3 F Aa (EV v2 + (x6).toNat * 2 + 1) Aa).q fun a F => ?_
   refine qs F Aa (Av (y := Value.int .i64 x8.2) (j := 1) (i := x6) F Aa Aa (An h_v2) h5 OD.to T3 Aa).q fun a F => ?_
   obtain ⟨x9, h6, H⟩ := Al H
   refine qs F Aa (A1 (v := Value.bool x9) F PZ Aa (fun w W => GF any w (v1) (v2) p0 x7.1 x8.2 _ h6 (((An h_v1) : Eb _ _ _ _ _ _) w W).nx (((An h_v2) : Eb _ _ _ _ _ _) w W).nx)) fun a F => ?_
   refine qs F Aa (FN F Aa).q fun a F => ?_
   refine Bg fun w W => ?_
   refine Ac ?_
   refine AC F Aa (fun hb => ?_) fun hb => ?_
   ·
    have H := AS hb H
    rw [hb] at F
    clear hb
    refine Ah (Ab ?_)
    refine ls F W Aa (Af F Aa).q fun a w F W => ?_
    refine Ae (Ac (AB (A8 ?_)))
    iterate 2 refine AY ?_
    refine A8 (AY ?_)
    have H := L5 _ H
    have H := L4 _ H
    have H := AZ H
    subst H
    refine AW (.inl Aa) F W Aa (Az F Aa) ?_
    exact ⟨rfl, W.done⟩
   have H := AU (by rw [hb]; decide) H
   rw [hb] at F
   clear hb
   refine Aw (AX (Ac (Ab ?_)))
   refine ls F W Aa (Ad F Aa).q fun a w F W => ?_
   refine ls F W Aa (BT F Aa Aa Aa).q fun a w F W => ?_
   refine ls F W Aa (Af F Aa).q fun a w F W => ?_
   refine Ae (Ac ?_)
   exact ⟨_, H, F.re ⟨rfl, Aa, Aa, trivial⟩, W⟩
  have H := AU (Bv hb) H
  rw [hb] at F
  clear hb
  refine Bn ?_
  iterate 2 refine BR ?_
  refine Bm (Ac ?_)
  have H := L5 _ H
  exact ⟨H, F.re ⟨rfl, trivial⟩, W⟩
 rintro a w ⟨hj, F, W⟩
 have H := K4 _ hj
 clear hj G4 K4 L4
 refine Ah (Ab ?_)
 refine ls F W Aa (Af F Aa).q fun a w F W => ?_
 refine Ae (Ac (AB ?_))
 have H := AZ H
 subst H
 refine AW (.inl Aa) F W Aa (Az F Aa) ?_
 exact ⟨rfl, W.done⟩
theorem QF : Has Try.prog 41 := ⟨fun args w => Aj Try.func41 rfl (by decide) args w⟩
def C0 (p0 : Int) : Bool := (decide (p0 ≤ 9218868437227405312) || decide (p0 = 9223372036854775808))
theorem Lv (Y : Nat → Prop) (w0 : World)  (p0 : Int) (r : Bool) (H : C0 p0 = r)  :
    Calls Try.prog 61 #[.int .u64 p0] w0 fun e w' => e = .returned (.bool r) ∧ Below w0.heap.size w0 w' := by
 refine enter Try.func61 Aa Try.ntmps61 Aa fun a F => ?_
 have W := Stw.start Y w0
 unfold C0 at H
 refine Ah (Ab ?_)
 refine ls F W Aa (Af F Aa).q fun a w F W => ?_
 refine Ae (Ac ?_)
 refine AL (fun a w => Fr 9 [] [(2, .bool (decide (p0 ≤ 9218868437227405312) || decide (p0 = 9223372036854775808)))] a ∧ Stw ⟨Y, [], w0⟩ [] [] w) ?_ ?_
 ·
  refine Ab ?_
  refine ls F W Aa (Ad F Aa).q fun a w F W => ?_
  refine ls F W Aa (IL F Aa Aa).q fun a w F W => ?_
  refine ls F W Aa (Ad F Aa).q fun a w F W => ?_
  rcases Bool.eq_false_or_eq_true (decide (p0 ≤ 9218868437227405312)) with hb0 | hb0
  ·
   rw [hb0] at F
   iterate 2 refine Cf F Aa Aa Aa Aa Aa Aa Aa fun a F => ?_
   refine ls F W Aa (Am F Aa Aa Aa).q fun a w F W => ?_
   refine ls F W Aa (Af F Aa).q fun a w F W => ?_
   refine Ae (Ac ?_)
   exact ⟨F.re ⟨(by show some (Value.bool true) = some (Value.bool (decide (p0 ≤ 9218868437227405312) || decide (p0 = 9223372036854775808))); try rw [hb0]; all_goals simp only [Bool.not_true, Bool.not_false, Bool.true_and, Bool.false_and, Bool.true_or, Bool.false_or, Bool.and_true, Bool.or_false, cond_true, cond_false]), trivial⟩, W⟩
  rw [hb0] at F
  refine AA F W (Ag F Aa Aa Aa Aa) Aa (Ak Aa) (Ad F Aa).q fun a w F W => ?_
  refine AA F W (Ag F Aa Aa Aa Aa) Aa (Ak Aa) (C6 F Aa Aa).q fun a w F W => ?_
  refine ls F W Aa (As F Aa Aa Aa).q fun a w F W => ?_
  refine ls F W Aa (Af F Aa).q fun a w F W => ?_
  refine Ae (Ac ?_)
  exact ⟨F.re ⟨(by show some (Value.bool (decide (p0 = 9223372036854775808))) = some (Value.bool (decide (p0 ≤ 9218868437227405312) || decide (p0 = 9223372036854775808))); try rw [hb0]; all_goals simp only [Bool.not_true, Bool.not_false, Bool.true_and, Bool.false_and, Bool.true_or, Bool.false_or, Bool.and_true, Bool.or_false, cond_true, cond_false]), trivial⟩, W⟩
 rintro a w ⟨F, W⟩
 refine AB ?_
 subst H
 refine AW (.inl Aa) F W Aa (Az F Aa) ?_
 exact ⟨rfl, W.done⟩
theorem QK : Has Try.prog 61 := ⟨fun args w => Aj Try.func61 rfl (by decide) args w⟩
noncomputable def DV (p0 : List Int) : Int → Option (Int ⊕ (Unit ⊕ Bool))
  | x1 => (if x1 < (p0.length : Int) then (ix p0 x1).bind fun x2 => (if (!(C0 x2)) = true then some (.inr (.inr false)) else some (.inl (BM (x1 + 1)))) else some (.inr (.inl ())))
noncomputable def Fk (p0 : List Int) (p1 : Int) : Option Bool := Iu (AN (DV p0) 0) fun _ => some (decide ((p0.length : Int) = p1))
theorem Kt (Y : Nat → Prop) (w0 : World) (v1 : Value) (p0 : List Int) (p1 : Int) (r : Bool) (H : Fk p0 p1 = some r) (h_v1 : Sl w0 (NX []) (Rp.int .u64) v1 p0) :
    Calls Try.prog 42 #[v1, .int .i64 p1] w0 fun e w' => e = .returned (.bool r) ∧ Below w0.heap.size w0 w' := by
 refine enter Try.func42 Aa Try.ntmps42 Aa fun a F => ?_
 have W := Stw.start Y w0
 unfold Fk at H
 refine Ah (Ab ?_)
 refine ls F W Aa (Af F Aa).q fun a w F W => ?_
 refine Ae (Ac ?_)
 obtain ⟨o1, G1, K1, L1⟩ := NW H
 refine AL (fun a w => some (Sum.inl ()) = some o1 ∧ Fr 22 [] [(0, v1), (1, .int .i64 p1), (4, .bool false)] a ∧ Stw ⟨Y, [], w0⟩ [] [] w) ?_ ?_
 ·
  have H := G1
  clear G1 K1
  refine Ah (Ab ?_)
  refine ls F W Aa (Af F Aa).q fun a w F W => ?_
  refine Ae (Ac (Ay ?_))
  refine Bf H (fun s a w => Fr 22 [] [(0, v1), (1, .int .i64 p1), (4, .bool false), (5, .int .i64 s)] a ∧ Stw ⟨Y, [], w0⟩ [] [] w) ⟨F.re ⟨rfl, Aa, Aa, Aa, trivial⟩, W⟩ fun s o a w H L2 hR => ?_
  obtain ⟨x1, rfl⟩ : ∃ x, x = s := ⟨s, rfl⟩
  obtain ⟨F, W⟩ := hR
  have F : Fr 22 [] [(0, v1), (1, .int .i64 p1), (4, .bool false), (5, .int .i64 x1)] a := F
  have W : Stw ⟨Y, [], w0⟩ [] [] w := W
  rw [DV] at H
  refine Ah (Ah (Ab ?_))
  iterate 2 refine ls F W Aa (Ad F Aa).q fun a w F W => ?_
  refine ls F W Aa (Bd (r := (Rp.int .u64)) (l := p0) I4 Aa F Aa (An h_v1)).q fun a w F W => ?_
  refine ls F W Aa (Bl F Aa Aa).q fun a w F W => ?_
  refine Ae (Ac ?_)
  refine AC F Aa (fun hb => ?_) fun hb => ?_
  ·
   have H := AS (Bu hb) H
   rw [hb] at F
   clear hb
   refine Aw (Ac (Ah (Ay (Ah (Ab ?_)))))
   iterate 2 refine ls F W Aa (Ad F Aa).q fun a w F W => ?_
   obtain ⟨x2, h1, H⟩ := Al H
   refine ls F W Aa (AG (r := (Rp.int .u64)) PL F Aa Aa (An h_v1) h1).q fun a w F W => ?_
   refine ls F W Aa (Av (y := Value.int .u64 x2) (j := 0) (i := x1) F Aa Aa (An h_v1) h1 Fl.int.to P4 Aa).q fun a w F W => ?_
   refine ls F W Aa (A1 (v := Value.bool (C0 x2)) F QK Aa (fun w W => Lv any w x2 _ Aa)) fun a w F W => ?_
   refine ls F W Aa (FN F Aa).q fun a w F W => ?_
   refine Ae (Ac ?_)
   refine AC F Aa (fun hb => ?_) fun hb => ?_
   ·
    have H := AS hb H
    rw [hb] at F
    clear hb
    refine Ah (Ab ?_)
    refine ls F W Aa (Af F Aa).q fun a w F W => ?_
    refine Ae (Ac (AB (A8 ?_)))
    iterate 2 refine AY ?_
    refine A8 (AY ?_)
    have H := L2 _ H
    have H := L1 _ H
    have H := AZ H
    subst H
    refine AW (.inl Aa) F W Aa (Az F Aa) ?_
    exact ⟨rfl, W.done⟩
   have H := AU (by rw [hb]; decide) H
   rw [hb] at F
   clear hb
   refine Aw (AX (Ac (Ab ?_)))
   refine ls F W Aa (Ad F Aa).q fun a w F W => ?_
   refine ls F W Aa (BT F Aa Aa Aa).q fun a w F W => ?_
   refine ls F W Aa (Af F Aa).q fun a w F W => ?_
   refine Ae (Ac ?_)
   exact ⟨_, H, F.re ⟨rfl, Aa, Aa, Aa, trivial⟩, W⟩
  have H := AU (Bv hb) H
  rw [hb] at F
  clear hb
  refine Bn ?_
  iterate 2 refine BR ?_
  refine Bm (Ac ?_)
  have H := L2 _ H
  exact ⟨H, F.re ⟨rfl, Aa, Aa, trivial⟩, W⟩
 rintro a w ⟨hj, F, W⟩
 have H := K1 _ hj
 clear hj G1 K1 L1
 refine Ah (Ab ?_)
 refine ls F W Aa (Ad F Aa).q fun a w F W => ?_
 refine ls F W Aa (Bd (r := (Rp.int .u64)) (l := p0) I4 Aa F Aa (An h_v1)).q fun a w F W => ?_
 refine ls F W Aa (Ad F Aa).q fun a w F W => ?_
 refine ls F W Aa (C6 F Aa Aa).q fun a w F W => ?_
 refine ls F W Aa (Af F Aa).q fun a w F W => ?_
 refine Ae (Ac (AB ?_))
 have H := AZ H
 subst H
 refine AW (.inl Aa) F W Aa (Az F Aa) ?_
 exact ⟨rfl, W.done⟩
theorem Q7 : Has Try.prog 42 := ⟨fun args w => Aj Try.func42 rfl (by decide) args w⟩
noncomputable def Ee (p0 : Int × (List (Int × Int × Int × Int × Int × Int)) × (List (Int × Int))) (p1 : List Int) : Option Bool := ((Fq p0).bind fun x2 => (if x2 = true then (Fk p1 (p0.2.1.length : Int)).bind fun x3 => some x3 else some false)).bind fun x1 => some x1
theorem HR (Y : Nat → Prop) (w0 : World) (v1 : Value) (v2 : Value) (v3 : Value) (p0 : Int × (List (Int × Int × Int × Int × Int × Int)) × (List (Int × Int))) (p1 : List Int) (r : Bool) (H : Ee p0 p1 = some r) (h_v1 : Sl w0 (NX []) Fd v1 p0.2.1) (h_v2 : Sl w0 (NX []) Ft v2 p0.2.2) (h_v3 : Sl w0 (NX []) (Rp.int .u64) v3 p1) :
    Calls Try.prog 21 #[.agg #[.int .i64 p0.1, v1, v2], v3] w0 fun e w' => e = .returned (.bool r) ∧ Below w0.heap.size w0 w' := by
 refine enter Try.func21 Aa Try.ntmps21 Aa fun a F => ?_
 have W := Stw.start Y w0
 unfold Ee at H
 refine Ah (Ab ?_)
 refine EJ (cs := [.int .i64 p0.1, v1, v2]) F W Aa Aa Aa fun b1 a w F W => ?_
 refine ls F W Aa (Af F Aa).q fun a w F W => ?_
 refine Ae (Ac ?_)
 obtain ⟨o1, G1, K1⟩ := Al H
 refine AL (fun a w => ∃ x1 : Bool, some (x1) = some o1 ∧ Fr 14 [] [(4, .bool x1)] a ∧ Stw ⟨Y, [], w0⟩ [(b1, [.int .i64 p0.1, v1, v2])] [] w) ?_ ?_
 ·
  have H := G1
  clear G1 K1
  refine Ab ?_
  refine ls F W Aa (Ao (v := Value.agg #[.int .i64 p0.1, v1, v2]) 0 F Aa Aa Ik Aa).q fun a w F W => ?_
  obtain ⟨x2, h1, H⟩ := Al H
  refine ls F W Aa (A1 (v := Value.bool x2) F QF Aa (fun w W => KE any w (v1) (v2) p0 _ h1 (((An h_v1) : Eb _ _ _ _ _ _) w W).nx (((An h_v2) : Eb _ _ _ _ _ _) w W).nx)) fun a w F W => ?_
  refine ls F W Aa (Ad F Aa).q fun a w F W => ?_
  rcases Bool.eq_false_or_eq_true x2 with hb | hb
  ·
   have H := AS hb H
   rw [hb] at F
   clear hb
   refine AA F W (Ag F Aa Aa Aa Aa) Aa (Ak Aa) (Ad F Aa).q fun a w F W => ?_
   refine AA F W (Ag F Aa Aa Aa Aa) Aa (Ak Aa) (Ai CD Aa Aa Aa H6 F Aa 1 Aa).q fun a w F W => ?_
   refine AA F W (Ag F Aa Aa Aa Aa) Aa (Ak Aa) (Ao (v := v1) 0 F Aa Aa H6 Aa).q fun a w F W => ?_
   refine AA F W (Ag F Aa Aa Aa Aa) Aa (Ak Aa) (Bd (r := Fd) (l := p0.2.1) Is Aa F Aa (An h_v1)).q fun a w F W => ?_
   refine Lx (Ag F Aa Aa Aa Aa) ?_
   obtain ⟨x3, h2, H⟩ := Al H
   refine ls F W Aa (A1 (v := Value.bool x3) F Q7 Aa (fun w W => Kt any w (v3) p1 (p0.2.1.length : Int) _ h2 (((An h_v3) : Eb _ _ _ _ _ _) w W).nx)) fun a w F W => ?_
   refine ls F W Aa (Am F Aa Aa Aa).q fun a w F W => ?_
   refine ls F W Aa (Af F Aa).q fun a w F W => ?_
   refine Ae (Ac ?_)
   exact ⟨_, H, F.re ⟨rfl, trivial⟩, W⟩
  have H := AU (by rw [hb]; decide) H
  rw [hb] at F
  clear hb
  iterate 5 refine Cf F Aa Aa Aa Aa Aa Aa Aa fun a F => ?_
  refine ls F W Aa (As F Aa Aa Aa).q fun a w F W => ?_
  refine ls F W Aa (Af F Aa).q fun a w F W => ?_
  refine Ae (Ac ?_)
  exact ⟨_, H, F.re ⟨rfl, trivial⟩, W⟩
 rintro a w ⟨x1, hj, F, W⟩
 have hj := AZ hj
 subst hj
 have H := K1
 clear G1 K1
 refine AB ?_
 have H := AZ H
 subst H
 refine AW (.inl Aa) F W Aa (Az F Aa) ?_
 exact ⟨rfl, W.done⟩
theorem Ql : Has Try.prog 21 := ⟨fun args w => Aj Try.func21 rfl (by decide) args w⟩
noncomputable def F7 (p0 : Int × (List (Int × Int × Int × Int × Int × Int)) × (List (Int × Int))) (p1 : Int) (p2 : Int) : Int → Option (Int ⊕ (Unit ⊕ (Int × Int × Int × Bool)))
  | x1 => (if x1 < (p0.2.1.length : Int) then (ix p0.2.1 x1).bind fun x2 => (if (decide (x2.1 = p1) && decide (x2.2.1 = p2)) = true then some (.inr (.inr (x2.2.2.1, x2.2.2.2.1, x1, true))) else (if (decide (x2.2.2.1 = p1) && decide (x2.2.2.2.1 = p2)) = true then some (.inr (.inr (x2.1, x2.2.1, x1, true))) else some (.inl (BM (x1 + 1))))) else some (.inr (.inl ())))
noncomputable def I0 (p0 : Int × (List (Int × Int × Int × Int × Int × Int)) × (List (Int × Int))) (p1 : Int) (p2 : Int) : Option (Int × Int × Int × Bool) := Iu (AN (F7 p0 p1 p2) 0) fun _ => some (0, 0, 0, false)
noncomputable def DD (p0 : Int × (List (Int × Int × Int × Int × Int × Int)) × (List (Int × Int))) (p1 : Int) : ((List (Int × Int × Int)) × Int) → Option (((List (Int × Int × Int)) × Int) ⊕ (List (Int × Int × Int)))
  | (x2, x3) => (if x3 < 8 then ((I0 p0 p1 x3).bind fun x5 => (if x5.2.2.2 = true then (Hm x2 ([(x3, x5.1, x5.2.2.1)] : List (Int × Int × Int))).bind fun x6 => some x6 else some x2)).bind fun x4 => some (.inl (x4, BM (x3 + 1))) else some (.inr x2))
noncomputable def FS (p0 : Int × (List (Int × Int × Int × Int × Int × Int)) × (List (Int × Int))) (p1 : Int) : Option (List (Int × Int × Int)) := (AN (DD p0 p1) ([], 0)).bind fun x1 => some x1
def CE (p0 : Int) : Int := (if 9218868437227405312 < (Int.tmod p0 9223372036854775808) then 9221120237041090561 else p0)
theorem Jg {a : Nat} (h : 9218868437227405312 < a % 9223372036854775808) : CE (a : Int) = CE ((9221120237041090561 : Nat) : Int) := by
  unfold CE
  rw [Int.tmod_eq_emod_of_nonneg (by omega), if_pos (by omega), if_pos (by decide)]
def Ix (p0 : Int) (p1 : Int) : Int := (if (CE (((FB (Int.toNat p0) (Int.toNat p1)) : Nat) : Int)) = 9223372036854775808 then 0 else (CE (((FB (Int.toNat p0) (Int.toNat p1)) : Nat) : Int)))
end Go.Proofs.Ytbogijdfacoccaa
