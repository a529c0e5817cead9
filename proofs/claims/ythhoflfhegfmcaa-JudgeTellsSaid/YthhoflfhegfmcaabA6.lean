/- The functions of layer 25, HU. Conditions: none. -/
import Derived.Test.YthhoflfhegfmcaabA5
namespace Go.Proofs.Ythhoflfhegfmcaa
open Go Go.RowKit
set_option linter.unusedVariables false
set_option linter.unusedSimpArgs false
set_option maxRecDepth 20000
set_option maxHeartbeats 1600000
theorem W6 : Has Try.prog 86 := BS Try.func86
noncomputable def Fk (p1 : List (Int × Int)) (x1 : List Int) (x6 : Int) : (List Int × Int) → Option ((List Int × Int) ⊕ (List Int))
  | (x8, x9) => (if x9 < (x1.length : Int) then (((ix x1 x9).bind fun x12 => (Ig p1 x12 x6).bind fun x13 => (if x13 = true then (JF x8 x6).bind fun x14 => some (!x14) else some false)).bind fun x11 => (if x11 = true then (Fo x8 ([x6] : List Int)).bind fun x15 => some x15 else some x8)).bind fun x10 => some (.inl (x10, A3 (x9 + 1))) else some (.inr x8))
noncomputable def Ff (p0 : Int) (p1 : List (Int × Int)) (x1 : List Int) : (List Int × Int) → Option ((List Int × Int) ⊕ (List Int))
  | (x5, x6) => (if x6 < p0 then (Au (Fk p1 x1 x6) (x5, 0)).bind fun x7 => some (.inl (x7, A3 (x6 + 1))) else some (.inr x5))
noncomputable def EF (p0 : Int) (p1 : List (Int × Int)) (p3 : Int) : (List Int × Int) → Option ((List Int × Int) ⊕ (Unit ⊕ Int))
  | (x1, x2) => (if x2 ≤ p0 then Ep ((Au (Ff p0 p1 x1) ([], 0)).bind fun x4 => (JF x4 p3).bind fun x16 => (if x16 = true then some (.inr (.inr (.inr x2))) else some (.inl x4))) fun x3 => some (.inl (x3, A3 (x2 + 1))) else some (.inr (.inl ())))
noncomputable def H2 (p0 : Int) (p1 : List (Int × Int)) (p2 : Int) (p3 : Int) : Option Int := Ep (Au (EF p0 p1 p3) (([p2] : List Int), 1)) fun _ => some 0
theorem Mb (Y : Nat → Prop) (w0 : World) (v1 : Value) (p0 : Int) (p1 : List (Int × Int)) (p2 : Int) (p3 : Int) (r : Int) (H : H2 p0 p1 p2 p3 = some r) (h_v1 : Sl w0 (NX []) Jz v1 p1) :
    Calls Try.prog 68 #[.int .i64 p0, v1, .int .i64 p2, .int .i64 p3] w0 fun e w' => e = .returned (.int .i64 r) ∧ Below w0.heap.size w0 w' := by
 refine enter Try.func68 Aa Try.ntmps68 Aa fun a F => ?_
 have W := Stw.start Y w0
 unfold H2 at H
 refine vc tk 8 F W fun a w F W => ?_
 refine Cp (z := Value.int .i64 0) (cs := [.int .i64 p2]) (Rp.int .i64) ([p2] : List Int) F W Aa FS Z3 Aa Aa Aa Aa Aa Aa (Fl.int.repL _ _ ([p2] : List Int)) fun v2 a w F W => ?_
 refine vl tk 2 F W fun a w F W => ?_
 refine Ac ?_
 obtain ⟨o1, G1, K1, L1⟩ := I5 H
 refine Aj (fun a w => some (Sum.inl ()) = some o1 ∧ Fr 54 [] [(8, .int .i64 0)] a ∧ Stw ⟨Y, [], w0⟩ [] [] w) ?_ ?_
 ·
  have H := G1
  clear G1 K1
  refine vc tk 6 F W fun a w F W => ?_
  refine AA H (fun s a w => ∃ v3 : Value, Fr 54 [] [(0, .int .i64 p0), (1, v1), (3, .int .i64 p3), (8, .int .i64 0), (9, v3), (10, .int .i64 s.2)] a ∧ Stw ⟨Y, [], w0⟩ [] [row v3 3 (Rp.int .i64) s.1] w) ⟨(v2), F.ra Aa, W⟩ fun s o a w H L2 hR => ?_
  obtain ⟨x1, x2⟩ := s
  obtain ⟨v3, F, W⟩ := hR
  have F : Fr 54 [] [(0, .int .i64 p0), (1, v1), (3, .int .i64 p3), (8, .int .i64 0), (9, v3), (10, .int .i64 x2)] a := F
  have W : Stw ⟨Y, [], w0⟩ [] [row v3 3 (Rp.int .i64) x1] w := W
  rw [EF] at H
  refine vc tk 8 F W fun a w F W => ?_
  refine AN F Aa H (fun F H => ?_) fun F H => ?_
  ·
   refine As (Ac ?_)
   obtain ⟨o3, G3, K3, L3⟩ := I5 H
   refine Aj (fun a w => ∃ x3 : List Int, ∃ v4 : Value, some (Sum.inl x3) = some o3 ∧ Fr 54 [] [(0, .int .i64 p0), (1, v1), (3, .int .i64 p3), (8, .int .i64 0), (9, v4), (10, .int .i64 x2)] a ∧ Stw ⟨Y, [], w0⟩ [] [row v4 3 (Rp.int .i64) x3] w) ?_ ?_
   ·
    have H := G3
    clear G3 K3
    refine vc tk 6 F W fun a w F W => ?_
    obtain ⟨o4, G4, K4⟩ := Ae H
    refine Aj (fun a w => ∃ x4 : List Int, ∃ v5 : Value, some (x4) = some o4 ∧ Fr 54 [] [(0, .int .i64 p0), (1, v1), (3, .int .i64 p3), (8, .int .i64 0), (9, v3), (10, .int .i64 x2), (11, v5)] a ∧ Stw ⟨Y, [], w0⟩ [] [row v3 3 (Rp.int .i64) x1, row v5 3 (Rp.int .i64) x4] w) ?_ ?_
    ·
     have H := G4
     clear G4 K4
     refine vc tk 6 F W fun a w F W => ?_
     have W := W.nilRow 3 (Rp.int .i64)
     have W := W.frontZ (i := 1) Aa Aa
     refine AA H (fun s a w => ∃ v6 : Value, Fr 54 [] [(0, .int .i64 p0), (1, v1), (3, .int .i64 p3), (8, .int .i64 0), (9, v3), (10, .int .i64 x2), (11, v6), (12, .int .i64 s.2)] a ∧ Stw ⟨Y, [], w0⟩ [] [row v3 3 (Rp.int .i64) x1, row v6 3 (Rp.int .i64) s.1] w) ⟨(Value.slice none 0 0), F.ra Aa, W⟩ fun s o a w H L5 hR => ?_
     obtain ⟨x5, x6⟩ := s
     obtain ⟨v6, F, W⟩ := hR
     have F : Fr 54 [] [(0, .int .i64 p0), (1, v1), (3, .int .i64 p3), (8, .int .i64 0), (9, v3), (10, .int .i64 x2), (11, v6), (12, .int .i64 x6)] a := F
     have W : Stw ⟨Y, [], w0⟩ [] [row v3 3 (Rp.int .i64) x1, row v6 3 (Rp.int .i64) x5] w := W
     rw [Ff] at H
     refine vc tk 8 F W fun a w F W => ?_
     refine AN F Aa H (fun F H => ?_) fun F H => ?_
     ·
      refine As (Ac ?_)
      obtain ⟨o6, G6, K6⟩ := Ae H
      refine Aj (fun a w => ∃ x7 : List Int, ∃ v7 : Value, some (x7) = some o6 ∧ Fr 54 [] [(0, .int .i64 p0), (1, v1), (3, .int .i64 p3), (8, .int .i64 0), (9, v3), (10, .int .i64 x2), (11, v7), (12, .int .i64 x6)] a ∧ Stw ⟨Y, [], w0⟩ [] [row v3 3 (Rp.int .i64) x1, row v7 3 (Rp.int .i64) x7] w) ?_ ?_
      ·
       have H := G6
       clear G6 K6
       refine vc tk 7 F W fun a w F W => ?_
       have W := W.frontZ (i := 1) Aa Aa
       have W := W.frontZ (i := 1) Aa Aa
       refine AA H (fun s a w => ∃ v8 : Value, Fr 54 [] [(0, .int .i64 p0), (1, v1), (3, .int .i64 p3), (8, .int .i64 0), (9, v3), (10, .int .i64 x2), (11, v8), (12, .int .i64 x6), (13, .int .i64 s.2)] a ∧ Stw ⟨Y, [], w0⟩ [] [row v3 3 (Rp.int .i64) x1, row v8 3 (Rp.int .i64) s.1] w) ⟨(v6), F.ra Aa, W⟩ fun s o a w H L7 hR => ?_
       obtain ⟨x8, x9⟩ := s
       obtain ⟨v8, F, W⟩ := hR
       have F : Fr 54 [] [(0, .int .i64 p0), (1, v1), (3, .int .i64 p3), (8, .int .i64 0), (9, v3), (10, .int .i64 x2), (11, v8), (12, .int .i64 x6), (13, .int .i64 x9)] a := F
       have W : Stw ⟨Y, [], w0⟩ [] [row v3 3 (Rp.int .i64) x1, row v8 3 (Rp.int .i64) x8] w := W
       rw [Fk] at H
       refine vc tk 5 F W fun a w F W => ?_
       refine ls F W Aa (AR (r := (Rp.int .i64)) (l := x1) Hl Aa F Aa (BE 0 Aa)).q fun a w F W => ?_
       refine Bz tk 3 F W fun a w F W => ?_
       refine AN F Aa H (fun F H => ?_) fun F H => ?_
       ·
        refine As (Ac ?_)
        obtain ⟨o8, G8, K8⟩ := Ae H
        refine Aj (fun a w => ∃ x10 : List Int, ∃ v9 : Value, some (x10) = some o8 ∧ Fr 54 [] [(0, .int .i64 p0), (1, v1), (3, .int .i64 p3), (8, .int .i64 0), (9, v3), (10, .int .i64 x2), (11, v9), (12, .int .i64 x6), (13, .int .i64 x9)] a ∧ Stw ⟨Y, [], w0⟩ [] [row v3 3 (Rp.int .i64) x1, row v9 3 (Rp.int .i64) x10] w) ?_ ?_
        ·
         have H := G8
         clear G8 K8
         refine Gr ?_
         obtain ⟨o9, G9, K9⟩ := Ae H
         refine Aj (fun a w => ∃ x11 : Bool, some (x11) = some o9 ∧ Fr 54 [] [(0, .int .i64 p0), (1, v1), (3, .int .i64 p3), (8, .int .i64 0), (9, v3), (10, .int .i64 x2), (11, v8), (12, .int .i64 x6), (13, .int .i64 x9), (44, .bool x11)] a ∧ Stw ⟨Y, [], w0⟩ [] [row v3 3 (Rp.int .i64) x1, row v8 3 (Rp.int .i64) x8] w) ?_ ?_
         ·
          have H := G9
          clear G9 K9
          refine vc tk 4 F W fun a w F W => ?_
          obtain ⟨x12, h1, H⟩ := Ae H
          refine ls F W Aa (Al (r := (Rp.int .i64)) FS F Aa Aa (BE 0 Aa) h1).q fun a w F W => ?_
          refine ls F W Aa (Ag (y := Value.int .i64 x12) (j := 0) (i := x9) F Aa Aa (BE 0 Aa) h1 Fl.int.to T3 Aa).q fun a w F W => ?_
          refine ls F W Aa (Ak F Aa).q fun a w F W => ?_
          obtain ⟨x13, h2, H⟩ := Ae H
          refine ls F W Aa (AL (v := Value.bool x13) F W4 Aa (fun w W => MJ any w (v1) p1 x12 x6 _ h2 (Ci (Ab h_v1) W))) fun a w F W => ?_
          refine ls F W Aa (Ak F Aa).q fun a w F W => ?_
          rcases Bool.eq_false_or_eq_true x13 with hb | hb
          ·
           have H := B5 hb H
           rw [hb] at F
           clear hb
           refine vl tk 2 F W fun a w F W => ?_
           refine I3 (Ad F Aa Aa Aa Aa) ?_
           obtain ⟨x14, h3, H⟩ := Ae H
           refine ls F W Aa (AL (v := Value.bool x14) F W6 Aa (fun w W => Nh any w (v8) x8 x6 _ h3 (Ci (BE 1 Aa) W))) fun a w F W => ?_
           refine vl tk 3 F W fun a w F W => ?_
           refine Ac ?_
           have W := W.frontZ (i := 1) Aa Aa
           have W := W.frontZ (i := 1) Aa Aa
           exact ⟨_, H, F.ra Aa, W⟩
          have H := B6 (by rw [hb]; decide) H
          rw [hb] at F
          clear hb
          refine vl tk 6 F W fun a w F W => ?_
          refine Ac ?_
          have W := W.frontZ (i := 1) Aa Aa
          have W := W.frontZ (i := 1) Aa Aa
          exact ⟨_, H, F.ra Aa, W⟩
         rintro a w ⟨x11, hj, F, W⟩
         have hj := Av hj
         subst hj
         have H := K9
         clear G9 K9
         refine B0 F Aa H (fun F H => ?_) fun F H => ?_
         ·
          refine vc tk 3 F W fun a w F W => ?_
          refine Cp (z := Value.int .i64 0) (cs := [.int .i64 x6]) (Rp.int .i64) ([x6] : List Int) F W Aa FS Z3 Aa Aa Aa Aa Aa Aa (Fl.int.repL _ _ ([x6] : List Int)) fun v10 a w F W => ?_
          obtain ⟨x15, h4, H⟩ := Ae H
          refine BF (r := (Rp.int .i64)) (i := 2) F W Aa FS Aa Aa Aa Aa (Cr W 0 Aa) h4 Aa fun v11 a w F W => ?_
          have W : Stw ⟨Y, [], w0⟩ [] [row v11 3 (Rp.int .i64) x15, row v10 3 (Rp.int .i64) ([x6] : List Int), row v3 3 (Rp.int .i64) x1] w := W
          refine vl tk 2 F W fun a w F W => ?_
          refine An (Ac ?_)
          have W := W.frontZ (i := 2) Aa Aa
          have W := W.sub (M' := []) (Z' := [row v3 3 (Rp.int .i64) x1, row v11 3 (Rp.int .i64) x15]) (List.Sublist.refl _) (List.Sublist.cons_cons _ (List.Sublist.cons_cons _ (List.nil_sublist _)))
          exact ⟨_, (v11), H, F.ra Aa, W⟩
         refine As (An (Ac ?_))
         have W := W.frontZ (i := 1) Aa Aa
         have W := W.frontZ (i := 1) Aa Aa
         exact ⟨_, (v8), H, F.ra Aa, W⟩
        rintro a w ⟨x10, v9, hj, F, W⟩
        have hj := Av hj
        subst hj
        have H := K8
        clear G8 K8
        refine vc tk 5 F W fun a w F W => ?_
        refine Ac ?_
        have W := W.frontZ (i := 1) Aa Aa
        have W := W.frontZ (i := 1) Aa Aa
        exact ⟨_, H, (v9), F.ra Aa, W⟩
       refine Ay ?_
       iterate 2 refine AO ?_
       refine Az (An (Ac ?_))
       have W := W.frontZ (i := 1) Aa Aa
       have W := W.frontZ (i := 1) Aa Aa
       have H := L7 _ H
       exact ⟨_, (v8), H, F.ra Aa, W⟩
      rintro a w ⟨x7, v7, hj, F, W⟩
      have hj := Av hj
      subst hj
      have H := K6
      clear G6 K6
      refine vc tk 5 F W fun a w F W => ?_
      refine Ac ?_
      have W := W.frontZ (i := 1) Aa Aa
      have W := W.frontZ (i := 1) Aa Aa
      exact ⟨_, H, (v7), F.ra Aa, W⟩
     refine Ay ?_
     iterate 2 refine AO ?_
     refine Az (Ac ?_)
     have W := W.frontZ (i := 1) Aa Aa
     have W := W.frontZ (i := 1) Aa Aa
     have H := L5 _ H
     exact ⟨_, (v6), H, F.ra Aa, W⟩
    rintro a w ⟨x4, v5, hj, F, W⟩
    have hj := Av hj
    subst hj
    have H := K4
    clear G4 K4
    refine vc tk 5 F W fun a w F W => ?_
    obtain ⟨x16, h5, H⟩ := Ae H
    refine ls F W Aa (AL (v := Value.bool x16) F W6 Aa (fun w W => Nh any w (v5) x4 p3 _ h5 (Ci (BE 1 Aa) W))) fun a w F W => ?_
    refine Bz tk 2 F W fun a w F W => ?_
    refine B0 F Aa H (fun F H => ?_) fun F H => ?_
    ·
     refine vc tk 6 F W fun a w F W => ?_
     refine Ao (Aw (Ax ?_))
     iterate 2 refine Aw ?_
     refine Ax (Aw ?_)
     have H := L3 _ H
     have H := L2 _ H
     have H := L1 _ H
     have H := Av H
     subst H
     refine AE (.inl Aa) F W Aa (Ai F Aa) ?_
     exact ⟨rfl, W.done⟩
    refine Gm tk 6 F W fun a w F W => ?_
    refine An (Ac ?_)
    have W := W.frontZ (i := 1) Aa Aa
    have W := W.sub (M' := []) (Z' := [row v5 3 (Rp.int .i64) x4]) (List.Sublist.refl _) (List.Sublist.cons_cons _ (List.nil_sublist _))
    exact ⟨_, (v5), H, F.ra Aa, W⟩
   rintro a w ⟨x3, v4, hj, F, W⟩
   have H := K3 _ hj
   clear hj G3 K3 L3
   refine vc tk 5 F W fun a w F W => ?_
   refine Ac ?_
   exact ⟨_, H, (v4), F.ra Aa, W⟩
  refine Ay ?_
  iterate 2 refine AO ?_
  refine Az (Ac ?_)
  have W := W.sub (M' := []) (Z' := []) (List.Sublist.refl _) (List.nil_sublist _)
  have H := L2 _ H
  exact ⟨H, F.ra Aa, W⟩
 rintro a w ⟨hj, F, W⟩
 have H := K1 _ hj
 clear hj G1 K1 L1
 refine vc tk 5 F W fun a w F W => ?_
 refine Ao ?_
 have H := Av H
 subst H
 refine AE (.inl Aa) F W Aa (Ai F Aa) ?_
 exact ⟨rfl, W.done⟩
theorem WY : Has Try.prog 68 := BS Try.func68
noncomputable def D2 (p0 : Int) (p1 : List (Int × Int)) (x2 : Int) (x5 : Int) (x6 : List Int) : (Int × Int) → Option ((Int × Int) ⊕ Int)
  | (x8, x9) => (if 0 ≤ x9 then (((ix x6 (A3 ((x6.length : Int) - 1))).bind fun x12 => (Ig p1 x12 x9).bind fun x13 => (if x13 = true then (H2 p0 p1 x9 x2).bind fun x14 => some (decide (x14 = (A3 (x5 - 1)))) else some false)).bind fun x11 => (if x11 = true then some x9 else some x8)).bind fun x10 => some (.inl (x10, A3 (x9 - 1))) else some (.inr x8))
noncomputable def Fg (p0 : Int) (p1 : List (Int × Int)) (x2 : Int) : (Int × List Int) → Option ((Int × List Int) ⊕ (List Int))
  | (x5, x6) => (if 1 < x5 then (Au (D2 p0 p1 x2 x5 x6) ((-1), A3 (p0 - 1))).bind fun x7 => (Fo x6 ([x7] : List Int)).bind fun x15 => some (.inl (A3 (x5 - 1), x15)) else some (.inr x6))
noncomputable def HD (p0 : Int) (p1 : List (Int × Int)) : Int → Option (Int ⊕ (Unit ⊕ (List Int)))
  | x2 => (if x2 < p0 then Ep ((H2 p0 p1 x2 x2).bind fun x3 => (if x3 = 0 then some (.inl ()) else (Au (Fg p0 p1 x2) (x3, ([x2] : List Int))).bind fun x4 => some (.inr (.inr (.inr x4))))) fun _ => some (.inl (A3 (x2 + 1))) else some (.inr (.inl ())))
noncomputable def Gn (p0 : Int) (p1 : List (Int × Int)) : Option (List Int) := (H0 p0 p1).bind fun x1 => (if (!x1) = true then some ([] : List Int) else Ep (Au (HD p0 p1) 0) fun _ => some ([] : List Int))
theorem PM (Y : Nat → Prop) (w0 : World) (v1 : Value) (p0 : Int) (p1 : List (Int × Int)) (r : List Int) (H : Gn p0 p1 = some r) (h_v1 : Sl w0 (NX []) Jz v1 p1) :
    Calls Try.prog 49 #[.int .i64 p0, v1] w0 fun e w' => ∃ x : Value, e = .returned (x) ∧ Stw ⟨Y, [], w0⟩ [] [row (x) 3 (Rp.int .i64) r] w' := by
 refine enter Try.func49 Aa Try.ntmps49 Aa fun a F => ?_
 have W := Stw.start Y w0
 unfold Gn at H
 refine vc tk 10 F W fun a w F W => ?_
 obtain ⟨x1, h1, H⟩ := Ae H
 refine ls F W Aa (AL (v := Value.bool x1) F XK Aa (fun w W => Ou any w (v1) p0 p1 _ h1 (Ci (Ab h_v1) W))) fun a w F W => ?_
 refine Bz tk 3 F W fun a w F W => ?_
 refine B0 F Aa H (fun F H => ?_) fun F H => ?_
 ·
  refine vc tk 5 F W fun a w F W => ?_
  refine Ao (Aw ?_)
  have H := Av H
  subst H
  refine AE (.inl Aa) F W Aa (Ai F Aa) ?_
  have W := W.nilRow 3 (Rp.int .i64)
  exact ⟨(Value.slice none 0 0), Aa, W⟩
 refine As (Ac ?_)
 obtain ⟨o1, G1, K1, L1⟩ := I5 H
 refine Aj (fun a w => some (Sum.inl ()) = some o1 ∧ Fr 62 [] [(4, .slice none 0 0)] a ∧ Stw ⟨Y, [], w0⟩ [] [] w) ?_ ?_
 ·
  have H := G1
  clear G1 K1
  refine vc tk 6 F W fun a w F W => ?_
  refine AA H (fun s a w => Fr 62 [] [(0, .int .i64 p0), (1, v1), (4, .slice none 0 0), (5, .int .i64 s)] a ∧ Stw ⟨Y, [], w0⟩ [] [] w) ⟨F.ra Aa, W⟩ fun s o a w H L2 hR => ?_
  obtain ⟨x2, rfl⟩ : ∃ x, x = s := ⟨s, rfl⟩
  obtain ⟨F, W⟩ := hR
  have F : Fr 62 [] [(0, .int .i64 p0), (1, v1), (4, .slice none 0 0), (5, .int .i64 x2)] a := F
  have W : Stw ⟨Y, [], w0⟩ [] [] w := W
  rw [HD] at H
  refine vc tk 8 F W fun a w F W => ?_
  refine AN F Aa H (fun F H => ?_) fun F H => ?_
  ·
   refine As (Ac ?_)
   obtain ⟨o3, G3, K3, L3⟩ := I5 H
   refine Aj (fun a w => some (Sum.inl ()) = some o3 ∧ Fr 62 [] [(0, .int .i64 p0), (1, v1), (4, .slice none 0 0), (5, .int .i64 x2)] a ∧ Stw ⟨Y, [], w0⟩ [] [] w) ?_ ?_
   ·
    have H := G3
    clear G3 K3
    refine vc tk 7 F W fun a w F W => ?_
    obtain ⟨x3, h2, H⟩ := Ae H
    refine ls F W Aa (AL (v := Value.int .i64 x3) F WY Aa (fun w W => Mb any w (v1) p0 p1 x2 x2 _ h2 (Ci (Ab h_v1) W))) fun a w F W => ?_
    refine Bz tk 10 F W fun a w F W => ?_
    refine AN F Aa H (fun F H => ?_) fun F H => ?_
    ·
     refine Ay (AO (Az (Ac ?_)))
     exact ⟨H, F.ra Aa, W⟩
    refine Gm tk 5 F W fun a w F W => ?_
    refine Cp (z := Value.int .i64 0) (cs := [.int .i64 x2]) (Rp.int .i64) ([x2] : List Int) F W Aa FS Z3 Aa Aa Aa Aa Aa Aa (Fl.int.repL _ _ ([x2] : List Int)) fun v2 a w F W => ?_
    refine vl tk 2 F W fun a w F W => ?_
    refine Ac ?_
    obtain ⟨o4, G4, K4⟩ := Ae H
    refine Aj (fun a w => ∃ x4 : List Int, ∃ v3 : Value, some (x4) = some o4 ∧ Fr 62 [] [(0, .int .i64 p0), (1, v1), (4, .slice none 0 0), (5, .int .i64 x2), (7, v3)] a ∧ Stw ⟨Y, [], w0⟩ [] [row v3 3 (Rp.int .i64) x4] w) ?_ ?_
    ·
     have H := G4
     clear G4 K4
     refine Gr ?_
     refine AA H (fun s a w => ∃ v4 : Value, Fr 62 [] [(0, .int .i64 p0), (1, v1), (4, .slice none 0 0), (5, .int .i64 x2), (6, .int .i64 s.1), (7, v4)] a ∧ Stw ⟨Y, [], w0⟩ [] [row v4 3 (Rp.int .i64) s.2] w) ⟨(v2), F.ra Aa, W⟩ fun s o a w H L5 hR => ?_
     obtain ⟨x5, x6⟩ := s
     obtain ⟨v4, F, W⟩ := hR
     have F : Fr 62 [] [(0, .int .i64 p0), (1, v1), (4, .slice none 0 0), (5, .int .i64 x2), (6, .int .i64 x5), (7, v4)] a := F
     have W : Stw ⟨Y, [], w0⟩ [] [row v4 3 (Rp.int .i64) x6] w := W
     rw [Fg] at H
     refine vc tk 7 F W fun a w F W => ?_
     refine AN F Aa H (fun F H => ?_) fun F H => ?_
     ·
      refine Gm tk 15 F W fun a w F W => ?_
      obtain ⟨o6, G6, K6⟩ := Ae H
      refine Aj (fun a w => ∃ x7 : Int, some (x7) = some o6 ∧ Fr 62 [] [(0, .int .i64 p0), (1, v1), (4, .slice none 0 0), (5, .int .i64 x2), (6, .int .i64 (A3 (x5 - 1))), (7, v4), (8, .int .i64 x7)] a ∧ Stw ⟨Y, [], w0⟩ [] [row v4 3 (Rp.int .i64) x6] w) ?_ ?_
      ·
       have H := G6
       clear G6 K6
       refine vc tk 8 F W fun a w F W => ?_
       refine AA H (fun s a w => Fr 62 [] [(0, .int .i64 p0), (1, v1), (4, .slice none 0 0), (5, .int .i64 x2), (6, .int .i64 (A3 (x5 - 1))), (7, v4), (8, .int .i64 s.1), (9, .int .i64 s.2)] a ∧ Stw ⟨Y, [], w0⟩ [] [row v4 3 (Rp.int .i64) x6] w) ⟨F.ra Aa, W⟩ fun s o a w H L7 hR => ?_
       obtain ⟨x8, x9⟩ := s
       obtain ⟨F, W⟩ := hR
       have F : Fr 62 [] [(0, .int .i64 p0), (1, v1), (4, .slice none 0 0), (5, .int .i64 x2), (6, .int .i64 (A3 (x5 - 1))), (7, v4), (8, .int .i64 x8), (9, .int .i64 x9)] a := F
       have W : Stw ⟨Y, [], w0⟩ [] [row v4 3 (Rp.int .i64) x6] w := W
       rw [D2] at H
       refine vc tk 7 F W fun a w F W => ?_
       refine AN F Aa H (fun F H => ?_) fun F H => ?_
       ·
        refine As (Ac ?_)
        obtain ⟨o8, G8, K8⟩ := Ae H
        refine Aj (fun a w => ∃ x10 : Int, some (x10) = some o8 ∧ Fr 62 [] [(0, .int .i64 p0), (1, v1), (4, .slice none 0 0), (5, .int .i64 x2), (6, .int .i64 (A3 (x5 - 1))), (7, v4), (8, .int .i64 x10), (9, .int .i64 x9)] a ∧ Stw ⟨Y, [], w0⟩ [] [row v4 3 (Rp.int .i64) x6] w) ?_ ?_
        ·
         have H := G8
         clear G8 K8
         refine Gr ?_
         obtain ⟨o9, G9, K9⟩ := Ae H
         refine Aj (fun a w => ∃ x11 : Bool, some (x11) = some o9 ∧ Fr 62 [] [(0, .int .i64 p0), (1, v1), (4, .slice none 0 0), (5, .int .i64 x2), (6, .int .i64 (A3 (x5 - 1))), (7, v4), (8, .int .i64 x8), (9, .int .i64 x9), (55, .bool x11)] a ∧ Stw ⟨Y, [], w0⟩ [] [row v4 3 (Rp.int .i64) x6] w) ?_ ?_
         ·
          have H := G9
          clear G9 K9
          refine vc tk 4 F W fun a w F W => ?_
          refine ls F W Aa (AR (r := (Rp.int .i64)) (l := x6) Hl Aa F Aa (BE 0 Aa)).q fun a w F W => ?_
          refine ls F W Aa (OT F Aa Aa Aa).q fun a w F W => ?_
          obtain ⟨x12, h3, H⟩ := Ae H
          refine ls F W Aa (Al (r := (Rp.int .i64)) FS F Aa Aa (BE 0 Aa) h3).q fun a w F W => ?_
          refine ls F W Aa (Ag (y := Value.int .i64 x12) (j := 0) (i := A3 ((x6.length : Int) - 1)) F Aa Aa (BE 0 Aa) h3 Fl.int.to T3 Aa).q fun a w F W => ?_
          refine ls F W Aa (Ak F Aa).q fun a w F W => ?_
          obtain ⟨x13, h4, H⟩ := Ae H
          refine ls F W Aa (AL (v := Value.bool x13) F W4 Aa (fun w W => MJ any w (v1) p1 x12 x9 _ h4 (Ci (Ab h_v1) W))) fun a w F W => ?_
          refine ls F W Aa (Ak F Aa).q fun a w F W => ?_
          rcases Bool.eq_false_or_eq_true x13 with hb | hb
          ·
           have H := B5 hb H
           rw [hb] at F
           clear hb
           refine vl tk 4 F W fun a w F W => ?_
           refine I3 (Ad F Aa Aa Aa Aa) ?_
           obtain ⟨x14, h5, H⟩ := Ae H
           refine ls F W Aa (AL (v := Value.int .i64 x14) F WY Aa (fun w W => Mb any w (v1) p0 p1 x9 x2 _ h5 (Ci (Ab h_v1) W))) fun a w F W => ?_
           refine vl tk 4 F W fun a w F W => ?_
           refine Ac ?_
           exact ⟨_, H, F.ra Aa, W⟩
          have H := B6 (by rw [hb]; decide) H
          rw [hb] at F
          clear hb
          refine vl tk 9 F W fun a w F W => ?_
          refine Ac ?_
          exact ⟨_, H, F.ra Aa, W⟩
         rintro a w ⟨x11, hj, F, W⟩
         have hj := Av hj
         subst hj
         have H := K9
         clear G9 K9
         refine B0 F Aa H (fun F H => ?_) fun F H => ?_
         ·
          refine vc tk 4 F W fun a w F W => ?_
          refine An (Ac ?_)
          exact ⟨_, H, F.ra Aa, W⟩
         refine As (An (Ac ?_))
         exact ⟨_, H, F.ra Aa, W⟩
        rintro a w ⟨x10, hj, F, W⟩
        have hj := Av hj
        subst hj
        have H := K8
        clear G8 K8
        refine vc tk 5 F W fun a w F W => ?_
        refine Ac ?_
        exact ⟨_, H, F.ra Aa, W⟩
       refine Ay ?_
       iterate 2 refine AO ?_
       refine Az (Ac ?_)
       have H := L7 _ H
       exact ⟨_, H, F.ra Aa, W⟩
      rintro a w ⟨x7, hj, F, W⟩
      have hj := Av hj
      subst hj
      have H := K6
      clear G6 K6
      refine vc tk 3 F W fun a w F W => ?_
      refine Cp (z := Value.int .i64 0) (cs := [.int .i64 x7]) (Rp.int .i64) ([x7] : List Int) F W Aa FS Z3 Aa Aa Aa Aa Aa Aa (Fl.int.repL _ _ ([x7] : List Int)) fun v5 a w F W => ?_
      obtain ⟨x15, h6, H⟩ := Ae H
      refine BF (r := (Rp.int .i64)) (i := 1) F W Aa FS Aa Aa Aa Aa (Cr W 0 Aa) h6 Aa fun v6 a w F W => ?_
      have W : Stw ⟨Y, [], w0⟩ [] [row v6 3 (Rp.int .i64) x15, row v5 3 (Rp.int .i64) ([x7] : List Int)] w := W
      refine vl tk 2 F W fun a w F W => ?_
      refine An (Ac ?_)
      have W := W.sub (M' := []) (Z' := [row v6 3 (Rp.int .i64) x15]) (List.Sublist.refl _) (List.Sublist.cons_cons _ (List.nil_sublist _))
      exact ⟨_, H, (v6), F.ra Aa, W⟩
     refine Ay ?_
     iterate 2 refine AO ?_
     refine Az (Ac ?_)
     have H := L5 _ H
     exact ⟨_, (v4), H, F.ra Aa, W⟩
    rintro a w ⟨x4, v3, hj, F, W⟩
    have hj := Av hj
    subst hj
    have H := K4
    clear G4 K4
    refine vc tk 6 F W fun a w F W => ?_
    refine Ao (Ax ?_)
    iterate 2 refine Aw ?_
    refine Ax (Aw ?_)
    have H := L3 _ H
    have H := L2 _ H
    have H := L1 _ H
    have H := Av H
    subst H
    refine AE (.inl Aa) F W Aa (Ai F Aa) ?_
    exact ⟨(v3), Aa, W⟩
   rintro a w ⟨hj, F, W⟩
   have H := K3 _ hj
   clear hj G3 K3 L3
   refine vc tk 5 F W fun a w F W => ?_
   refine Ac ?_
   exact ⟨_, H, F.ra Aa, W⟩
  refine Ay ?_
  iterate 2 refine AO ?_
  refine Az (Ac ?_)
  have H := L2 _ H
  exact ⟨H, F.ra Aa, W⟩
 rintro a w ⟨hj, F, W⟩
 have H := K1 _ hj
 clear hj G1 K1 L1
 refine vc tk 5 F W fun a w F W => ?_
 refine Ao ?_
 have H := Av H
 subst H
 refine AE (.inl Aa) F W Aa (Ai F Aa) ?_
 have W := W.nilRow 3 (Rp.int .i64)
 exact ⟨(Value.slice none 0 0), Aa, W⟩
theorem Xc : Has Try.prog 49 := BS Try.func49
noncomputable def Fe (p0 : Int × (List (Int × Int × Int × Int × Int × Int)) × (List (Int × Int))) (p4 : Int) (x5 : Int) (x8 : List Int) : ((List (Int × Int)) × Bool × Int) → Option (((List (Int × Int)) × Bool × Int) ⊕ ((List (Int × Int)) × Bool))
  | (x9, x10, x11) => (if x11 < (x8.length : Int) then ((ix x8 x11).bind fun x14 => (Hq p0 x5 x14).bind fun x15 => (if x15.2.2.2 = true then (Fo x9 ([(x5, x15.1)] : List (Int × Int))).bind fun x18 => some (x18, true) else some (x9, false)).bind fun (x16, x17) => (if (!x17) = true then (ix p0.2.2 p4).bind fun x20 => (if x20.1 ≠ x5 then some true else (ix p0.2.2 p4).bind fun x21 => (ix x8 x11).bind fun x22 => some (decide (x21.2 ≠ x22))) else some false).bind fun x19 => (if x19 = true then some (x16, true) else some (x16, x10))).bind fun (x12, x13) => some (.inl (x12, x13, A3 (x11 + 1))) else some (.inr (x9, x10)))
noncomputable def Gs (p0 : Int × (List (Int × Int × Int × Int × Int × Int)) × (List (Int × Int))) (p1 : List (List Int)) (p2 : (List (Int × Int × Int × Int)) × (List (Int × Int × List Int)) × Int × Int × Int × Int) (p3 : Int) (p4 : Int) : ((List (Int × Int)) × Bool × Int) → Option (((List (Int × Int)) × Bool × Int) ⊕ ((List (Int × Int)) × Bool))
  | (x3, x4, x5) => (if x5 < p0.1 then ((GZ p1 p2 p3 x5 p4).bind fun x8 => Au (Fe p0 p4 x5 x8) (x3, x4, 0)).bind fun (x6, x7) => some (.inl (x6, x7, A3 (x5 + 1))) else some (.inr (x3, x4)))
noncomputable def Jo (p0 : Int × (List (Int × Int × Int × Int × Int × Int)) × (List (Int × Int))) (p1 : List (List Int)) (p2 : (List (Int × Int × Int × Int)) × (List (Int × Int × List Int)) × Int × Int × Int × Int) (p3 : Int) (p4 : Int) : Option (List (Int × Int × Int)) := (Au (Gs p0 p1 p2 p3 p4) ([], false, 0)).bind fun (x1, x2) => (if x2 = true then (Fo ([] : List (Int × Int × Int)) ([(5, p3, p4)] : List (Int × Int × Int))).bind fun x24 => some x24 else some ([])).bind fun x23 => ((Gn p0.1 x1).bind fun x26 => (if 0 < (x26.length : Int) then (Fo x23 ([(6, p3, p4)] : List (Int × Int × Int))).bind fun x27 => some x27 else some x23)).bind fun x25 => some x25
theorem PV (Y : Nat → Prop) (w0 : World) (v1 : Value) (v2 : Value) (v3 : Value) (v4 : Value) (v5 : Value) (p0 : Int × (List (Int × Int × Int × Int × Int × Int)) × (List (Int × Int))) (p1 : List (List Int)) (p2 : (List (Int × Int × Int × Int)) × (List (Int × Int × List Int)) × Int × Int × Int × Int) (p3 : Int) (p4 : Int) (r : (List (Int × Int × Int))) (H : Jo p0 p1 p2 p3 p4 = some r) (h_v1 : Sl w0 (NX []) Er v1 p0.2.1) (h_v2 : Sl w0 (NX []) Ec v2 p0.2.2) (h_v3 : Sl w0 (NX []) (Rp.slice (Rp.int .i64)) v3 p1) (h_v4 : Sl w0 (NX []) I6 v4 p2.1) (h_v5 : Sl w0 (NX []) MK v5 p2.2.1) :
    Calls Try.prog 26 #[.agg #[.int .i64 p0.1, v1, v2], v3, .agg #[v4, v5, .int .i64 p2.2.2.1, .int .i64 p2.2.2.2.1, .int .i64 p2.2.2.2.2.1, .int .i64 p2.2.2.2.2.2], .int .i64 p3, .int .i64 p4] w0 fun e w' => ∃ x : Value, e = .returned (x) ∧ Stw ⟨Y, [], w0⟩ [] [row (x) 59 Dk r] w' := by
 refine enter Try.func26 Aa Try.ntmps26 Aa fun a F => ?_
 have W := Stw.start Y w0
 obtain ⟨v6, h1, h_v3⟩ := h_v3.ex Bh
 obtain ⟨v7, h2, h_v5⟩ := h_v5.ex Fp
 unfold Jo at H
 refine vc tk 2 F W fun a w F W => ?_
 refine Bq (cs := [.int .i64 p0.1, v1, v2]) F W Aa Aa Aa fun b1 a w F W => ?_
 refine Bq (cs := [v4, v5, .int .i64 p2.2.2.1, .int .i64 p2.2.2.2.1, .int .i64 p2.2.2.2.2.1, .int .i64 p2.2.2.2.2.2]) F W Aa Aa Aa fun b2 a w F W => ?_
 refine Bz tk 18 F W fun a w F W => ?_
 obtain ⟨o1, G1, K1⟩ := Ae H
 refine Aj (fun a w => ∃ x1 : List (Int × Int), ∃ x2 : Bool, ∃ v8 : Value, some ((x1, x2)) = some o1 ∧ Fr 103 [] [(3, .int .i64 p3), (4, .int .i64 p4), (5, .pointer (some ⟨b1, 0, none⟩)), (10, .slice none 0 0), (11, v8), (12, .slice none 0 0), (13, .bool x2)] a ∧ Stw ⟨Y, [], w0⟩ (Cf b2 v4 v5 p2 b1 p0 v1 v2) [row v8 98 Jz x1] w) ?_ ?_
 ·
  have H := G1
  clear G1 K1
  refine vc tk 6 F W fun a w F W => ?_
  have W := W.nilRow 98 Jz
  have W := W.frontM (i := 1) Aa Aa
  have W := W.frontM (i := 1) Aa Aa
  refine AA H (fun s a w => ∃ v9 : Value, Fr 103 [] [(1, v3), (3, .int .i64 p3), (4, .int .i64 p4), (5, .pointer (some ⟨b1, 0, none⟩)), (7, .pointer (some ⟨b2, 0, none⟩)), (10, .slice none 0 0), (11, v9), (12, .slice none 0 0), (13, .bool s.2.1), (14, .int .i64 s.2.2)] a ∧ Stw ⟨Y, [], w0⟩ (Cf b2 v4 v5 p2 b1 p0 v1 v2) [row v9 98 Jz s.1] w) ⟨(Value.slice none 0 0), F.ra Aa, W⟩ fun s o a w H L2 hR => ?_
  obtain ⟨x3, x4, x5⟩ := s
  obtain ⟨v9, F, W⟩ := hR
  have F : Fr 103 [] [(1, v3), (3, .int .i64 p3), (4, .int .i64 p4), (5, .pointer (some ⟨b1, 0, none⟩)), (7, .pointer (some ⟨b2, 0, none⟩)), (10, .slice none 0 0), (11, v9), (12, .slice none 0 0), (13, .bool x4), (14, .int .i64 x5)] a := F
  have W : Stw ⟨Y, [], w0⟩ (Cf b2 v4 v5 p2 b1 p0 v1 v2) [row v9 98 Jz x3] w := W
  rw [Gs] at H
  refine D3 tk 9 [1] F W (ai fun a w F W => ?_)
  refine AN F Aa H (fun F H => ?_) fun F H => ?_
  ·
   refine As (Ac ?_)
   obtain ⟨o3, G3, K3⟩ := Ae H
   refine Aj (fun a w => ∃ x6 : List (Int × Int), ∃ x7 : Bool, ∃ v10 : Value, some ((x6, x7)) = some o3 ∧ Fr 103 [] [(1, v3), (3, .int .i64 p3), (4, .int .i64 p4), (5, .pointer (some ⟨b1, 0, none⟩)), (7, .pointer (some ⟨b2, 0, none⟩)), (10, .slice none 0 0), (11, v10), (12, .slice none 0 0), (13, .bool x7), (14, .int .i64 x5)] a ∧ Stw ⟨Y, [], w0⟩ (Cf b2 v4 v5 p2 b1 p0 v1 v2) [row v10 98 Jz x6] w) ?_ ?_
   ·
    have H := G3
    clear G3 K3
    refine D3 tk 8 [0] F W (ai fun a w F W => ?_)
    obtain ⟨x8, h3, H⟩ := Ae H
    refine Cv (Ml := []) (Zl := []) (β := Value) (rv := fun x => x) (MM := fun x => []) (ZZ := fun x => [row x 3 (Rp.int .i64) x8]) F W Yr Aa Aa (fun hL => O5 _ w (v3) (v4) (v5) p1 p2 p3 x5 p4 _ h3 ((Aq Bh h1 (Ab h_v3)) w W).nx ((Ab h_v4) w W).nx ((Aq Fp h2 (Ab h_v5)) w W).nx) fun x a w F W => ?_
    obtain ⟨v11, rfl⟩ : ∃ y, y = x := ⟨x, rfl⟩
    have W : Stw ⟨Y, [], w0⟩ (Cf b2 v4 v5 p2 b1 p0 v1 v2) [row v11 3 (Rp.int .i64) x8, row v9 98 Jz x3] w := W
    refine Bz tk 9 F W fun a w F W => ?_
    have W := W.frontZ (i := 1) Aa Aa
    have W := W.frontM (i := 1) Aa Aa
    have W := W.frontM (i := 1) Aa Aa
    refine AA H (fun s a w => ∃ v12 : Value, Fr 103 [] [(1, v3), (3, .int .i64 p3), (4, .int .i64 p4), (5, .pointer (some ⟨b1, 0, none⟩)), (7, .pointer (some ⟨b2, 0, none⟩)), (10, .slice none 0 0), (11, v12), (12, .slice none 0 0), (13, .bool s.2.1), (14, .int .i64 x5), (15, v11), (16, .int .i64 s.2.2)] a ∧ Stw ⟨Y, [], w0⟩ (Cf b2 v4 v5 p2 b1 p0 v1 v2) [row v12 98 Jz s.1, row v11 3 (Rp.int .i64) x8] w) ⟨(v9), F.ra Aa, W⟩ fun s o a w H L4 hR => ?_
    obtain ⟨x9, x10, x11⟩ := s
    obtain ⟨v12, F, W⟩ := hR
    have F : Fr 103 [] [(1, v3), (3, .int .i64 p3), (4, .int .i64 p4), (5, .pointer (some ⟨b1, 0, none⟩)), (7, .pointer (some ⟨b2, 0, none⟩)), (10, .slice none 0 0), (11, v12), (12, .slice none 0 0), (13, .bool x10), (14, .int .i64 x5), (15, v11), (16, .int .i64 x11)] a := F
    have W : Stw ⟨Y, [], w0⟩ (Cf b2 v4 v5 p2 b1 p0 v1 v2) [row v12 98 Jz x9, row v11 3 (Rp.int .i64) x8] w := W
    rw [Fe] at H
    refine vc tk 5 F W fun a w F W => ?_
    refine ls F W Aa (AR (r := (Rp.int .i64)) (l := x8) Hl Aa F Aa (BE 1 Aa)).q fun a w F W => ?_
    refine Bz tk 3 F W fun a w F W => ?_
    refine AN F Aa H (fun F H => ?_) fun F H => ?_
    ·
     refine As (Ac ?_)
     obtain ⟨o5, G5, K5⟩ := Ae H
     refine Aj (fun a w => ∃ x12 : List (Int × Int), ∃ x13 : Bool, ∃ v13 : Value, some ((x12, x13)) = some o5 ∧ Fr 103 [] [(1, v3), (3, .int .i64 p3), (4, .int .i64 p4), (5, .pointer (some ⟨b1, 0, none⟩)), (7, .pointer (some ⟨b2, 0, none⟩)), (10, .slice none 0 0), (11, v13), (12, .slice none 0 0), (13, .bool x13), (14, .int .i64 x5), (15, v11), (16, .int .i64 x11)] a ∧ Stw ⟨Y, [], w0⟩ (Cf b2 v4 v5 p2 b1 p0 v1 v2) [row v13 98 Jz x12, row v11 3 (Rp.int .i64) x8] w) ?_ ?_
     ·
      have H := G5
      clear G5 K5
      refine vc tk 2 F W fun a w F W => ?_
      refine Bi W MO (by kernel_rfl) ?_
      refine qs F Aa (AK (v := Value.agg #[.int .i64 p0.1, v1, v2]) 1 F Aa Aa R8 Aa).q fun a F => ?_
      iterate 3 refine qs F Aa (Ak F Aa).q fun a F => ?_
      obtain ⟨x14, h4, H⟩ := Ae H
      refine qs F Aa (Al (r := (Rp.int .i64)) FS F Aa Aa (BE 1 Aa) h4).q fun a F => ?_
      refine qs F Aa (Ag (y := Value.int .i64 x14) (j := 0) (i := x11) F Aa Aa (BE 1 Aa) h4 Fl.int.to T3 Aa).q fun a F => ?_
      obtain ⟨x15, h5, H⟩ := Ae H
      refine qs F Aa (AL (v := Value.tuple #[.int .i64 x15.1, .int .i64 x15.2.1, .int .i64 x15.2.2.1, .bool x15.2.2.2]) F W0 Aa (fun w W => Me any w (v1) (v2) p0 x5 x14 _ h5 (Ci (Ab h_v1) W) (Ci (Ab h_v2) W))) fun a F => ?_
      refine qs F Aa (Ak F Aa).q fun a F => ?_
      refine qs F Aa (A9 (v := Value.int .i64 x15.1) F Aa Aa).q fun a F => ?_
      refine qs F Aa (A9 (v := Value.int .i64 x15.2.1) F Aa Aa).q fun a F => ?_
      refine qs F Aa (A9 (v := Value.int .i64 x15.2.2.1) F Aa Aa).q fun a F => ?_
      refine qs F Aa (A9 (v := Value.bool x15.2.2.2) F Aa Aa).q fun a F => ?_
      iterate 4 refine qs F Aa (Bl F Aa).q fun a F => ?_
      refine AB fun w W => ?_
      refine Ac ?_
      obtain ⟨o6, G6, K6⟩ := Ae H
      refine Aj (fun a w => ∃ x16 : List (Int × Int), ∃ x17 : Bool, ∃ v14 : Value, some ((x16, x17)) = some o6 ∧ Fr 103 [] [(1, v3), (3, .int .i64 p3), (4, .int .i64 p4), (5, .pointer (some ⟨b1, 0, none⟩)), (7, .pointer (some ⟨b2, 0, none⟩)), (10, .slice none 0 0), (11, v14), (12, .slice none 0 0), (13, .bool x10), (14, .int .i64 x5), (15, v11), (16, .int .i64 x11), (20, .bool x17)] a ∧ Stw ⟨Y, [], w0⟩ (Cf b2 v4 v5 p2 b1 p0 v1 v2) [row v14 98 Jz x16, row v11 3 (Rp.int .i64) x8] w) ?_ ?_
      ·
       have H := G6
       clear G6 K6
       refine vc tk 5 F W fun a w F W => ?_
       refine GC F Aa (fun hb => ?_) fun hb => ?_
       ·
        have H := B5 hb H
        rw [hb] at F
        clear hb
        refine vc tk 4 F W fun a w F W => ?_
        refine ls F W Aa (Bx (v := Value.agg #[.int .i64 x5, .int .i64 x15.1]) X5 F Aa Aa Aa).q fun a w F W => ?_
        refine Cp (z := Value.agg #[.int .i64 0, .int .i64 0]) (cs := [.int .i64 x5, .int .i64 x15.1]) Jz ([(x5, x15.1)] : List (Int × Int)) F W Aa T6 XX Aa Aa Aa Aa Aa Aa (Ul.repL _ _ ([(x5, x15.1)] : List (Int × Int))) fun v15 a w F W => ?_
        obtain ⟨x18, h6, H⟩ := Ae H
        refine BF (r := Jz) (i := 1) F W Aa T6 Aa Aa Aa Aa (Cr W 0 Aa) h6 Aa fun v16 a w F W => ?_
        have W : Stw ⟨Y, [], w0⟩ (Cf b2 v4 v5 p2 b1 p0 v1 v2) [row v16 98 Jz x18, row v15 98 Jz ([(x5, x15.1)] : List (Int × Int)), row v11 3 (Rp.int .i64) x8] w := W
        refine vl tk 2 F W fun a w F W => ?_
        refine Ac ?_
        have W := W.frontZ (i := 2) Aa Aa
        have W := W.frontZ (i := 1) Aa Aa
        have W := W.frontM (i := 1) Aa Aa
        have W := W.frontM (i := 1) Aa Aa
        have W := W.sub (M' := (Cf b2 v4 v5 p2 b1 p0 v1 v2)) (Z' := [row v16 98 Jz x18, row v11 3 (Rp.int .i64) x8]) (List.Sublist.refl _) (List.Sublist.cons_cons _ (List.Sublist.cons_cons _ (List.nil_sublist _)))
        exact ⟨_, _, (v16), H, F.ra Aa, W⟩
       have H := B6 (by rw [hb]; decide) H
       rw [hb] at F
       clear hb
       refine As (Ac ?_)
       have W := W.frontZ (i := 1) Aa Aa
       have W := W.frontZ (i := 1) Aa Aa
       have W := W.frontM (i := 1) Aa Aa
       have W := W.frontM (i := 1) Aa Aa
       exact ⟨_, _, (v12), H, F.ra Aa, W⟩
      rintro a w ⟨x16, x17, v14, hj, F, W⟩
      have hj := Av hj
      subst hj
      have H := K6
      clear G6 K6
      obtain ⟨o7, G7, K7⟩ := Ae H
      refine Aj (fun a w => ∃ x19 : Bool, some (x19) = some o7 ∧ Fr 103 [] [(1, v3), (3, .int .i64 p3), (4, .int .i64 p4), (5, .pointer (some ⟨b1, 0, none⟩)), (7, .pointer (some ⟨b2, 0, none⟩)), (10, .slice none 0 0), (11, v14), (12, .slice none 0 0), (13, .bool x10), (14, .int .i64 x5), (15, v11), (16, .int .i64 x11), (82, .bool x19)] a ∧ Stw ⟨Y, [], w0⟩ (Cf b2 v4 v5 p2 b1 p0 v1 v2) [row v14 98 Jz x16, row v11 3 (Rp.int .i64) x8] w) ?_ ?_
      ·
       have H := G7
       clear G7 K7
       refine Bi W MO (by kernel_rfl) ?_
       refine qs F Aa (Ak F Aa).q fun a F => ?_
       refine qs F Aa (MF F Aa).q fun a F => ?_
       refine qs F Aa (Ak F Aa).q fun a F => ?_
       rcases Bool.eq_false_or_eq_true (!x17) with hb | hb
       ·
        have H := B5 hb H
        rw [hb] at F
        clear hb
        refine AH F (Ad F Aa Aa Aa Aa) Aa (Ah Aa) (Af MR Aa Aa Aa P1 F Aa 2 Aa).q fun a F => ?_
        refine AH F (Ad F Aa Aa Aa Aa) Aa (Ah Aa) (AK (v := v2) 1 F Aa Aa P1 Aa).q fun a F => ?_
        refine AH F (Ad F Aa Aa Aa Aa) Aa (Ah Aa) (Ak F Aa).q fun a F => ?_
        obtain ⟨x20, h7, H⟩ := Ae H
        refine AH F (Ad F Aa Aa Aa Aa) Aa (Ah Aa) (Al (r := Ec) SF F Aa Aa (Ab h_v2) h7).q fun a F => ?_
        refine AH F (Ad F Aa Aa Aa Aa) Aa (Ah Aa) (Af MQ Aa Aa Aa T3 F Aa (CS v2 + (p4).toNat * 2) Aa).q fun a F => ?_
        refine AH F (Ad F Aa Aa Aa Aa) Aa (Ah Aa) (Ag (y := Value.int .i64 x20.1) (j := 0) (i := p4) F Aa Aa (Ab h_v2) h7 Sc.to T3 Aa).q fun a F => ?_
        refine AH F (Ad F Aa Aa Aa Aa) Aa (Ah Aa) (Ak F Aa).q fun a F => ?_
        refine AH F (Ad F Aa Aa Aa Aa) Aa (Ah Aa) (IU F Aa Aa).q fun a F => ?_
        refine AH F (Ad F Aa Aa Aa Aa) Aa (Ah Aa) (Ak F Aa).q fun a F => ?_
        rcases Bool.eq_false_or_eq_true (decide (x20.1 ≠ x5)) with hb | hb
        ·
         have H := B5 (CT hb) H
         rw [hb] at F
         clear hb
         iterate 11 refine Bg F (A1 F Aa Aa Aa Aa Aa) Aa Aa fun a F => ?_
         refine AH F (Ad F Aa Aa Aa Aa) Aa (Ah Aa) (Be F Aa Aa Aa).q fun a F => ?_
         refine qs F Aa (Be F Aa Aa Aa).q fun a F => ?_
         refine AB fun w W => ?_
         refine Ac ?_
         have W := W.frontZ (i := 1) Aa Aa
         have W := W.frontZ (i := 1) Aa Aa
         have W := W.frontM (i := 1) Aa Aa
         have W := W.frontM (i := 1) Aa Aa
         exact ⟨_, H, F.ra Aa, W⟩
        have H := B6 (CV hb) H
        rw [hb] at F
        clear hb
        refine AH F (Ad F Aa Aa Aa Aa) Aa (Ah Aa) (Af MR Aa Aa Aa P1 F Aa 2 Aa).q fun a F => ?_
        refine AH F (Ad F Aa Aa Aa Aa) Aa (Ah Aa) (AK (v := v2) 1 F Aa Aa P1 Aa).q fun a F => ?_
        refine AH F (Ad F Aa Aa Aa Aa) Aa (Ah Aa) (Ak F Aa).q fun a F => ?_
        obtain ⟨x21, h8, H⟩ := Ae H
        refine AH F (Ad F Aa Aa Aa Aa) Aa (Ah Aa) (Al (r := Ec) SF F Aa Aa (Ab h_v2) h8).q fun a F => ?_
        refine AH F (Ad F Aa Aa Aa Aa) Aa (Ah Aa) (Af MQ Aa Aa Aa T3 F Aa (CS v2 + (p4).toNat * 2 + 1) Aa).q fun a F => ?_
        refine AH F (Ad F Aa Aa Aa Aa) Aa (Ah Aa) (Ag (y := Value.int .i64 x21.2) (j := 1) (i := p4) F Aa Aa (Ab h_v2) h8 Sc.to T3 Aa).q fun a F => ?_
        iterate 2 refine AH F (Ad F Aa Aa Aa Aa) Aa (Ah Aa) (Ak F Aa).q fun a F => ?_
        obtain ⟨x22, h9, H⟩ := Ae H
        refine AH F (Ad F Aa Aa Aa Aa) Aa (Ah Aa) (Al (r := (Rp.int .i64)) FS F Aa Aa (BE 1 Aa) h9).q fun a F => ?_
        refine AH F (Ad F Aa Aa Aa Aa) Aa (Ah Aa) (Ag (y := Value.int .i64 x22) (j := 0) (i := x11) F Aa Aa (BE 1 Aa) h9 Fl.int.to T3 Aa).q fun a F => ?_
        refine AH F (Ad F Aa Aa Aa Aa) Aa (Ah Aa) (IU F Aa Aa).q fun a F => ?_
        refine AH F (Ad F Aa Aa Aa Aa) Aa (Ah Aa) (Bk F Aa Aa Aa).q fun a F => ?_
        refine qs F Aa (Be F Aa Aa Aa).q fun a F => ?_
        refine AB fun w W => ?_
        refine Ac ?_
        have W := W.frontZ (i := 1) Aa Aa
        have W := W.frontZ (i := 1) Aa Aa
        have W := W.frontM (i := 1) Aa Aa
        have W := W.frontM (i := 1) Aa Aa
        exact ⟨_, H, F.ra Aa, W⟩
       have H := B6 (by rw [hb]; decide) H
       rw [hb] at F
       clear hb
       iterate 9 refine Bg F (A1 F Aa Aa Aa Aa Aa) Aa Aa fun a F => ?_
       iterate 11 refine Bg F (GU F Aa Aa Aa Aa) Aa Aa fun a F => ?_
       refine Bg F (A1 F Aa Aa Aa Aa Aa) Aa Aa fun a F => ?_
       refine qs F Aa (Bk F Aa Aa Aa).q fun a F => ?_
       refine AB fun w W => ?_
       refine Ac ?_
       have W := W.frontZ (i := 1) Aa Aa
       have W := W.frontZ (i := 1) Aa Aa
       have W := W.frontM (i := 1) Aa Aa
       have W := W.frontM (i := 1) Aa Aa
       exact ⟨_, H, F.ra Aa, W⟩
      rintro a w ⟨x19, hj, F, W⟩
      have hj := Av hj
      subst hj
      have H := K7
      clear G7 K7
      refine B0 F Aa H (fun F H => ?_) fun F H => ?_
      ·
       refine vc tk 3 F W fun a w F W => ?_
       refine An (Ac ?_)
       have W := W.frontZ (i := 1) Aa Aa
       have W := W.frontZ (i := 1) Aa Aa
       have W := W.frontM (i := 1) Aa Aa
       have W := W.frontM (i := 1) Aa Aa
       exact ⟨_, _, (v14), H, F.ra Aa, W⟩
      refine As (An (Ac ?_))
      have W := W.frontZ (i := 1) Aa Aa
      have W := W.frontZ (i := 1) Aa Aa
      have W := W.frontM (i := 1) Aa Aa
      have W := W.frontM (i := 1) Aa Aa
      exact ⟨_, _, (v14), H, F.ra Aa, W⟩
     rintro a w ⟨x12, x13, v13, hj, F, W⟩
     have hj := Av hj
     subst hj
     have H := K5
     clear G5 K5
     refine vc tk 5 F W fun a w F W => ?_
     refine Ac ?_
     have W := W.frontZ (i := 1) Aa Aa
     have W := W.frontZ (i := 1) Aa Aa
     have W := W.frontM (i := 1) Aa Aa
     have W := W.frontM (i := 1) Aa Aa
     exact ⟨_, H, (v13), F.ra Aa, W⟩
    refine Ay ?_
    iterate 2 refine AO ?_
    refine Az (An (Ac ?_))
    have W := W.frontM (i := 1) Aa Aa
    have W := W.frontM (i := 1) Aa Aa
    have W := W.sub (M' := (Cf b2 v4 v5 p2 b1 p0 v1 v2)) (Z' := [row v12 98 Jz x9]) (List.Sublist.refl _) (List.Sublist.cons_cons _ (List.nil_sublist _))
    have H := L4 _ H
    exact ⟨_, _, (v12), H, F.ra Aa, W⟩
   rintro a w ⟨x6, x7, v10, hj, F, W⟩
   have hj := Av hj
   subst hj
   have H := K3
   clear G3 K3
   refine vc tk 5 F W fun a w F W => ?_
   refine Ac ?_
   have W := W.frontM (i := 1) Aa Aa
   have W := W.frontM (i := 1) Aa Aa
   exact ⟨_, H, (v10), F.ra Aa, W⟩
  refine Ay ?_
  iterate 2 refine AO ?_
  refine Az (Ac ?_)
  have W := W.frontM (i := 1) Aa Aa
  have W := W.frontM (i := 1) Aa Aa
  have H := L2 _ H
  exact ⟨_, _, (v9), H, F.ra Aa, W⟩
 rintro a w ⟨x1, x2, v8, hj, F, W⟩
 have hj := Av hj
 subst hj
 have H := K1
 clear G1 K1
 obtain ⟨o8, G8, K8⟩ := Ae H
 refine Aj (fun a w => ∃ x23 : List (Int × Int × Int), ∃ v17 : Value, some (x23) = some o8 ∧ Fr 103 [] [(3, .int .i64 p3), (4, .int .i64 p4), (5, .pointer (some ⟨b1, 0, none⟩)), (10, .slice none 0 0), (11, v8), (12, v17)] a ∧ Stw ⟨Y, [], w0⟩ (Cf b2 v4 v5 p2 b1 p0 v1 v2) [row v8 98 Jz x1, row v17 59 Dk x23] w) ?_ ?_
 ·
  have H := G8
  clear G8 K8
  refine vc tk 5 F W fun a w F W => ?_
  refine GC F Aa (fun hb => ?_) fun hb => ?_
  ·
   have H := B5 hb H
   rw [hb] at F
   clear hb
   refine vc tk 4 F W fun a w F W => ?_
   refine ls F W Aa (Bx (v := Value.agg #[.int .i64 5, .int .i64 p3, .int .i64 p4]) UW F Aa Aa Aa).q fun a w F W => ?_
   refine Cp (z := Value.agg #[.int .i64 0, .int .i64 0, .int .i64 0]) (cs := [.int .i64 5, .int .i64 p3, .int .i64 p4]) Dk ([(5, p3, p4)] : List (Int × Int × Int)) F W Aa Pl UZ Aa Aa Aa Aa Aa Aa (Te.repL _ _ ([(5, p3, p4)] : List (Int × Int × Int))) fun v18 a w F W => ?_
   have W := W.nilRow 59 Dk
   obtain ⟨x24, h10, H⟩ := Ae H
   refine BF (r := Dk) (i := 0) F W Aa Pl Aa Aa Aa Aa (Cr W 1 Aa) h10 Aa fun v19 a w F W => ?_
   have W : Stw ⟨Y, [], w0⟩ (Cf b2 v4 v5 p2 b1 p0 v1 v2) [row v19 59 Dk x24, row v18 59 Dk ([(5, p3, p4)] : List (Int × Int × Int)), row v8 98 Jz x1] w := W
   refine vl tk 2 F W fun a w F W => ?_
   refine Ac ?_
   have W := W.frontZ (i := 2) Aa Aa
   have W := W.frontM (i := 1) Aa Aa
   have W := W.frontM (i := 1) Aa Aa
   have W := W.sub (M' := (Cf b2 v4 v5 p2 b1 p0 v1 v2)) (Z' := [row v8 98 Jz x1, row v19 59 Dk x24]) (List.Sublist.refl _) (List.Sublist.cons_cons _ (List.Sublist.cons_cons _ (List.nil_sublist _)))
   exact ⟨_, (v19), H, F.ra Aa, W⟩
  have H := B6 (by rw [hb]; decide) H
  rw [hb] at F
  clear hb
  refine As (Ac ?_)
  have W := W.nilRow 59 Dk
  have W := W.frontZ (i := 1) Aa Aa
  have W := W.frontM (i := 1) Aa Aa
  have W := W.frontM (i := 1) Aa Aa
  exact ⟨_, (Value.slice none 0 0), H, F.ra Aa, W⟩
 rintro a w ⟨x23, v17, hj, F, W⟩
 have hj := Av hj
 subst hj
 have H := K8
 clear G8 K8
 obtain ⟨o9, G9, K9⟩ := Ae H
 refine Aj (fun a w => ∃ x25 : List (Int × Int × Int), ∃ v20 : Value, some (x25) = some o9 ∧ Fr 103 [] [(10, .slice none 0 0), (12, v20)] a ∧ Stw ⟨Y, [], w0⟩ (Cf b2 v4 v5 p2 b1 p0 v1 v2) [row v20 59 Dk x25] w) ?_ ?_
 ·
  have H := G9
  clear G9 K9
  refine D3 tk 5 [1] F W (ai fun a w F W => ?_)
  obtain ⟨x26, h11, H⟩ := Ae H
  refine Cv (Ml := []) (Zl := []) (β := Value) (rv := fun x => x) (MM := fun x => []) (ZZ := fun x => [row x 3 (Rp.int .i64) x26]) F W Xc Aa Aa (fun hL => PM _ w (v8) p0.1 x1 _ h11 ((BE 0 Aa) w W).nx) fun x a w F W => ?_
  obtain ⟨v21, rfl⟩ : ∃ y, y = x := ⟨x, rfl⟩
  have W : Stw ⟨Y, [], w0⟩ (Cf b2 v4 v5 p2 b1 p0 v1 v2) [row v21 3 (Rp.int .i64) x26, row v8 98 Jz x1, row v17 59 Dk x23] w := W
  refine ls F W Aa (AR (r := (Rp.int .i64)) (l := x26) Hl Aa F Aa (BE 0 Aa)).q fun a w F W => ?_
  refine Bz tk 3 F W fun a w F W => ?_
  refine AN F Aa H (fun F H => ?_) fun F H => ?_
  ·
   refine vc tk 4 F W fun a w F W => ?_
   refine ls F W Aa (Bx (v := Value.agg #[.int .i64 6, .int .i64 p3, .int .i64 p4]) UW F Aa Aa Aa).q fun a w F W => ?_
   refine Cp (z := Value.agg #[.int .i64 0, .int .i64 0, .int .i64 0]) (cs := [.int .i64 6, .int .i64 p3, .int .i64 p4]) Dk ([(6, p3, p4)] : List (Int × Int × Int)) F W Aa Pl UZ Aa Aa Aa Aa Aa Aa (Te.repL _ _ ([(6, p3, p4)] : List (Int × Int × Int))) fun v22 a w F W => ?_
   obtain ⟨x27, h12, H⟩ := Ae H
   refine BF (r := Dk) (i := 3) F W Aa Pl Aa Aa Aa Aa (Cr W 0 Aa) h12 Aa fun v23 a w F W => ?_
   have W : Stw ⟨Y, [], w0⟩ (Cf b2 v4 v5 p2 b1 p0 v1 v2) [row v23 59 Dk x27, row v22 59 Dk ([(6, p3, p4)] : List (Int × Int × Int)), row v21 3 (Rp.int .i64) x26, row v8 98 Jz x1] w := W
   refine vl tk 2 F W fun a w F W => ?_
   refine Ac ?_
   have W := W.frontM (i := 1) Aa Aa
   have W := W.frontM (i := 1) Aa Aa
   have W := W.sub (M' := (Cf b2 v4 v5 p2 b1 p0 v1 v2)) (Z' := [row v23 59 Dk x27]) (List.Sublist.refl _) (List.Sublist.cons_cons _ (List.nil_sublist _))
   exact ⟨_, (v23), H, F.ra Aa, W⟩
  refine As (Ac ?_)
  have W := W.frontZ (i := 2) Aa Aa
  have W := W.frontM (i := 1) Aa Aa
  have W := W.frontM (i := 1) Aa Aa
  have W := W.sub (M' := (Cf b2 v4 v5 p2 b1 p0 v1 v2)) (Z' := [row v17 59 Dk x23]) (List.Sublist.refl _) (List.Sublist.cons_cons _ (List.nil_sublist _))
  exact ⟨_, (v17), H, F.ra Aa, W⟩
 rintro a w ⟨x25, v20, hj, F, W⟩
 have hj := Av hj
 subst hj
 have H := K9
 clear G9 K9
 refine vc tk 6 F W fun a w F W => ?_
 refine Ao ?_
 have H := Av H
 subst H
 refine AE (.inl Aa) F W Aa (Ai F Aa) ?_
 have W := W.sub (M' := []) (Z' := [row v20 59 Dk x25]) (List.nil_sublist _) (List.Sublist.refl _)
 exact ⟨(v20), Aa, W⟩
theorem XY : Has Try.prog 26 := BS Try.func26
noncomputable def Fq (p0 : Int × (List (Int × Int × Int × Int × Int × Int)) × (List (Int × Int))) (p1 : List (List Int)) (p3 : (List (Int × Int × Int × Int)) × (List (Int × Int × List Int)) × Int × Int × Int × Int) (x9 : Int) : ((List (Int × Int × Int)) × Int) → Option (((List (Int × Int × Int)) × Int) ⊕ (List (Int × Int × Int)))
  | (x11, x12) => (if x12 < (p0.2.2.length : Int) then (Jo p0 p1 p3 x9 x12).bind fun x13 => (Fo x11 x13).bind fun x14 => some (.inl (x14, A3 (x12 + 1))) else some (.inr x11))
noncomputable def EV (p0 : Int × (List (Int × Int × Int × Int × Int × Int)) × (List (Int × Int))) (p1 : List (List Int)) (p3 : (List (Int × Int × Int × Int)) × (List (Int × Int × List Int)) × Int × Int × Int × Int) : ((List (Int × Int × Int)) × Int) → Option (((List (Int × Int × Int)) × Int) ⊕ (List (Int × Int × Int)))
  | (x8, x9) => (if x9 < (p3.2.1.length : Int) then (Au (Fq p0 p1 p3 x9) (x8, 0)).bind fun x10 => some (.inl (x10, A3 (x9 + 1))) else some (.inr x8))
noncomputable def Ik (p0 : Int × (List (Int × Int × Int × Int × Int × Int)) × (List (Int × Int))) (p1 : List (List Int)) (p2 : List (List Int)) (p3 : (List (Int × Int × Int × Int)) × (List (Int × Int × List Int)) × Int × Int × Int × Int) : Option (List (Int × Int × Int)) := ((Ij p0 p1).bind fun x2 => (if (!x2) = true then some true else (Ij p0 p2).bind fun x3 => some (!x3))).bind fun x1 => (if x1 = true then some ([(1, 0, 0)] : List (Int × Int × Int)) else (JE p0 p1 p2 p3).bind fun x4 => (H1 p0 p3).bind fun x5 => (Fo x4 x5).bind fun x6 => (Au (EV p0 p1 p3) (x6, 0)).bind fun x7 => some x7)
theorem OI (Y : Nat → Prop) (w0 : World) (v1 : Value) (v2 : Value) (v3 : Value) (v4 : Value) (v5 : Value) (v6 : Value) (p0 : Int × (List (Int × Int × Int × Int × Int × Int)) × (List (Int × Int))) (p1 : List (List Int)) (p2 : List (List Int)) (p3 : (List (Int × Int × Int × Int)) × (List (Int × Int × List Int)) × Int × Int × Int × Int) (r : (List (Int × Int × Int))) (H : Ik p0 p1 p2 p3 = some r) (h_v1 : Sl w0 (NX []) Er v1 p0.2.1) (h_v2 : Sl w0 (NX []) Ec v2 p0.2.2) (h_v3 : Sl w0 (NX []) (Rp.slice (Rp.int .i64)) v3 p1) (h_v4 : Sl w0 (NX []) (Rp.slice (Rp.int .i64)) v4 p2) (h_v5 : Sl w0 (NX []) I6 v5 p3.1) (h_v6 : Sl w0 (NX []) MK v6 p3.2.1) :
    Calls Try.prog 10 #[.agg #[.int .i64 p0.1, v1, v2], v3, v4, .agg #[v5, v6, .int .i64 p3.2.2.1, .int .i64 p3.2.2.2.1, .int .i64 p3.2.2.2.2.1, .int .i64 p3.2.2.2.2.2]] w0 fun e w' => ∃ x : Value, e = .returned (x) ∧ Stw ⟨Y, [], w0⟩ [] [row (x) 59 Dk r] w' := by
 refine enter Try.func10 Aa Try.ntmps10 Aa fun a F => ?_
 have W := Stw.start Y w0
 obtain ⟨v7, h1, h_v3⟩ := h_v3.ex Bh
 obtain ⟨v8, h2, h_v4⟩ := h_v4.ex Bh
 obtain ⟨v9, h3, h_v6⟩ := h_v6.ex Fp
 unfold Ik at H
 refine vc tk 2 F W fun a w F W => ?_
 refine Bq (cs := [.int .i64 p0.1, v1, v2]) F W Aa Aa Aa fun b1 a w F W => ?_
 refine Bq (cs := [v5, v6, .int .i64 p3.2.2.1, .int .i64 p3.2.2.2.1, .int .i64 p3.2.2.2.2.1, .int .i64 p3.2.2.2.2.2]) F W Aa Aa Aa fun b2 a w F W => ?_
 refine Bz tk 4 F W fun a w F W => ?_
 obtain ⟨o1, G1, K1⟩ := Ae H
 refine Aj (fun a w => ∃ x1 : Bool, some (x1) = some o1 ∧ Fr 57 [] [(1, v3), (2, v4), (4, .pointer (some ⟨b1, 0, none⟩)), (7, .pointer (some ⟨b2, 0, none⟩)), (8, .slice none 0 0), (21, .bool x1)] a ∧ Stw ⟨Y, [], w0⟩ (Cf b2 v5 v6 p3 b1 p0 v1 v2) [] w) ?_ ?_
 ·
  have H := G1
  clear G1 K1
  refine D3 tk 3 [1] F W (ai fun a w F W => ?_)
  obtain ⟨x2, h4, H⟩ := Ae H
  refine ls F W Aa (AL (v := Value.bool x2) F W3 Aa (fun w W => LZ any w (v1) (v2) (v3) p0 p1 _ h4 (Ci (Ab h_v1) W) (Ci (Ab h_v2) W) (Ci (Aq Bh h1 (Ab h_v3)) W))) fun a w F W => ?_
  refine vl tk 2 F W fun a w F W => ?_
  rcases Bool.eq_false_or_eq_true (!x2) with hb | hb
  ·
   have H := B5 hb H
   rw [hb] at F
   clear hb
   refine vl tk 6 F W fun a w F W => ?_
   refine Ac ?_
   have W := W.frontM (i := 1) Aa Aa
   have W := W.frontM (i := 1) Aa Aa
   exact ⟨_, H, F.ra Aa, W⟩
  have H := B6 (by rw [hb]; decide) H
  rw [hb] at F
  clear hb
  refine GL tk 2 [1] F W (ai fun a w F W => ?_)
  refine I3 (Ad F Aa Aa Aa Aa) ?_
  obtain ⟨x3, h5, H⟩ := Ae H
  refine ls F W Aa (AL (v := Value.bool x3) F W3 Aa (fun w W => LZ any w (v1) (v2) (v4) p0 p2 _ h5 (Ci (Ab h_v1) W) (Ci (Ab h_v2) W) (Ci (Aq Bh h2 (Ab h_v4)) W))) fun a w F W => ?_
  refine vl tk 3 F W fun a w F W => ?_
  refine Ac ?_
  have W := W.frontM (i := 1) Aa Aa
  have W := W.frontM (i := 1) Aa Aa
  exact ⟨_, H, F.ra Aa, W⟩
 rintro a w ⟨x1, hj, F, W⟩
 have hj := Av hj
 subst hj
 have H := K1
 clear G1 K1
 refine B0 F Aa H (fun F H => ?_) fun F H => ?_
 ·
  refine vc tk 2 F W fun a w F W => ?_
  refine ls F W Aa (Bx (v := Value.agg #[.int .i64 1, .int .i64 0, .int .i64 0]) UW F Aa Aa Aa).q fun a w F W => ?_
  refine Cp (z := Value.agg #[.int .i64 0, .int .i64 0, .int .i64 0]) (cs := [.int .i64 1, .int .i64 0, .int .i64 0]) Dk ([(1, 0, 0)] : List (Int × Int × Int)) F W Aa Pl UZ Aa Aa Aa Aa Aa Aa (Te.repL _ _ ([(1, 0, 0)] : List (Int × Int × Int))) fun v10 a w F W => ?_
  refine Bz tk 3 F W fun a w F W => ?_
  refine Ao (Aw ?_)
  have H := Av H
  subst H
  refine AE (.inl Aa) F W Aa (Ai F Aa) ?_
  have W := W.sub (M' := []) (Z' := [row v10 59 Dk ([(1, 0, 0)] : List (Int × Int × Int))]) (List.nil_sublist _) (List.Sublist.refl _)
  exact ⟨(v10), Aa, W⟩
 refine Jk tk 8 [1, 0] F W (ai (ai fun a w F W => ?_))
 obtain ⟨x4, h6, H⟩ := Ae H
 refine Cv (Ml := []) (Zl := []) (β := Value) (rv := fun x => x) (MM := fun x => []) (ZZ := fun x => [row x 59 Dk x4]) F W X1 Aa Aa (fun hL => OV _ w (v1) (v2) (v3) (v4) (v5) (v6) p0 p1 p2 p3 _ h6 ((Ab h_v1) w W).nx ((Ab h_v2) w W).nx ((Aq Bh h1 (Ab h_v3)) w W).nx ((Aq Bh h2 (Ab h_v4)) w W).nx ((Ab h_v5) w W).nx ((Aq Fp h3 (Ab h_v6)) w W).nx) fun x a w F W => ?_
 obtain ⟨v11, rfl⟩ : ∃ y, y = x := ⟨x, rfl⟩
 have W : Stw ⟨Y, [], w0⟩ (Cf b2 v5 v6 p3 b1 p0 v1 v2) [row v11 59 Dk x4] w := W
 refine IG tk 8 [1, 0] F W (ai (ai fun a w F W => ?_))
 obtain ⟨x5, h7, H⟩ := Ae H
 refine Cv (Ml := []) (Zl := []) (β := Value) (rv := fun x => x) (MM := fun x => []) (ZZ := fun x => [row x 59 Dk x5]) F W Yf Aa Aa (fun hL => OA _ w (v1) (v2) (v5) (v6) p0 p3 _ h7 ((Ab h_v1) w W).nx ((Ab h_v2) w W).nx ((Ab h_v5) w W).nx ((Aq Fp h3 (Ab h_v6)) w W).nx) fun x a w F W => ?_
 obtain ⟨v12, rfl⟩ : ∃ y, y = x := ⟨x, rfl⟩
 have W : Stw ⟨Y, [], w0⟩ (Cf b2 v5 v6 p3 b1 p0 v1 v2) [row v12 59 Dk x5, row v11 59 Dk x4] w := W
 obtain ⟨x6, h8, H⟩ := Ae H
 refine BF (r := Dk) (i := 1) F W Aa Pl Aa Aa Aa Aa (Cr W 0 Aa) h8 Aa fun v13 a w F W => ?_
 have W : Stw ⟨Y, [], w0⟩ (Cf b2 v5 v6 p3 b1 p0 v1 v2) [row v13 59 Dk x6, row v12 59 Dk x5] w := W
 refine vl tk 2 F W fun a w F W => ?_
 refine Ac ?_
 obtain ⟨o2, G2, K2⟩ := Ae H
 refine Aj (fun a w => ∃ x7 : List (Int × Int × Int), ∃ v14 : Value, some (x7) = some o2 ∧ Fr 57 [] [(8, .slice none 0 0), (9, v14)] a ∧ Stw ⟨Y, [], w0⟩ (Cf b2 v5 v6 p3 b1 p0 v1 v2) [row v14 59 Dk x7] w) ?_ ?_
 ·
  have H := G2
  clear G2 K2
  refine vc tk 6 F W fun a w F W => ?_
  have W := W.frontM (i := 1) Aa Aa
  have W := W.frontM (i := 1) Aa Aa
  have W := W.sub (M' := (Cf b2 v5 v6 p3 b1 p0 v1 v2)) (Z' := [row v13 59 Dk x6]) (List.Sublist.refl _) (List.Sublist.cons_cons _ (List.nil_sublist _))
  refine AA H (fun s a w => ∃ v15 : Value, Fr 57 [] [(1, v3), (4, .pointer (some ⟨b1, 0, none⟩)), (7, .pointer (some ⟨b2, 0, none⟩)), (8, .slice none 0 0), (9, v15), (10, .int .i64 s.2)] a ∧ Stw ⟨Y, [], w0⟩ (Cf b2 v5 v6 p3 b1 p0 v1 v2) [row v15 59 Dk s.1] w) ⟨(v13), F.ra Aa, W⟩ fun s o a w H L3 hR => ?_
  obtain ⟨x8, x9⟩ := s
  obtain ⟨v15, F, W⟩ := hR
  have F : Fr 57 [] [(1, v3), (4, .pointer (some ⟨b1, 0, none⟩)), (7, .pointer (some ⟨b2, 0, none⟩)), (8, .slice none 0 0), (9, v15), (10, .int .i64 x9)] a := F
  have W : Stw ⟨Y, [], w0⟩ (Cf b2 v5 v6 p3 b1 p0 v1 v2) [row v15 59 Dk x8] w := W
  rw [EV] at H
  refine D3 tk 6 [0] F W (ai fun a w F W => ?_)
  refine ls F W Aa (AR (r := MK) (l := p3.2.1) PB Aa F Aa (Aq Fp h3 (Ab h_v6))).q fun a w F W => ?_
  refine Bz tk 3 F W fun a w F W => ?_
  refine AN F Aa H (fun F H => ?_) fun F H => ?_
  ·
   refine As (Ac ?_)
   obtain ⟨o4, G4, K4⟩ := Ae H
   refine Aj (fun a w => ∃ x10 : List (Int × Int × Int), ∃ v16 : Value, some (x10) = some o4 ∧ Fr 57 [] [(1, v3), (4, .pointer (some ⟨b1, 0, none⟩)), (7, .pointer (some ⟨b2, 0, none⟩)), (8, .slice none 0 0), (9, v16), (10, .int .i64 x9)] a ∧ Stw ⟨Y, [], w0⟩ (Cf b2 v5 v6 p3 b1 p0 v1 v2) [row v16 59 Dk x10] w) ?_ ?_
   ·
    have H := G4
    clear G4 K4
    refine vc tk 7 F W fun a w F W => ?_
    have W := W.frontM (i := 1) Aa Aa
    have W := W.frontM (i := 1) Aa Aa
    refine AA H (fun s a w => ∃ v17 : Value, Fr 57 [] [(1, v3), (4, .pointer (some ⟨b1, 0, none⟩)), (7, .pointer (some ⟨b2, 0, none⟩)), (8, .slice none 0 0), (9, v17), (10, .int .i64 x9), (11, .int .i64 s.2)] a ∧ Stw ⟨Y, [], w0⟩ (Cf b2 v5 v6 p3 b1 p0 v1 v2) [row v17 59 Dk s.1] w) ⟨(v15), F.ra Aa, W⟩ fun s o a w H L5 hR => ?_
    obtain ⟨x11, x12⟩ := s
    obtain ⟨v17, F, W⟩ := hR
    have F : Fr 57 [] [(1, v3), (4, .pointer (some ⟨b1, 0, none⟩)), (7, .pointer (some ⟨b2, 0, none⟩)), (8, .slice none 0 0), (9, v17), (10, .int .i64 x9), (11, .int .i64 x12)] a := F
    have W : Stw ⟨Y, [], w0⟩ (Cf b2 v5 v6 p3 b1 p0 v1 v2) [row v17 59 Dk x11] w := W
    rw [Fq] at H
    refine D3 tk 6 [1] F W (ai fun a w F W => ?_)
    refine ls F W Aa (AR (r := Ec) (l := p0.2.2) Jg Aa F Aa (Ab h_v2)).q fun a w F W => ?_
    refine Bz tk 3 F W fun a w F W => ?_
    refine AN F Aa H (fun F H => ?_) fun F H => ?_
    ·
     refine Jk tk 11 [1, 0] F W (ai (ai fun a w F W => ?_))
     obtain ⟨x13, h9, H⟩ := Ae H
     refine Cv (Ml := []) (Zl := []) (β := Value) (rv := fun x => x) (MM := fun x => []) (ZZ := fun x => [row x 59 Dk x13]) F W XY Aa Aa (fun hL => PV _ w (v1) (v2) (v3) (v5) (v6) p0 p1 p3 x9 x12 _ h9 ((Ab h_v1) w W).nx ((Ab h_v2) w W).nx ((Aq Bh h1 (Ab h_v3)) w W).nx ((Ab h_v5) w W).nx ((Aq Fp h3 (Ab h_v6)) w W).nx) fun x a w F W => ?_
     obtain ⟨v18, rfl⟩ : ∃ y, y = x := ⟨x, rfl⟩
     have W : Stw ⟨Y, [], w0⟩ (Cf b2 v5 v6 p3 b1 p0 v1 v2) [row v18 59 Dk x13, row v17 59 Dk x11] w := W
     obtain ⟨x14, h10, H⟩ := Ae H
     refine BF (r := Dk) (i := 1) F W Aa Pl Aa Aa Aa Aa (Cr W 0 Aa) h10 Aa fun v19 a w F W => ?_
     have W : Stw ⟨Y, [], w0⟩ (Cf b2 v5 v6 p3 b1 p0 v1 v2) [row v19 59 Dk x14, row v18 59 Dk x13] w := W
     refine vl tk 2 F W fun a w F W => ?_
     refine An ?_
     refine vn tk 5 F W fun a w F W => ?_
     refine Ac ?_
     have W := W.frontM (i := 1) Aa Aa
     have W := W.frontM (i := 1) Aa Aa
     have W := W.sub (M' := (Cf b2 v5 v6 p3 b1 p0 v1 v2)) (Z' := [row v19 59 Dk x14]) (List.Sublist.refl _) (List.Sublist.cons_cons _ (List.nil_sublist _))
     exact ⟨_, H, (v19), F.ra Aa, W⟩
    refine Ay ?_
    iterate 2 refine AO ?_
    refine Az (An (Ac ?_))
    have W := W.frontM (i := 1) Aa Aa
    have W := W.frontM (i := 1) Aa Aa
    have H := L5 _ H
    exact ⟨_, (v17), H, F.ra Aa, W⟩
   rintro a w ⟨x10, v16, hj, F, W⟩
   have hj := Av hj
   subst hj
   have H := K4
   clear G4 K4
   refine vc tk 5 F W fun a w F W => ?_
   refine Ac ?_
   have W := W.frontM (i := 1) Aa Aa
   have W := W.frontM (i := 1) Aa Aa
   exact ⟨_, H, (v16), F.ra Aa, W⟩
  refine Ay ?_
  iterate 2 refine AO ?_
  refine Az (Ac ?_)
  have W := W.frontM (i := 1) Aa Aa
  have W := W.frontM (i := 1) Aa Aa
  have H := L3 _ H
  exact ⟨_, (v15), H, F.ra Aa, W⟩
 rintro a w ⟨x7, v14, hj, F, W⟩
 have hj := Av hj
 subst hj
 have H := K2
 clear G2 K2
 refine vc tk 6 F W fun a w F W => ?_
 refine Ao ?_
 have H := Av H
 subst H
 refine AE (.inl Aa) F W Aa (Ai F Aa) ?_
 have W := W.sub (M' := []) (Z' := [row v14 59 Dk x7]) (List.nil_sublist _) (List.Sublist.refl _)
 exact ⟨(v14), Aa, W⟩
theorem X0 : Has Try.prog 10 := BS Try.func10
noncomputable def Gb (p0 : List (Int × Int × Int)) (p1 : List (Int × Int × Int)) : Int → Option (Int ⊕ (Unit ⊕ Bool))
  | x1 => (if x1 < (p0.length : Int) then ((ix p0 x1).bind fun x3 => (ix p1 x1).bind fun x4 => (if x3.1 ≠ x4.1 then some true else (ix p0 x1).bind fun x5 => (ix p1 x1).bind fun x6 => (if x5.2.1 ≠ x6.2.1 then some true else (ix p0 x1).bind fun x7 => (ix p1 x1).bind fun x8 => some (decide (x7.2.2 ≠ x8.2.2))))).bind fun x2 => (if x2 = true then some (.inr (.inr false)) else some (.inl (A3 (x1 + 1)))) else some (.inr (.inl ())))
noncomputable def Jq (p0 : List (Int × Int × Int)) (p1 : List (Int × Int × Int)) : Option Bool := (if (p0.length : Int) ≠ (p1.length : Int) then some false else Ep (Au (Gb p0 p1) 0) fun _ => some true)
theorem Pu (Y : Nat → Prop) (w0 : World) (v1 : Value) (v2 : Value) (p0 : List (Int × Int × Int)) (p1 : List (Int × Int × Int)) (r : Bool) (H : Jq p0 p1 = some r) (h_v1 : Sl w0 (NX []) BK v1 p0) (h_v2 : Sl w0 (NX []) Dk v2 p1) :
    Calls Try.prog 7 #[v1, v2] w0 fun e w' => e = .returned (.bool r) ∧ Below w0.heap.size w0 w' := by
 refine enter Try.func7 Aa Try.ntmps7 Aa fun a F => ?_
 have W := Stw.start Y w0
 unfold Jq at H
 refine vc tk 9 F W fun a w F W => ?_
 refine ls F W Aa (AR (r := BK) (l := p0) M5 Aa F Aa (Ab h_v1)).q fun a w F W => ?_
 refine ls F W Aa (Ak F Aa).q fun a w F W => ?_
 refine ls F W Aa (AR (r := Dk) (l := p1) Vx Aa F Aa (Ab h_v2)).q fun a w F W => ?_
 refine Bz tk 3 F W fun a w F W => ?_
 refine AN F Aa H (fun F H => ?_) fun F H => ?_
 ·
  refine vc tk 5 F W fun a w F W => ?_
  refine Ao (Aw ?_)
  have H := Av H
  subst H
  refine AE (.inl Aa) F W Aa (Ai F Aa) ?_
  exact ⟨rfl, W.done⟩
 refine As (Ac ?_)
 obtain ⟨o1, G1, K1, L1⟩ := I5 H
 refine Aj (fun a w => some (Sum.inl ()) = some o1 ∧ Fr 54 [] [(4, .bool false)] a ∧ Stw ⟨Y, [], w0⟩ [] [] w) ?_ ?_
 ·
  have H := G1
  clear G1 K1
  refine vc tk 6 F W fun a w F W => ?_
  refine AA H (fun s a w => Fr 54 [] [(0, v1), (1, v2), (4, .bool false), (5, .int .i64 s)] a ∧ Stw ⟨Y, [], w0⟩ [] [] w) ⟨F.ra Aa, W⟩ fun s o a w H L2 hR => ?_
  obtain ⟨x1, rfl⟩ : ∃ x, x = s := ⟨s, rfl⟩
  obtain ⟨F, W⟩ := hR
  have F : Fr 54 [] [(0, v1), (1, v2), (4, .bool false), (5, .int .i64 x1)] a := F
  have W : Stw ⟨Y, [], w0⟩ [] [] w := W
  rw [Gb] at H
  refine vc tk 5 F W fun a w F W => ?_
  refine ls F W Aa (AR (r := BK) (l := p0) M5 Aa F Aa (Ab h_v1)).q fun a w F W => ?_
  refine Bz tk 3 F W fun a w F W => ?_
  refine AN F Aa H (fun F H => ?_) fun F H => ?_
  ·
   refine Gm tk 4 F W fun a w F W => ?_
   obtain ⟨o3, G3, K3⟩ := Ae H
   refine Aj (fun a w => ∃ x2 : Bool, some (x2) = some o3 ∧ Fr 54 [] [(0, v1), (1, v2), (4, .bool false), (5, .int .i64 x1), (53, .bool x2)] a ∧ Stw ⟨Y, [], w0⟩ [] [] w) ?_ ?_
   ·
    have H := G3
    clear G3 K3
    refine Bi W MO (by kernel_rfl) ?_
    iterate 2 refine qs F Aa (Ak F Aa).q fun a F => ?_
    obtain ⟨x3, h1, H⟩ := Ae H
    refine qs F Aa (Al (r := BK) Nj F Aa Aa (Ab h_v1) h1).q fun a F => ?_
    refine qs F Aa (Af RR Aa Aa Aa T3 F Aa (CS v1 + (x1).toNat * 3) Aa).q fun a F => ?_
    refine qs F Aa (Ag (y := Value.int .i64 x3.1) (j := 0) (i := x1) F Aa Aa (Ab h_v1) h1 SC.to T3 Aa).q fun a F => ?_
    iterate 2 refine qs F Aa (Ak F Aa).q fun a F => ?_
    obtain ⟨x4, h2, H⟩ := Ae H
    refine qs F Aa (Al (r := Dk) Pl F Aa Aa (Ab h_v2) h2).q fun a F => ?_
    refine qs F Aa (Af TB Aa Aa Aa T3 F Aa (CS v2 + (x1).toNat * 3) Aa).q fun a F => ?_
    refine qs F Aa (Ag (y := Value.int .i64 x4.1) (j := 0) (i := x1) F Aa Aa (Ab h_v2) h2 Te.to T3 Aa).q fun a F => ?_
    refine qs F Aa (IU F Aa Aa).q fun a F => ?_
    refine qs F Aa (Ak F Aa).q fun a F => ?_
    rcases Bool.eq_false_or_eq_true (decide (x3.1 ≠ x4.1)) with hb | hb
    ·
     have H := B5 (CT hb) H
     rw [hb] at F
     clear hb
     iterate 11 refine Bg F (A1 F Aa Aa Aa Aa Aa) Aa Aa fun a F => ?_
     refine qs F Aa (Be F Aa Aa Aa).q fun a F => ?_
     refine qs F Aa (Ak F Aa).q fun a F => ?_
     iterate 11 refine Bg F (A1 F Aa Aa Aa Aa Aa) Aa Aa fun a F => ?_
     refine qs F Aa (Be F Aa Aa Aa).q fun a F => ?_
     refine AB fun w W => ?_
     refine Ac ?_
     exact ⟨_, H, F.ra Aa, W⟩
    have H := B6 (CV hb) H
    rw [hb] at F
    clear hb
    iterate 2 refine AH F (Ad F Aa Aa Aa Aa) Aa (Ah Aa) (Ak F Aa).q fun a F => ?_
    obtain ⟨x5, h3, H⟩ := Ae H
    refine AH F (Ad F Aa Aa Aa Aa) Aa (Ah Aa) (Al (r := BK) Nj F Aa Aa (Ab h_v1) h3).q fun a F => ?_
    refine AH F (Ad F Aa Aa Aa Aa) Aa (Ah Aa) (Af RR Aa Aa Aa T3 F Aa (CS v1 + (x1).toNat * 3 + 1) Aa).q fun a F => ?_
    refine AH F (Ad F Aa Aa Aa Aa) Aa (Ah Aa) (Ag (y := Value.int .i64 x5.2.1) (j := 1) (i := x1) F Aa Aa (Ab h_v1) h3 SC.to T3 Aa).q fun a F => ?_
    iterate 2 refine AH F (Ad F Aa Aa Aa Aa) Aa (Ah Aa) (Ak F Aa).q fun a F => ?_
    obtain ⟨x6, h4, H⟩ := Ae H
    refine AH F (Ad F Aa Aa Aa Aa) Aa (Ah Aa) (Al (r := Dk) Pl F Aa Aa (Ab h_v2) h4).q fun a F => ?_
    refine AH F (Ad F Aa Aa Aa Aa) Aa (Ah Aa) (Af TB Aa Aa Aa T3 F Aa (CS v2 + (x1).toNat * 3 + 1) Aa).q fun a F => ?_
    refine AH F (Ad F Aa Aa Aa Aa) Aa (Ah Aa) (Ag (y := Value.int .i64 x6.2.1) (j := 1) (i := x1) F Aa Aa (Ab h_v2) h4 Te.to T3 Aa).q fun a F => ?_
    refine AH F (Ad F Aa Aa Aa Aa) Aa (Ah Aa) (IU F Aa Aa).q fun a F => ?_
    refine qs F Aa (Bk F Aa Aa Aa).q fun a F => ?_
    refine qs F Aa (Ak F Aa).q fun a F => ?_
    rcases Bool.eq_false_or_eq_true (decide (x5.2.1 ≠ x6.2.1)) with hb | hb
    ·
     have H := B5 (CT hb) H
     rw [hb] at F
     clear hb
     iterate 11 refine Bg F (A1 F Aa Aa Aa Aa Aa) Aa Aa fun a F => ?_
     refine qs F Aa (Be F Aa Aa Aa).q fun a F => ?_
     refine AB fun w W => ?_
     refine Ac ?_
     exact ⟨_, H, F.ra Aa, W⟩
    have H := B6 (CV hb) H
    rw [hb] at F
    clear hb
    iterate 2 refine AH F (Ad F Aa Aa Aa Aa) Aa (Ah Aa) (Ak F Aa).q fun a F => ?_
    obtain ⟨x7, h5, H⟩ := Ae H
    refine AH F (Ad F Aa Aa Aa Aa) Aa (Ah Aa) (Al (r := BK) Nj F Aa Aa (Ab h_v1) h5).q fun a F => ?_
    refine AH F (Ad F Aa Aa Aa Aa) Aa (Ah Aa) (Af RR Aa Aa Aa T3 F Aa (CS v1 + (x1).toNat * 3 + 2) Aa).q fun a F => ?_
    refine AH F (Ad F Aa Aa Aa Aa) Aa (Ah Aa) (Ag (y := Value.int .i64 x7.2.2) (j := 2) (i := x1) F Aa Aa (Ab h_v1) h5 SC.to T3 Aa).q fun a F => ?_
    iterate 2 refine AH F (Ad F Aa Aa Aa Aa) Aa (Ah Aa) (Ak F Aa).q fun a F => ?_
    obtain ⟨x8, h6, H⟩ := Ae H
    refine AH F (Ad F Aa Aa Aa Aa) Aa (Ah Aa) (Al (r := Dk) Pl F Aa Aa (Ab h_v2) h6).q fun a F => ?_
    refine AH F (Ad F Aa Aa Aa Aa) Aa (Ah Aa) (Af TB Aa Aa Aa T3 F Aa (CS v2 + (x1).toNat * 3 + 2) Aa).q fun a F => ?_
    refine AH F (Ad F Aa Aa Aa Aa) Aa (Ah Aa) (Ag (y := Value.int .i64 x8.2.2) (j := 2) (i := x1) F Aa Aa (Ab h_v2) h6 Te.to T3 Aa).q fun a F => ?_
    refine AH F (Ad F Aa Aa Aa Aa) Aa (Ah Aa) (IU F Aa Aa).q fun a F => ?_
    refine qs F Aa (Bk F Aa Aa Aa).q fun a F => ?_
    refine AB fun w W => ?_
    refine Ac ?_
    exact ⟨_, H, F.ra Aa, W⟩
   rintro a w ⟨x2, hj, F, W⟩
   have hj := Av hj
   subst hj
   have H := K3
   clear G3 K3
   refine B0 F Aa H (fun F H => ?_) fun F H => ?_
   ·
    refine vc tk 5 F W fun a w F W => ?_
    refine Ao (Ax ?_)
    iterate 2 refine Aw ?_
    refine Ax (Aw ?_)
    have H := L2 _ H
    have H := L1 _ H
    have H := Av H
    subst H
    refine AE (.inl Aa) F W Aa (Ai F Aa) ?_
    exact ⟨rfl, W.done⟩
   refine As (An ?_)
   refine vn tk 5 F W fun a w F W => ?_
   refine Ac ?_
   exact ⟨_, H, F.ra Aa, W⟩
  refine Ay ?_
  iterate 2 refine AO ?_
  refine Az (Ac ?_)
  have H := L2 _ H
  exact ⟨H, F.ra Aa, W⟩
 rintro a w ⟨hj, F, W⟩
 have H := K1 _ hj
 clear hj G1 K1 L1
 refine vc tk 5 F W fun a w F W => ?_
 refine Ao ?_
 have H := Av H
 subst H
 refine AE (.inl Aa) F W Aa (Ai F Aa) ?_
 exact ⟨rfl, W.done⟩
theorem Wh : type_of% Try.underlying68 := Try.underlying68
theorem H7 : Has Try.prog 7 := BS Try.func7
theorem Z9 : (Try.prog.info? 9).bind (·.zero) = some (.string (bs ([] : List UInt8))) := by kernel_rfl
theorem W5 : Et Try.prog 68 9 1 16 := Et.of Wh (by kernel_rfl) (by kernel_rfl) (by kernel_rfl) (by decide)
theorem T9 : Ty Try.prog 9 false 1 := ⟨by kernel_rfl, by kernel_rfl⟩
noncomputable def Jd (p0 : Int) : Option (List UInt8) := (if (decide (p0 < 1) || decide (6 < p0)) = true then some ([63] : List UInt8) else (ix ([([63] : List UInt8), ([119, 114, 111, 110, 103] : List UInt8), ([109, 105, 115, 115, 105, 110, 103] : List UInt8), ([101, 120, 116, 114, 97] : List UInt8), ([99, 108, 111, 115, 101] : List UInt8), ([104, 111, 108, 101] : List UInt8), ([108, 111, 111, 112] : List UInt8)] : List (List UInt8)) p0).bind fun x1 => some x1)
theorem Pm (Y : Nat → Prop) (w0 : World)  (p0 : Int) (r : List UInt8) (H : Jd p0 = some r)  :
    Calls Try.prog 12 #[.int .i64 p0] w0 fun e w' => e = .returned (.string (bs r)) ∧ Below w0.heap.size w0 w' := by
 refine enter Try.func12 Aa Try.ntmps12 Aa fun a F => ?_
 have W := Stw.start Y w0
 unfold Jd at H
 refine vc tk 2 F W fun a w F W => ?_
 refine ls F W Aa (Bl (v := Value.string (bs ([] : List UInt8))) F Aa).q fun a w F W => ?_
 refine Bz tk 4 F W fun a w F W => ?_
 refine Cp (z := Value.string (bs ([] : List UInt8))) (cs := [.string (bs ([63] : List UInt8)), .string (bs ([119, 114, 111, 110, 103] : List UInt8)), .string (bs ([109, 105, 115, 115, 105, 110, 103] : List UInt8)), .string (bs ([101, 120, 116, 114, 97] : List UInt8)), .string (bs ([99, 108, 111, 115, 101] : List UInt8)), .string (bs ([104, 111, 108, 101] : List UInt8)), .string (bs ([108, 111, 111, 112] : List UInt8))]) Rp.str ([([63] : List UInt8), ([119, 114, 111, 110, 103] : List UInt8), ([109, 105, 115, 115, 105, 110, 103] : List UInt8), ([101, 120, 116, 114, 97] : List UInt8), ([99, 108, 111, 115, 101] : List UInt8), ([104, 111, 108, 101] : List UInt8), ([108, 111, 111, 112] : List UInt8)] : List (List UInt8)) F W Aa W5 Z9 Aa Aa Aa Aa Aa Aa (Fl.str.repL _ _ ([([63] : List UInt8), ([119, 114, 111, 110, 103] : List UInt8), ([109, 105, 115, 115, 105, 110, 103] : List UInt8), ([101, 120, 116, 114, 97] : List UInt8), ([99, 108, 111, 115, 101] : List UInt8), ([104, 111, 108, 101] : List UInt8), ([108, 111, 111, 112] : List UInt8)] : List (List UInt8))) fun v1 a w F W => ?_
 refine Bz tk 4 F W fun a w F W => ?_
 refine Aj (fun a w => Fr 15 [] [(0, .int .i64 p0), (2, .string (bs ([] : List UInt8))), (3, v1), (10, .bool (decide (p0 < 1) || decide (6 < p0)))] a ∧ Stw ⟨Y, [], w0⟩ [] [row v1 9 Rp.str ([([63] : List UInt8), ([119, 114, 111, 110, 103] : List UInt8), ([109, 105, 115, 115, 105, 110, 103] : List UInt8), ([101, 120, 116, 114, 97] : List UInt8), ([99, 108, 111, 115, 101] : List UInt8), ([104, 111, 108, 101] : List UInt8), ([108, 111, 111, 112] : List UInt8)] : List (List UInt8))] w) ?_ ?_
 ·
  refine vc tk 4 F W fun a w F W => ?_
  rcases Bool.eq_false_or_eq_true (decide (p0 < 1)) with hb0 | hb0
  ·
   rw [hb0] at F
   refine vl tk 4 F W fun a w F W => ?_
   refine Ac ?_
   exact ⟨F.re ⟨rfl, Aa, Aa, (Gw (by try rw [hb0]; all_goals simp only [Gv])), trivial⟩, W⟩
  rw [hb0] at F
  refine vl tk 4 F W fun a w F W => ?_
  refine Ac ?_
  exact ⟨F.re ⟨rfl, Aa, Aa, (Gw (by try rw [hb0]; all_goals simp only [Gv])), trivial⟩, W⟩
 rintro a w ⟨F, W⟩
 refine B0 F Aa H (fun F H => ?_) fun F H => ?_
 ·
  refine vc tk 2 F W fun a w F W => ?_
  refine ls F W Aa (Bl (v := Value.string (bs ([63] : List UInt8))) F Aa).q fun a w F W => ?_
  refine Bz tk 2 F W fun a w F W => ?_
  refine Ao (Aw ?_)
  have H := Av H
  subst H
  refine AE (.inl Aa) F W Aa (Ai F Aa) ?_
  exact ⟨rfl, W.done⟩
 refine Gm tk 6 F W fun a w F W => ?_
 obtain ⟨x1, h1, H⟩ := Ae H
 refine ls F W Aa (Al (r := Rp.str) W5 F Aa Aa (BE 0 Aa) h1).q fun a w F W => ?_
 refine ls F W Aa (Ag (y := Value.string (bs x1)) (j := 0) (i := p0) F Aa Aa (BE 0 Aa) h1 Fl.str.to T9 Aa).q fun a w F W => ?_
 refine Bz tk 3 F W fun a w F W => ?_
 refine Ao ?_
 have H := Av H
 subst H
 refine AE (.inl Aa) F W Aa (Ai F Aa) ?_
 exact ⟨rfl, W.done⟩
theorem Xt : Has Try.prog 12 := BS Try.func12
noncomputable def EK (p0 : Int × (List (Int × Int × Int × Int × Int × Int)) × (List (Int × Int))) (p1 : List (List Int)) (p2 : List (List Int)) (p3 : (List (Int × Int × Int × Int)) × (List (Int × Int × List Int)) × Int × Int × Int × Int) (p4 : Int) : Option Bool := (Il p0 p1 p2 p3).bind fun x1 => (if (!x1) = true then (F0).bind fun x2 => some x2 else ((Jy p3).bind fun x4 => (DG p0 p1 p2 x4).bind fun x5 => (Ik p0 p1 p2 p3).bind fun x6 => (Jq x5 x6).bind fun x7 => (if x7 = true then (Jd p4).bind fun x8 => (if (CW p4) = x8 then (F0).bind fun x9 => some x9 else some false) else some false)).bind fun x3 => some x3)
theorem La (Y : Nat → Prop) (w0 : World) (v1 : Value) (v2 : Value) (v3 : Value) (v4 : Value) (v5 : Value) (v6 : Value) (p0 : Int × (List (Int × Int × Int × Int × Int × Int)) × (List (Int × Int))) (p1 : List (List Int)) (p2 : List (List Int)) (p3 : (List (Int × Int × Int × Int)) × (List (Int × Int × List Int)) × Int × Int × Int × Int) (p4 : Int) (r : Bool) (H : EK p0 p1 p2 p3 p4 = some r) (h_v1 : Sl w0 (NX []) Er v1 p0.2.1) (h_v2 : Sl w0 (NX []) Ec v2 p0.2.2) (s_v3 : Sl w0 Y (Rp.slice (Rp.int .i64)) v3 p1) (h_v4 : Sl w0 (NX []) (Rp.slice (Rp.int .i64)) v4 p2) (h_v5 : Sl w0 (NX []) I6 v5 p3.1) (s_v6 : Sl w0 Y MK v6 p3.2.1) :
    Calls Try.prog 3 #[.agg #[.int .i64 p0.1, v1, v2], v3, v4, .agg #[v5, v6, .int .i64 p3.2.2.1, .int .i64 p3.2.2.2.1, .int .i64 p3.2.2.2.2.1, .int .i64 p3.2.2.2.2.2], .int .i64 p4] w0 fun e w' => e = .returned (.bool r) ∧ Below w0.heap.size w0 w' := by
 refine enter Try.func3 Aa Try.ntmps3 Aa fun a F => ?_
 have W := Stw.start Y w0
 obtain ⟨v7, h1, s_v3⟩ := s_v3.ex Bh
 obtain ⟨v8, h2, h_v4⟩ := h_v4.ex Bh
 obtain ⟨v9, h3, s_v6⟩ := s_v6.ex Fp
 have h_v3 := W.nx s_v3
 have h_v6 := W.nx s_v6
 unfold EK at H
 refine vc tk 2 F W fun a w F W => ?_
 refine Bq (cs := [.int .i64 p0.1, v1, v2]) F W Aa Aa Aa fun b1 a w F W => ?_
 refine Bq (cs := [v5, v6, .int .i64 p3.2.2.1, .int .i64 p3.2.2.2.1, .int .i64 p3.2.2.2.2.1, .int .i64 p3.2.2.2.2.2]) F W Aa Aa Aa fun b2 a w F W => ?_
 refine IG tk 10 [1, 0] F W (ai (ai fun a w F W => ?_))
 obtain ⟨x1, h4, H⟩ := Ae H
 refine ls F W Aa (AL (v := Value.bool x1) F H5 Aa (fun w W => Ow any w (v1) (v2) (v3) (v4) (v5) (v6) p0 p1 p2 p3 _ h4 (Ci (Ab h_v1) W) (Ci (Ab h_v2) W) (Ci (Aq Bh h1 (Ab h_v3)) W) (Ci (Aq Bh h2 (Ab h_v4)) W) (Ci (Ab h_v5) W) (Ci (Aq Fp h3 (Ab h_v6)) W))) fun a w F W => ?_
 refine Bz tk 3 F W fun a w F W => ?_
 refine B0 F Aa H (fun F H => ?_) fun F H => ?_
 ·
  refine vc tk 2 F W fun a w F W => ?_
  obtain ⟨x2, h5, H⟩ := Ae H
  refine ls F W Aa (AL (v := Value.bool x2) F H6 Aa (fun w W => Lr any w _ h5)) fun a w F W => ?_
  refine Bz tk 3 F W fun a w F W => ?_
  refine Ao (Aw ?_)
  have H := Av H
  subst H
  refine AE (.inl Aa) F W Aa (Ai F Aa) ?_
  exact ⟨rfl, W.done⟩
 refine As (Ac ?_)
 obtain ⟨o1, G1, K1⟩ := Ae H
 refine Aj (fun a w => ∃ x3 : Bool, some (x3) = some o1 ∧ Fr 40 [] [(10, .bool x3)] a ∧ Stw ⟨Y, [], w0⟩ (Cf b2 v5 v6 p3 b1 p0 v1 v2) [] w) ?_ ?_
 ·
  have H := G1
  clear G1 K1
  refine Kv [(true, 0), (true, 1), (true, 2), (true, 3), (true, 6), (true, 7), (true, 8), (true, 9), (false, 4), (false, 5), (false, 10), (false, 11), (true, 12), (true, 13), (true, 15), (false, 14), (false, 16), (true, 17), (true, 18), (true, 19), (false, 20), (true, 21), (false, 22)] (CN ⟨Y, [], w0⟩ [(some 5, b1, [.int .i64 p0.1, v1, v2]), (some 4, b2, [v5, v6, .int .i64 p3.2.2.1, .int .i64 p3.2.2.2.1, .int .i64 p3.2.2.2.2.1, .int .i64 p3.2.2.2.2.2]), (some 10, b1, [.int .i64 p0.1, v1, v2]), (some 10, b2, [v5, v6, .int .i64 p3.2.2.1, .int .i64 p3.2.2.2.1, .int .i64 p3.2.2.2.2.1, .int .i64 p3.2.2.2.2.2])] []) (fun ch a d v w h => by cases d <;> exact h) MO (by kernel_rfl) W (fun w W => ⟨_, _, W, (all_cons (fun _ => (.tail _ (.head _))) (all_cons (fun _ => (.head _)) (all_cons (fun _ => (.tail _ (.head _))) (all_cons (fun _ => (.head _)) AD)))), AD⟩) fun w W => ?_
  refine CJ (R := [5]) F Aa Aa (yC fun M Z hN hZ => Cs (cs := [.int .i64 p0.1, v1, v2]) (v := Value.agg #[.int .i64 p0.1, v1, v2]) F Aa (hN ((some 5), b1, [.int .i64 p0.1, v1, v2]) (.head _) Aa) R8 Aa) (by kernel_rfl) Aa fun a F => ?_
  iterate 2 refine CJ (R := []) F Aa Aa (yC fun M Z hN hZ => Ak F Aa) Aa Aa fun a F => ?_
  refine CJ (R := [4]) F Aa Aa (yC fun M Z hN hZ => Cs (cs := [v5, v6, .int .i64 p3.2.2.1, .int .i64 p3.2.2.2.1, .int .i64 p3.2.2.2.2.1, .int .i64 p3.2.2.2.2.2]) (v := Value.agg #[v5, v6, .int .i64 p3.2.2.1, .int .i64 p3.2.2.2.1, .int .i64 p3.2.2.2.2.1, .int .i64 p3.2.2.2.2.2]) F Aa (hN ((some 4), b2, [v5, v6, .int .i64 p3.2.2.1, .int .i64 p3.2.2.2.1, .int .i64 p3.2.2.2.2.1, .int .i64 p3.2.2.2.2.2]) (.tail _ (.head _)) Aa) UY Aa) (by kernel_rfl) Aa fun a F => ?_
  refine CJ (R := [10]) F Aa Aa (yC fun M Z hN hZ => Cs (cs := [.int .i64 p0.1, v1, v2]) (v := Value.agg #[.int .i64 p0.1, v1, v2]) F Aa (hN ((some 10), b1, [.int .i64 p0.1, v1, v2]) (.tail _ (.tail _ (.head _))) Aa) R8 Aa) (by kernel_rfl) Aa fun a F => ?_
  iterate 2 refine CJ (R := []) F Aa Aa (yC fun M Z hN hZ => Ak F Aa) Aa Aa fun a F => ?_
  refine CJ (R := [10]) F Aa Aa (yC fun M Z hN hZ => Cs (cs := [v5, v6, .int .i64 p3.2.2.1, .int .i64 p3.2.2.2.1, .int .i64 p3.2.2.2.2.1, .int .i64 p3.2.2.2.2.2]) (v := Value.agg #[v5, v6, .int .i64 p3.2.2.1, .int .i64 p3.2.2.2.1, .int .i64 p3.2.2.2.2.1, .int .i64 p3.2.2.2.2.2]) F Aa (hN ((some 10), b2, [v5, v6, .int .i64 p3.2.2.1, .int .i64 p3.2.2.2.1, .int .i64 p3.2.2.2.2.1, .int .i64 p3.2.2.2.2.2]) (.tail _ (.tail _ (.tail _ (.head _)))) Aa) UY Aa) (by kernel_rfl) Aa fun a F => ?_
  refine F4 Aa ?_
  obtain ⟨x4, h6, H⟩ := Ae H
  refine Cv (Ml := []) (Zl := []) (β := Value × Value) (rv := fun x => .agg #[x.1, x.2, .int .i64 x4.2.2.1, .int .i64 x4.2.2.2.1, .int .i64 x4.2.2.2.2.1, .int .i64 x4.2.2.2.2.2]) (MM := fun x => []) (ZZ := fun x => [row x.1 78 HV x4.1, row x.2 65 Kf x4.2.1]) F W H9 Aa Aa (fun hL => Po _ w (v5) (v6) p3 _ h6 ((Ab h_v5) w W).nx (Sl.hide Fp h3 (W.old s_v6))) fun x a w F W => ?_
  obtain ⟨v10, v11⟩ := x
  have W : Stw ⟨Y, [], w0⟩ (Cf b2 v5 v6 p3 b1 p0 v1 v2) [row v10 78 HV x4.1, row v11 65 Kf x4.2.1] w := W
  refine Cq (N2 := []) (NZ2 := []) (N3 := [(some 5, b1, [.int .i64 p0.1, v1, v2]), (some 4, b2, [v5, v6, .int .i64 p3.2.2.1, .int .i64 p3.2.2.2.1, .int .i64 p3.2.2.2.2.1, .int .i64 p3.2.2.2.2.2]), (some 10, b1, [.int .i64 p0.1, v1, v2]), (some 10, b2, [v5, v6, .int .i64 p3.2.2.1, .int .i64 p3.2.2.2.1, .int .i64 p3.2.2.2.2.1, .int .i64 p3.2.2.2.2.2])]) (NZ3 := []) W Aa Aa (all_cons (fun _ => (.tail _ (.head _))) (all_cons (fun h => Ap (by kernel_rfl) h) (all_cons (fun _ => (.tail _ (.head _))) (all_cons (fun _ => (.head _)) AD)))) AD ?_
  refine F4 Aa ?_
  obtain ⟨x5, h7, H⟩ := Ae H
  refine Cv (Ml := []) (Zl := []) (β := Value) (rv := fun x => x) (MM := fun x => []) (ZZ := fun x => [row x 58 BK x5]) F W H8 Aa Aa (fun hL => HY _ w (v1) (v2) (v3) (v4) (v10) (v11) p0 p1 p2 x4 _ h7 ((Ab h_v1) w W).nx ((Ab h_v2) w W).nx (Sl.hide Bh h1 (W.old s_v3)) ((Aq Bh h2 (Ab h_v4)) w W).nx ((BE 0 Aa) w W).nx ((BE 1 Aa) w W).nx) fun x a w F W => ?_
  obtain ⟨v12, rfl⟩ : ∃ y, y = x := ⟨x, rfl⟩
  have W : Stw ⟨Y, [], w0⟩ (Cf b2 v5 v6 p3 b1 p0 v1 v2) [row v12 58 BK x5, row v10 78 HV x4.1, row v11 65 Kf x4.2.1] w := W
  refine Cq (N2 := []) (NZ2 := []) (N3 := [(some 5, b1, [.int .i64 p0.1, v1, v2]), (some 4, b2, [v5, v6, .int .i64 p3.2.2.1, .int .i64 p3.2.2.2.1, .int .i64 p3.2.2.2.2.1, .int .i64 p3.2.2.2.2.2]), (some 10, b1, [.int .i64 p0.1, v1, v2]), (some 10, b2, [v5, v6, .int .i64 p3.2.2.1, .int .i64 p3.2.2.2.1, .int .i64 p3.2.2.2.2.1, .int .i64 p3.2.2.2.2.2])]) (NZ3 := []) W Aa Aa (all_cons (fun h => Ap (by kernel_rfl) h) (all_cons (fun h => Ap (by kernel_rfl) h) (all_cons (fun _ => (.tail _ (.head _))) (all_cons (fun _ => (.head _)) AD)))) AD ?_
  refine F4 Aa ?_
  obtain ⟨x6, h8, H⟩ := Ae H
  refine Cv (Ml := []) (Zl := []) (β := Value) (rv := fun x => x) (MM := fun x => []) (ZZ := fun x => [row x 59 Dk x6]) F W X0 Aa Aa (fun hL => OI _ w (v1) (v2) (v3) (v4) (v5) (v6) p0 p1 p2 p3 _ h8 ((Ab h_v1) w W).nx ((Ab h_v2) w W).nx ((Aq Bh h1 (Ab h_v3)) w W).nx ((Aq Bh h2 (Ab h_v4)) w W).nx ((Ab h_v5) w W).nx ((Aq Fp h3 (Ab h_v6)) w W).nx) fun x a w F W => ?_
  obtain ⟨v13, rfl⟩ : ∃ y, y = x := ⟨x, rfl⟩
  have W : Stw ⟨Y, [], w0⟩ (Cf b2 v5 v6 p3 b1 p0 v1 v2) [row v13 59 Dk x6, row v12 58 BK x5, row v10 78 HV x4.1, row v11 65 Kf x4.2.1] w := W
  refine Cq (N2 := []) (NZ2 := []) (N3 := [(some 5, b1, [.int .i64 p0.1, v1, v2]), (some 4, b2, [v5, v6, .int .i64 p3.2.2.1, .int .i64 p3.2.2.2.1, .int .i64 p3.2.2.2.2.1, .int .i64 p3.2.2.2.2.2]), (some 10, b1, [.int .i64 p0.1, v1, v2]), (some 10, b2, [v5, v6, .int .i64 p3.2.2.1, .int .i64 p3.2.2.2.1, .int .i64 p3.2.2.2.2.1, .int .i64 p3.2.2.2.2.2])]) (NZ3 := []) W Aa Aa (all_cons (fun h => Ap (by kernel_rfl) h) (all_cons (fun h => Ap (by kernel_rfl) h) (all_cons (fun h => Ap (by kernel_rfl) h) (all_cons (fun h => Ap (by kernel_rfl) h) AD)))) AD ?_
  refine F4 Aa ?_
  obtain ⟨x7, h9, H⟩ := Ae H
  refine ls F W Aa (AL (v := Value.bool x7) F H7 Aa (fun w W => Pu any w (v12) (v13) x5 x6 _ h9 (Ci (BE 1 Aa) W) (Ci (BE 0 Aa) W))) fun a w F W => ?_
  refine Cq (N2 := []) (NZ2 := []) (N3 := [(some 5, b1, [.int .i64 p0.1, v1, v2]), (some 4, b2, [v5, v6, .int .i64 p3.2.2.1, .int .i64 p3.2.2.2.1, .int .i64 p3.2.2.2.2.1, .int .i64 p3.2.2.2.2.2]), (some 10, b1, [.int .i64 p0.1, v1, v2]), (some 10, b2, [v5, v6, .int .i64 p3.2.2.1, .int .i64 p3.2.2.2.1, .int .i64 p3.2.2.2.2.1, .int .i64 p3.2.2.2.2.2])]) (NZ3 := []) W Aa Aa (all_cons (fun h => Ap (by kernel_rfl) h) (all_cons (fun h => Ap (by kernel_rfl) h) (all_cons (fun h => Ap (by kernel_rfl) h) (all_cons (fun h => Ap (by kernel_rfl) h) AD)))) AD ?_
  refine CJ (R := []) F Aa Aa (yC fun M Z hN hZ => Ak F Aa) Aa Aa fun a F => ?_
  rcases Bool.eq_false_or_eq_true x7 with hb | hb
  ·
   have H := B5 hb H
   rw [hb] at F
   clear hb
   iterate 2 refine VB (R := []) F Aa (Ad F Aa Aa Aa Aa) Aa Aa (yC fun M Z hN hZ => Ak F Aa) Aa Aa fun a F => ?_
   refine F4 Aa ?_
   refine I3 (Ad F Aa Aa Aa Aa) ?_
   refine ls F W Aa (AL (v := Value.string (bs (CW p4))) F WH Aa (fun w W => Km any w p4 _ Aa)) fun a w F W => ?_
   refine Cq (N2 := []) (NZ2 := []) (N3 := [(some 5, b1, [.int .i64 p0.1, v1, v2]), (some 4, b2, [v5, v6, .int .i64 p3.2.2.1, .int .i64 p3.2.2.2.1, .int .i64 p3.2.2.2.2.1, .int .i64 p3.2.2.2.2.2]), (some 10, b1, [.int .i64 p0.1, v1, v2]), (some 10, b2, [v5, v6, .int .i64 p3.2.2.1, .int .i64 p3.2.2.2.1, .int .i64 p3.2.2.2.2.1, .int .i64 p3.2.2.2.2.2])]) (NZ3 := []) W Aa Aa (all_cons (fun h => Ap (by kernel_rfl) h) (all_cons (fun h => Ap (by kernel_rfl) h) (all_cons (fun h => Ap (by kernel_rfl) h) (all_cons (fun h => Ap (by kernel_rfl) h) AD)))) AD ?_
   refine F4 Aa ?_
   refine I3 (Ad F Aa Aa Aa Aa) ?_
   obtain ⟨x8, h10, H⟩ := Ae H
   refine ls F W Aa (AL (v := Value.string (bs x8)) F Xt Aa (fun w W => Pm any w p4 _ h10)) fun a w F W => ?_
   refine Cq (N2 := []) (NZ2 := []) (N3 := [(some 5, b1, [.int .i64 p0.1, v1, v2]), (some 4, b2, [v5, v6, .int .i64 p3.2.2.1, .int .i64 p3.2.2.2.1, .int .i64 p3.2.2.2.2.1, .int .i64 p3.2.2.2.2.2]), (some 10, b1, [.int .i64 p0.1, v1, v2]), (some 10, b2, [v5, v6, .int .i64 p3.2.2.1, .int .i64 p3.2.2.2.1, .int .i64 p3.2.2.2.2.1, .int .i64 p3.2.2.2.2.2])]) (NZ3 := []) W Aa Aa (all_cons (fun h => Ap (by kernel_rfl) h) (all_cons (fun h => Ap (by kernel_rfl) h) (all_cons (fun h => Ap (by kernel_rfl) h) (all_cons (fun h => Ap (by kernel_rfl) h) AD)))) AD ?_
   refine VB (R := []) F Aa (Ad F Aa Aa Aa Aa) Aa Aa (yC fun M Z hN hZ => TX (l := (CW p4)) (m := x8) F Aa Aa) Aa Aa fun a F => ?_
   refine CJ (R := []) F Aa Aa (yC fun M Z hN hZ => Be F Aa Aa Aa) Aa Aa fun a F => ?_
   refine CJ (R := []) F Aa Aa (yC fun M Z hN hZ => Ak F Aa) Aa Aa fun a F => ?_
   rcases Bool.eq_false_or_eq_true (decide ((CW p4) = x8)) with hb | hb
   ·
    have H := B5 (CT hb) H
    rw [hb] at F
    clear hb
    refine F4 Aa ?_
    refine I3 (Ad F Aa Aa Aa Aa) ?_
    obtain ⟨x9, h11, H⟩ := Ae H
    refine ls F W Aa (AL (v := Value.bool x9) F H6 Aa (fun w W => Lr any w _ h11)) fun a w F W => ?_
    refine Cq (N2 := []) (NZ2 := []) (N3 := [(some 5, b1, [.int .i64 p0.1, v1, v2]), (some 4, b2, [v5, v6, .int .i64 p3.2.2.1, .int .i64 p3.2.2.2.1, .int .i64 p3.2.2.2.2.1, .int .i64 p3.2.2.2.2.2]), (some 10, b1, [.int .i64 p0.1, v1, v2]), (some 10, b2, [v5, v6, .int .i64 p3.2.2.1, .int .i64 p3.2.2.2.1, .int .i64 p3.2.2.2.2.1, .int .i64 p3.2.2.2.2.2])]) (NZ3 := []) W Aa Aa (all_cons (fun h => Ap (by kernel_rfl) h) (all_cons (fun h => Ap (by kernel_rfl) h) (all_cons (fun h => Ap (by kernel_rfl) h) (all_cons (fun h => Ap (by kernel_rfl) h) AD)))) AD ?_
    refine CJ (R := []) F Aa Aa (yC fun M Z hN hZ => Be F Aa Aa Aa) Aa Aa fun a F => ?_
    refine F4 Aa ?_
    refine ls F W Aa (Bl F Aa).q fun a w F W => ?_
    refine Cq (N2 := []) (NZ2 := []) (N3 := [(some 5, b1, [.int .i64 p0.1, v1, v2]), (some 4, b2, [v5, v6, .int .i64 p3.2.2.1, .int .i64 p3.2.2.2.1, .int .i64 p3.2.2.2.2.1, .int .i64 p3.2.2.2.2.2]), (some 10, b1, [.int .i64 p0.1, v1, v2]), (some 10, b2, [v5, v6, .int .i64 p3.2.2.1, .int .i64 p3.2.2.2.1, .int .i64 p3.2.2.2.2.1, .int .i64 p3.2.2.2.2.2])]) (NZ3 := []) W Aa Aa (all_cons (fun h => Ap (by kernel_rfl) h) (all_cons (fun h => Ap (by kernel_rfl) h) (all_cons (fun h => Ap (by kernel_rfl) h) (all_cons (fun h => Ap (by kernel_rfl) h) AD)))) AD ?_
    refine KS (Ac ?_)
    have W := W.frontM (i := 1) Aa Aa
    have W := W.frontM (i := 1) Aa Aa
    have W := W.sub (M' := (Cf b2 v5 v6 p3 b1 p0 v1 v2)) (Z' := []) (List.Sublist.refl _) (List.nil_sublist _)
    exact ⟨_, H, F.ra Aa, W⟩
   have H := B6 (CV hb) H
   rw [hb] at F
   clear hb
   refine F4 Aa ?_
   refine VT F Aa Aa Aa Aa Aa Aa Aa fun a F => ?_
   refine Cq (N2 := []) (NZ2 := []) (N3 := [(some 5, b1, [.int .i64 p0.1, v1, v2]), (some 4, b2, [v5, v6, .int .i64 p3.2.2.1, .int .i64 p3.2.2.2.1, .int .i64 p3.2.2.2.2.1, .int .i64 p3.2.2.2.2.2]), (some 10, b1, [.int .i64 p0.1, v1, v2]), (some 10, b2, [v5, v6, .int .i64 p3.2.2.1, .int .i64 p3.2.2.2.1, .int .i64 p3.2.2.2.2.1, .int .i64 p3.2.2.2.2.2])]) (NZ3 := []) W Aa Aa (all_cons (fun h => Ap (by kernel_rfl) h) (all_cons (fun h => Ap (by kernel_rfl) h) (all_cons (fun h => Ap (by kernel_rfl) h) (all_cons (fun h => Ap (by kernel_rfl) h) AD)))) AD ?_
   refine CJ (R := []) F Aa Aa (yC fun M Z hN hZ => Bk F Aa Aa Aa) Aa Aa fun a F => ?_
   refine F4 Aa ?_
   refine ls F W Aa (Bl F Aa).q fun a w F W => ?_
   refine Cq (N2 := []) (NZ2 := []) (N3 := [(some 5, b1, [.int .i64 p0.1, v1, v2]), (some 4, b2, [v5, v6, .int .i64 p3.2.2.1, .int .i64 p3.2.2.2.1, .int .i64 p3.2.2.2.2.1, .int .i64 p3.2.2.2.2.2]), (some 10, b1, [.int .i64 p0.1, v1, v2]), (some 10, b2, [v5, v6, .int .i64 p3.2.2.1, .int .i64 p3.2.2.2.1, .int .i64 p3.2.2.2.2.1, .int .i64 p3.2.2.2.2.2])]) (NZ3 := []) W Aa Aa (all_cons (fun h => Ap (by kernel_rfl) h) (all_cons (fun h => Ap (by kernel_rfl) h) (all_cons (fun h => Ap (by kernel_rfl) h) (all_cons (fun h => Ap (by kernel_rfl) h) AD)))) AD ?_
   refine KS (Ac ?_)
   have W := W.frontM (i := 1) Aa Aa
   have W := W.frontM (i := 1) Aa Aa
   have W := W.sub (M' := (Cf b2 v5 v6 p3 b1 p0 v1 v2)) (Z' := []) (List.Sublist.refl _) (List.nil_sublist _)
   exact ⟨_, H, F.ra Aa, W⟩
  have H := B6 (by rw [hb]; decide) H
  rw [hb] at F
  clear hb
  iterate 2 refine Qp F Aa (A1 F Aa Aa Aa Aa Aa) Aa Aa Aa fun a F => ?_
  refine F4 Aa ?_
  refine VT F Aa Aa Aa Aa Aa Aa Aa fun a F => ?_
  refine Cq (N2 := []) (NZ2 := []) (N3 := [(some 5, b1, [.int .i64 p0.1, v1, v2]), (some 4, b2, [v5, v6, .int .i64 p3.2.2.1, .int .i64 p3.2.2.2.1, .int .i64 p3.2.2.2.2.1, .int .i64 p3.2.2.2.2.2]), (some 10, b1, [.int .i64 p0.1, v1, v2]), (some 10, b2, [v5, v6, .int .i64 p3.2.2.1, .int .i64 p3.2.2.2.1, .int .i64 p3.2.2.2.2.1, .int .i64 p3.2.2.2.2.2])]) (NZ3 := []) W Aa Aa (all_cons (fun h => Ap (by kernel_rfl) h) (all_cons (fun h => Ap (by kernel_rfl) h) (all_cons (fun h => Ap (by kernel_rfl) h) (all_cons (fun h => Ap (by kernel_rfl) h) AD)))) AD ?_
  refine F4 Aa ?_
  refine VT F Aa Aa Aa Aa Aa Aa Aa fun a F => ?_
  refine Cq (N2 := []) (NZ2 := []) (N3 := [(some 5, b1, [.int .i64 p0.1, v1, v2]), (some 4, b2, [v5, v6, .int .i64 p3.2.2.1, .int .i64 p3.2.2.2.1, .int .i64 p3.2.2.2.2.1, .int .i64 p3.2.2.2.2.2]), (some 10, b1, [.int .i64 p0.1, v1, v2]), (some 10, b2, [v5, v6, .int .i64 p3.2.2.1, .int .i64 p3.2.2.2.1, .int .i64 p3.2.2.2.2.1, .int .i64 p3.2.2.2.2.2])]) (NZ3 := []) W Aa Aa (all_cons (fun h => Ap (by kernel_rfl) h) (all_cons (fun h => Ap (by kernel_rfl) h) (all_cons (fun h => Ap (by kernel_rfl) h) (all_cons (fun h => Ap (by kernel_rfl) h) AD)))) AD ?_
  refine Qp F Aa (A1 F Aa Aa Aa Aa Aa) Aa Aa Aa fun a F => ?_
  refine CJ (R := []) F Aa Aa (yC fun M Z hN hZ => Bk F Aa Aa Aa) Aa Aa fun a F => ?_
  refine CJ (R := []) F Aa Aa (yC fun M Z hN hZ => Ak F Aa) Aa Aa fun a F => ?_
  refine F4 Aa ?_
  refine VT F Aa Aa Aa Aa Aa Aa Aa fun a F => ?_
  refine Cq (N2 := []) (NZ2 := []) (N3 := [(some 5, b1, [.int .i64 p0.1, v1, v2]), (some 4, b2, [v5, v6, .int .i64 p3.2.2.1, .int .i64 p3.2.2.2.1, .int .i64 p3.2.2.2.2.1, .int .i64 p3.2.2.2.2.2]), (some 10, b1, [.int .i64 p0.1, v1, v2]), (some 10, b2, [v5, v6, .int .i64 p3.2.2.1, .int .i64 p3.2.2.2.1, .int .i64 p3.2.2.2.2.1, .int .i64 p3.2.2.2.2.2])]) (NZ3 := []) W Aa Aa (all_cons (fun h => Ap (by kernel_rfl) h) (all_cons (fun h => Ap (by kernel_rfl) h) (all_cons (fun h => Ap (by kernel_rfl) h) (all_cons (fun h => Ap (by kernel_rfl) h) AD)))) AD ?_
  refine CJ (R := []) F Aa Aa (yC fun M Z hN hZ => Bk F Aa Aa Aa) Aa Aa fun a F => ?_
  refine F4 Aa ?_
  refine ls F W Aa (Bl F Aa).q fun a w F W => ?_
  refine Cq (N2 := []) (NZ2 := []) (N3 := [(some 5, b1, [.int .i64 p0.1, v1, v2]), (some 4, b2, [v5, v6, .int .i64 p3.2.2.1, .int .i64 p3.2.2.2.1, .int .i64 p3.2.2.2.2.1, .int .i64 p3.2.2.2.2.2]), (some 10, b1, [.int .i64 p0.1, v1, v2]), (some 10, b2, [v5, v6, .int .i64 p3.2.2.1, .int .i64 p3.2.2.2.1, .int .i64 p3.2.2.2.2.1, .int .i64 p3.2.2.2.2.2])]) (NZ3 := []) W Aa Aa (all_cons (fun h => Ap (by kernel_rfl) h) (all_cons (fun h => Ap (by kernel_rfl) h) (all_cons (fun h => Ap (by kernel_rfl) h) (all_cons (fun h => Ap (by kernel_rfl) h) AD)))) AD ?_
  refine KS (Ac ?_)
  have W := W.frontM (i := 1) Aa Aa
  have W := W.frontM (i := 1) Aa Aa
  have W := W.sub (M' := (Cf b2 v5 v6 p3 b1 p0 v1 v2)) (Z' := []) (List.Sublist.refl _) (List.nil_sublist _)
  exact ⟨_, H, F.ra Aa, W⟩
 rintro a w ⟨x3, hj, F, W⟩
 have hj := Av hj
 subst hj
 have H := K1
 clear G1 K1
 refine Ao ?_
 have H := Av H
 subst H
 refine AE (.inl Aa) F W Aa (Ai F Aa) ?_
 exact ⟨rfl, W.done⟩
end Go.Proofs.Ythhoflfhegfmcaa
