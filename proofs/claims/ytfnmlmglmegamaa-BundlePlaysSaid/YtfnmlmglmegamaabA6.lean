/- The functions of layer 12, FK. Conditions: none. -/
import Derived.Test.YtfnmlmglmegamaabA5
namespace Go.Proofs.Ytfnmlmglmegamaa
open Go Go.RowKit
set_option linter.unusedVariables false
set_option linter.unusedSimpArgs false
set_option maxRecDepth 20000
theorem Tj : Has Try.prog 76 := BV Try.func76
noncomputable def EY (p0 : Int × (Int × Int × Int × Int) × (Int × Int × Int × Int)) (p1 : Int × (Int × Int × Int × Int) × (Int × Int × Int × Int)) (x1 : Int) : Int → Option (Int ⊕ (Unit ⊕ (Int ⊕ (Unit ⊕ Bool))))
  | x2 => (if x2 < 8 then ((ix ([p1.2.2.1, p1.2.2.2.1, p1.2.2.2.2.1, p1.2.2.2.2.2] : List Int) x1).bind fun x4 => (C2 x4 x2).bind fun x5 => (if x5 = 1 then (ix ([p0.2.2.1, p0.2.2.2.1, p0.2.2.2.2.1, p0.2.2.2.2.2] : List Int) x1).bind fun x6 => (C2 x6 x2).bind fun x7 => (if x7 = 0 then some true else (ix ([p0.2.1.1, p0.2.1.2.1, p0.2.1.2.2.1, p0.2.1.2.2.2] : List Int) x1).bind fun x8 => (C2 x8 x2).bind fun x9 => (ix ([p1.2.1.1, p1.2.1.2.1, p1.2.1.2.2.1, p1.2.1.2.2.2] : List Int) x1).bind fun x10 => (C2 x10 x2).bind fun x11 => some (decide (x9 ≠ x11))) else some false)).bind fun x3 => (if x3 = true then some (.inr (.inr (.inr (.inr false)))) else some (.inl (Cc (x2 + 1)))) else some (.inr (.inl ())))
noncomputable def E0 (p0 : Int × (Int × Int × Int × Int) × (Int × Int × Int × Int)) (p1 : Int × (Int × Int × Int × Int) × (Int × Int × Int × Int)) : Int → Option (Int ⊕ (Unit ⊕ Bool))
  | x1 => (if x1 < 4 then FR (AX (EY p0 p1 x1) 0) fun _ => some (.inl (Cc (x1 + 1))) else some (.inr (.inl ())))
noncomputable def FG (p0 : Int × (Int × Int × Int × Int) × (Int × Int × Int × Int)) (p1 : Int × (Int × Int × Int × Int) × (Int × Int × Int × Int)) : Option Bool := (if (decide (p1.1 ≠ (-1)) && decide (p0.1 ≠ p1.1)) = true then some false else FR (AX (E0 p0 p1) 0) fun _ => some true)
theorem Km (Y : Nat → Prop) (w0 : World)  (p0 : Int × (Int × Int × Int × Int) × (Int × Int × Int × Int)) (p1 : Int × (Int × Int × Int × Int) × (Int × Int × Int × Int)) (r : Bool) (H : FG p0 p1 = some r)  :
    Calls Try.prog 78 #[.agg #[.int .i64 p0.1, .int .i64 p0.2.1.1, .int .i64 p0.2.1.2.1, .int .i64 p0.2.1.2.2.1, .int .i64 p0.2.1.2.2.2, .int .i64 p0.2.2.1, .int .i64 p0.2.2.2.1, .int .i64 p0.2.2.2.2.1, .int .i64 p0.2.2.2.2.2], .agg #[.int .i64 p1.1, .int .i64 p1.2.1.1, .int .i64 p1.2.1.2.1, .int .i64 p1.2.1.2.2.1, .int .i64 p1.2.1.2.2.2, .int .i64 p1.2.2.1, .int .i64 p1.2.2.2.1, .int .i64 p1.2.2.2.2.1, .int .i64 p1.2.2.2.2.2]] w0 fun e w' => e = .returned (.bool r) ∧ Below w0.heap.size w0 w' := by
 refine enter Try.func78 Aa Try.ntmps78 Aa fun a F => ?_
 have W := Stw.start Y w0
 unfold FG at H
 refine vc tk 2 F W fun a w F W => ?_
 refine BR (cs := (EH p0)) F W Aa Aa Aa fun b1 a w F W => ?_
 refine BR (cs := [.int .i64 p1.1, .int .i64 p1.2.1.1, .int .i64 p1.2.1.2.1, .int .i64 p1.2.1.2.2.1, .int .i64 p1.2.1.2.2.2, .int .i64 p1.2.2.1, .int .i64 p1.2.2.2.1, .int .i64 p1.2.2.2.2.1, .int .i64 p1.2.2.2.2.2]) F W Aa Aa Aa fun b2 a w F W => ?_
 refine BJ tk 4 F W fun a w F W => ?_
 refine Au (fun a w => Fr 56 [] [(2, .pointer (some ⟨b1, 0, none⟩)), (3, .pointer (some ⟨b2, 0, none⟩)), (4, .bool false), (16, .bool (decide (p1.1 ≠ (-1)) && decide (p0.1 ≠ p1.1)))] a ∧ Stw ⟨Y, [], w0⟩ [(b2, [.int .i64 p1.1, .int .i64 p1.2.1.1, .int .i64 p1.2.1.2.1, .int .i64 p1.2.1.2.2.1, .int .i64 p1.2.1.2.2.2, .int .i64 p1.2.2.1, .int .i64 p1.2.2.2.1, .int .i64 p1.2.2.2.2.1, .int .i64 p1.2.2.2.2.2]), (b1, (EH p0))] [] w) ?_ ?_
 ·
  refine Fq tk 5 [0] F W (ai fun a w F W => ?_)
  rcases Bool.eq_false_or_eq_true (decide (p1.1 ≠ (-1))) with hb0 | hb0
  ·
   rw [hb0] at F
   refine Fu tk 7 [1, 0] F W (ai (ai fun a w F W => ?_))
   refine Ad ?_
   exact ⟨F.re ⟨rfl, Aa, Aa, (Ev (by try rw [hb0]; all_goals simp only [Es])), trivial⟩, W⟩
  rw [hb0] at F
  refine vl tk 7 F W fun a w F W => ?_
  refine Ad ?_
  exact ⟨F.re ⟨rfl, Aa, Aa, (Ev (by try rw [hb0]; all_goals simp only [Es])), trivial⟩, W⟩
 rintro a w ⟨F, W⟩
 refine BE F Aa H (fun F H => ?_) fun F H => ?_
 ·
  refine vc tk 5 F W fun a w F W => ?_
  refine Al (Aq ?_)
  have H := Av H
  subst H
  refine Aw (.inl Aa) F W Aa (Ai F Aa) ?_
  exact ⟨rfl, W.done⟩
 refine AC (Ad ?_)
 obtain ⟨o1, G1, K1, L1⟩ := H1 H
 refine Au (fun a w => some (Sum.inl ()) = some o1 ∧ Fr 56 [] [(4, .bool false)] a ∧ Stw ⟨Y, [], w0⟩ [(b2, [.int .i64 p1.1, .int .i64 p1.2.1.1, .int .i64 p1.2.1.2.1, .int .i64 p1.2.1.2.2.1, .int .i64 p1.2.1.2.2.2, .int .i64 p1.2.2.1, .int .i64 p1.2.2.2.1, .int .i64 p1.2.2.2.2.1, .int .i64 p1.2.2.2.2.2]), (b1, (EH p0))] [] w) ?_ ?_
 ·
  have H := G1
  clear G1 K1
  refine vc tk 6 F W fun a w F W => ?_
  have W := W.frontM (i := 1) Aa Aa
  have W := W.frontM (i := 1) Aa Aa
  refine BA H (fun s a w => Fr 56 [] [(2, .pointer (some ⟨b1, 0, none⟩)), (3, .pointer (some ⟨b2, 0, none⟩)), (4, .bool false), (5, .int .i64 s)] a ∧ Stw ⟨Y, [], w0⟩ [(b2, [.int .i64 p1.1, .int .i64 p1.2.1.1, .int .i64 p1.2.1.2.1, .int .i64 p1.2.1.2.2.1, .int .i64 p1.2.1.2.2.2, .int .i64 p1.2.2.1, .int .i64 p1.2.2.2.1, .int .i64 p1.2.2.2.2.1, .int .i64 p1.2.2.2.2.2]), (b1, (EH p0))] [] w) ⟨F.ra Aa, W⟩ fun s o a w H L2 hR => ?_
  obtain ⟨x1, rfl⟩ : ∃ x, x = s := ⟨s, rfl⟩
  obtain ⟨F, W⟩ := hR
  have F : Fr 56 [] [(2, .pointer (some ⟨b1, 0, none⟩)), (3, .pointer (some ⟨b2, 0, none⟩)), (4, .bool false), (5, .int .i64 x1)] a := F
  have W : Stw ⟨Y, [], w0⟩ [(b2, [.int .i64 p1.1, .int .i64 p1.2.1.1, .int .i64 p1.2.1.2.1, .int .i64 p1.2.1.2.2.1, .int .i64 p1.2.1.2.2.2, .int .i64 p1.2.2.1, .int .i64 p1.2.2.2.1, .int .i64 p1.2.2.2.2.1, .int .i64 p1.2.2.2.2.2]), (b1, (EH p0))] [] w := W
  rw [E0] at H
  refine vc tk 7 F W fun a w F W => ?_
  refine Bi F Aa H (fun F H => ?_) fun F H => ?_
  ·
   refine AC (Ad ?_)
   obtain ⟨o3, G3, K3, L3⟩ := H1 H
   refine Au (fun a w => some (Sum.inl ()) = some o3 ∧ Fr 56 [] [(2, .pointer (some ⟨b1, 0, none⟩)), (3, .pointer (some ⟨b2, 0, none⟩)), (4, .bool false), (5, .int .i64 x1)] a ∧ Stw ⟨Y, [], w0⟩ [(b2, [.int .i64 p1.1, .int .i64 p1.2.1.1, .int .i64 p1.2.1.2.1, .int .i64 p1.2.1.2.2.1, .int .i64 p1.2.1.2.2.2, .int .i64 p1.2.2.1, .int .i64 p1.2.2.2.1, .int .i64 p1.2.2.2.2.1, .int .i64 p1.2.2.2.2.2]), (b1, (EH p0))] [] w) ?_ ?_
   ·
    have H := G3
    clear G3 K3
    refine vc tk 7 F W fun a w F W => ?_
    have W := W.frontM (i := 1) Aa Aa
    have W := W.frontM (i := 1) Aa Aa
    refine BA H (fun s a w => Fr 56 [] [(2, .pointer (some ⟨b1, 0, none⟩)), (3, .pointer (some ⟨b2, 0, none⟩)), (4, .bool false), (5, .int .i64 x1), (6, .int .i64 s)] a ∧ Stw ⟨Y, [], w0⟩ [(b2, [.int .i64 p1.1, .int .i64 p1.2.1.1, .int .i64 p1.2.1.2.1, .int .i64 p1.2.1.2.2.1, .int .i64 p1.2.1.2.2.2, .int .i64 p1.2.2.1, .int .i64 p1.2.2.2.1, .int .i64 p1.2.2.2.2.1, .int .i64 p1.2.2.2.2.2]), (b1, (EH p0))] [] w) ⟨F.ra Aa, W⟩ fun s o a w H L4 hR => ?_
    obtain ⟨x2, rfl⟩ : ∃ x, x = s := ⟨s, rfl⟩
    obtain ⟨F, W⟩ := hR
    have F : Fr 56 [] [(2, .pointer (some ⟨b1, 0, none⟩)), (3, .pointer (some ⟨b2, 0, none⟩)), (4, .bool false), (5, .int .i64 x1), (6, .int .i64 x2)] a := F
    have W : Stw ⟨Y, [], w0⟩ [(b2, [.int .i64 p1.1, .int .i64 p1.2.1.1, .int .i64 p1.2.1.2.1, .int .i64 p1.2.1.2.2.1, .int .i64 p1.2.1.2.2.2, .int .i64 p1.2.2.1, .int .i64 p1.2.2.2.1, .int .i64 p1.2.2.2.2.1, .int .i64 p1.2.2.2.2.2]), (b1, (EH p0))] [] w := W
    rw [EY] at H
    refine vc tk 7 F W fun a w F W => ?_
    refine Bi F Aa H (fun F H => ?_) fun F H => ?_
    ·
     refine D6 tk 4 F W fun a w F W => ?_
     obtain ⟨o5, G5, K5⟩ := Af H
     refine Au (fun a w => ∃ x3 : Bool, some (x3) = some o5 ∧ Fr 56 [] [(2, .pointer (some ⟨b1, 0, none⟩)), (3, .pointer (some ⟨b2, 0, none⟩)), (4, .bool false), (5, .int .i64 x1), (6, .int .i64 x2), (55, .bool x3)] a ∧ Stw ⟨Y, [], w0⟩ [(b2, [.int .i64 p1.1, .int .i64 p1.2.1.1, .int .i64 p1.2.1.2.1, .int .i64 p1.2.1.2.2.1, .int .i64 p1.2.1.2.2.2, .int .i64 p1.2.2.1, .int .i64 p1.2.2.2.1, .int .i64 p1.2.2.2.2.1, .int .i64 p1.2.2.2.2.2]), (b1, (EH p0))] [] w) ?_ ?_
     ·
      have H := G5
      clear G5 K5
      refine Ck W MO (by kernel_rfl) ?_
      refine qs F Aa (Am F Aa).q fun a F => ?_
      refine qs F Aa (Aj Eb Aa Aa Aa Hk F Aa 5 Aa).q fun a F => ?_
      obtain ⟨x4, h1, H⟩ := Af H
      refine qs F Aa (A7 (5 + (x1).toNat * 1) DA F Aa Aa Aa h1 Aa).q fun a F => ?_
      refine qs F Aa (Bn (v := Value.int .i64 x4) 0 F Aa Aa T3 (B1 (base := 5) (m := 4) (l := [p1.2.2.1, p1.2.2.2.1, p1.2.2.2.2.1, p1.2.2.2.2.2]) (enc := Value.int .i64) Aa h1)).q fun a F => ?_
      refine qs F Aa (Am F Aa).q fun a F => ?_
      obtain ⟨x5, h2, H⟩ := Af H
      refine qs F Aa (AM (v := Value.int .i64 x5) F Nc Aa (fun w W => CU any w x4 x2 _ h2)) fun a F => ?_
      refine qs F Aa (Hg F Aa Aa).q fun a F => ?_
      refine qs F Aa (Am F Aa).q fun a F => ?_
      rcases Bool.eq_false_or_eq_true (decide (x5 = 1)) with hb | hb
      ·
       have H := B4 (Cn hb) H
       rw [hb] at F
       clear hb
       refine A2 F (Ae F Aa Aa Aa Aa) Aa (As Aa) (Am F Aa).q fun a F => ?_
       refine A2 F (Ae F Aa Aa Aa Aa) Aa (As Aa) (Aj Eb Aa Aa Aa Hk F Aa 5 Aa).q fun a F => ?_
       obtain ⟨x6, h3, H⟩ := Af H
       refine A2 F (Ae F Aa Aa Aa Aa) Aa (As Aa) (A7 (5 + (x1).toNat * 1) DA F Aa Aa Aa h3 Aa).q fun a F => ?_
       refine A2 F (Ae F Aa Aa Aa Aa) Aa (As Aa) (Bn (v := Value.int .i64 x6) 1 F Aa Aa T3 (B1 (base := 5) (m := 4) (l := [p0.2.2.1, p0.2.2.2.1, p0.2.2.2.2.1, p0.2.2.2.2.2]) (enc := Value.int .i64) Aa h3)).q fun a F => ?_
       refine A2 F (Ae F Aa Aa Aa Aa) Aa (As Aa) (Am F Aa).q fun a F => ?_
       obtain ⟨x7, h4, H⟩ := Af H
       refine A2 F (Ae F Aa Aa Aa Aa) Aa (As Aa) (AM (v := Value.int .i64 x7) F Nc Aa (fun w W => CU any w x6 x2 _ h4)) fun a F => ?_
       refine A2 F (Ae F Aa Aa Aa Aa) Aa (As Aa) (Hg F Aa Aa).q fun a F => ?_
       refine A2 F (Ae F Aa Aa Aa Aa) Aa (As Aa) (Am F Aa).q fun a F => ?_
       rcases Bool.eq_false_or_eq_true (decide (x7 = 0)) with hb | hb
       ·
        have H := B4 (Cn hb) H
        rw [hb] at F
        clear hb
        iterate 13 refine AP F (AB F Aa Aa Aa Aa Aa) Aa Aa fun a F => ?_
        refine A2 F (Ae F Aa Aa Aa Aa) Aa (As Aa) (BH F Aa Aa Aa).q fun a F => ?_
        refine qs F Aa (BH F Aa Aa Aa).q fun a F => ?_
        refine AJ fun w W => ?_
        refine Ad ?_
        have W := W.frontM (i := 1) Aa Aa
        have W := W.frontM (i := 1) Aa Aa
        exact ⟨_, H, F.ra Aa, W⟩
       have H := B5 (Cp hb) H
       rw [hb] at F
       clear hb
       refine A2 F (Ae F Aa Aa Aa Aa) Aa (As Aa) (Am F Aa).q fun a F => ?_
       refine A2 F (Ae F Aa Aa Aa Aa) Aa (As Aa) (Aj Eb Aa Aa Aa Hk F Aa 1 Aa).q fun a F => ?_
       obtain ⟨x8, h5, H⟩ := Af H
       refine A2 F (Ae F Aa Aa Aa Aa) Aa (As Aa) (A7 (1 + (x1).toNat * 1) DA F Aa Aa Aa h5 Aa).q fun a F => ?_
       refine A2 F (Ae F Aa Aa Aa Aa) Aa (As Aa) (Bn (v := Value.int .i64 x8) 1 F Aa Aa T3 (B1 (base := 1) (m := 4) (l := [p0.2.1.1, p0.2.1.2.1, p0.2.1.2.2.1, p0.2.1.2.2.2]) (enc := Value.int .i64) Aa h5)).q fun a F => ?_
       refine A2 F (Ae F Aa Aa Aa Aa) Aa (As Aa) (Am F Aa).q fun a F => ?_
       obtain ⟨x9, h6, H⟩ := Af H
       refine A2 F (Ae F Aa Aa Aa Aa) Aa (As Aa) (AM (v := Value.int .i64 x9) F Nc Aa (fun w W => CU any w x8 x2 _ h6)) fun a F => ?_
       refine A2 F (Ae F Aa Aa Aa Aa) Aa (As Aa) (Am F Aa).q fun a F => ?_
       refine A2 F (Ae F Aa Aa Aa Aa) Aa (As Aa) (Aj Eb Aa Aa Aa Hk F Aa 1 Aa).q fun a F => ?_
       obtain ⟨x10, h7, H⟩ := Af H
       refine A2 F (Ae F Aa Aa Aa Aa) Aa (As Aa) (A7 (1 + (x1).toNat * 1) DA F Aa Aa Aa h7 Aa).q fun a F => ?_
       refine A2 F (Ae F Aa Aa Aa Aa) Aa (As Aa) (Bn (v := Value.int .i64 x10) 0 F Aa Aa T3 (B1 (base := 1) (m := 4) (l := [p1.2.1.1, p1.2.1.2.1, p1.2.1.2.2.1, p1.2.1.2.2.2]) (enc := Value.int .i64) Aa h7)).q fun a F => ?_
       refine A2 F (Ae F Aa Aa Aa Aa) Aa (As Aa) (Am F Aa).q fun a F => ?_
       obtain ⟨x11, h8, H⟩ := Af H
       refine A2 F (Ae F Aa Aa Aa Aa) Aa (As Aa) (AM (v := Value.int .i64 x11) F Nc Aa (fun w W => CU any w x10 x2 _ h8)) fun a F => ?_
       refine A2 F (Ae F Aa Aa Aa Aa) Aa (As Aa) (Kb F Aa Aa).q fun a F => ?_
       refine A2 F (Ae F Aa Aa Aa Aa) Aa (As Aa) (AO F Aa Aa Aa).q fun a F => ?_
       refine qs F Aa (BH F Aa Aa Aa).q fun a F => ?_
       refine AJ fun w W => ?_
       refine Ad ?_
       have W := W.frontM (i := 1) Aa Aa
       have W := W.frontM (i := 1) Aa Aa
       exact ⟨_, H, F.ra Aa, W⟩
      have H := B5 (Cp hb) H
      rw [hb] at F
      clear hb
      iterate 8 refine AP F (AB F Aa Aa Aa Aa Aa) Aa Aa fun a F => ?_
      iterate 13 refine AP F (HP F Aa Aa Aa Aa) Aa Aa fun a F => ?_
      refine AP F (AB F Aa Aa Aa Aa Aa) Aa Aa fun a F => ?_
      refine qs F Aa (AO F Aa Aa Aa).q fun a F => ?_
      refine AJ fun w W => ?_
      refine Ad ?_
      have W := W.frontM (i := 1) Aa Aa
      have W := W.frontM (i := 1) Aa Aa
      exact ⟨_, H, F.ra Aa, W⟩
     rintro a w ⟨x3, hj, F, W⟩
     have hj := Av hj
     subst hj
     have H := K5
     clear G5 K5
     refine BE F Aa H (fun F H => ?_) fun F H => ?_
     ·
      refine vc tk 5 F W fun a w F W => ?_
      refine Al (Az ?_)
      iterate 2 refine Aq ?_
      iterate 2 refine Az ?_
      iterate 2 refine Aq ?_
      refine Az (Aq ?_)
      have H := L4 _ H
      have H := L3 _ H
      have H := L2 _ H
      have H := L1 _ H
      have H := Av H
      subst H
      refine Aw (.inl Aa) F W Aa (Ai F Aa) ?_
      exact ⟨rfl, W.done⟩
     refine AC (AF ?_)
     refine vn tk 5 F W fun a w F W => ?_
     refine Ad ?_
     have W := W.frontM (i := 1) Aa Aa
     have W := W.frontM (i := 1) Aa Aa
     exact ⟨_, H, F.ra Aa, W⟩
    refine Bm ?_
    iterate 2 refine BU ?_
    refine Bp (AF (Ad ?_))
    have W := W.frontM (i := 1) Aa Aa
    have W := W.frontM (i := 1) Aa Aa
    have H := L4 _ H
    exact ⟨H, F.ra Aa, W⟩
   rintro a w ⟨hj, F, W⟩
   have H := K3 _ hj
   clear hj G3 K3 L3
   refine vc tk 5 F W fun a w F W => ?_
   refine Ad ?_
   have W := W.frontM (i := 1) Aa Aa
   have W := W.frontM (i := 1) Aa Aa
   exact ⟨_, H, F.ra Aa, W⟩
  refine Bm ?_
  iterate 2 refine BU ?_
  refine Bp (Ad ?_)
  have W := W.frontM (i := 1) Aa Aa
  have W := W.frontM (i := 1) Aa Aa
  have H := L2 _ H
  exact ⟨H, F.ra Aa, W⟩
 rintro a w ⟨hj, F, W⟩
 have H := K1 _ hj
 clear hj G1 K1 L1
 refine vc tk 5 F W fun a w F W => ?_
 refine Al ?_
 have H := Av H
 subst H
 refine Aw (.inl Aa) F W Aa (Ai F Aa) ?_
 exact ⟨rfl, W.done⟩
theorem Tf : Has Try.prog 78 := BV Try.func78
def Ak (p0 : Int × (Int × (Int × Int × Int × Int) × (Int × Int × Int × Int)) × (List (Int × Int × Int))) (p1 : List (Int × Int × Int)) : (Int × (Int × (Int × Int × Int × Int) × (Int × Int × Int × Int)) × (List (Int × Int × Int))) := (p0.1, p0.2.1, p1)
theorem LW (Y : Nat → Prop) (w0 : World) (v1 : Value) (v2 : Value) (p0 : Int × (Int × (Int × Int × Int × Int) × (Int × Int × Int × Int)) × (List (Int × Int × Int))) (p1 : List (Int × Int × Int)) (r : (Int × (Int × (Int × Int × Int × Int) × (Int × Int × Int × Int)) × (List (Int × Int × Int)))) (H : Ak p0 p1 = r) (h_v1 : Sl w0 (NX []) Bk v1 p0.2.2) (s_v2 : Sl w0 Y Bk v2 p1) :
    Calls Try.prog 79 #[.agg #[.int .i64 p0.1, .int .i64 p0.2.1.1, .int .i64 p0.2.1.2.1.1, .int .i64 p0.2.1.2.1.2.1, .int .i64 p0.2.1.2.1.2.2.1, .int .i64 p0.2.1.2.1.2.2.2, .int .i64 p0.2.1.2.2.1, .int .i64 p0.2.1.2.2.2.1, .int .i64 p0.2.1.2.2.2.2.1, .int .i64 p0.2.1.2.2.2.2.2, v1], v2] w0 fun e w' => ∃ x : Value, e = .returned (.agg #[.int .i64 r.1, .int .i64 r.2.1.1, .int .i64 r.2.1.2.1.1, .int .i64 r.2.1.2.1.2.1, .int .i64 r.2.1.2.1.2.2.1, .int .i64 r.2.1.2.1.2.2.2, .int .i64 r.2.1.2.2.1, .int .i64 r.2.1.2.2.2.1, .int .i64 r.2.1.2.2.2.2.1, .int .i64 r.2.1.2.2.2.2.2, x]) ∧ Stw ⟨Y, [], w0⟩ [] [Bo (x) Bk r.2.2] w' := by
 refine enter Try.func79 Aa Try.ntmps79 Aa fun a F => ?_
 have W := Stw.start Y w0
 have h_v2 := W.nx s_v2
 unfold Ak at H
 refine vc tk 2 F W fun a w F W => ?_
 refine BR (cs := (DZ p0 v1)) F W Aa Aa Aa fun b1 a w F W => ?_
 refine Ca (cs := (Iu)) F W Aa Kz Aa fun b2 a w F W => ?_
 refine BJ tk 6 F W fun a w F W => ?_
 refine HU (M' := (N1 b2 b1 p0 v2)) 1 F W Aa Aa Aa Nt h_v2.one Aa Aa fun w W => ?_
 refine Eo tk 5 [1] F W (ai fun a w F W => ?_)
 refine Dh 0 F W Aa Aa Aa EM Aa Aa (Ac Aa (Ac Aa (Ac Aa (Ac Aa (Ac Aa (Ac Aa (Ac Aa (Ac Aa (Ac Aa (Ac Aa (Ac h_v2.one Cr))))))))))) fun w W => ?_
 refine BJ tk 2 F W fun a w F W => ?_
 refine Al ?_
 subst H
 refine Aw (.inl Aa) F W Aa (Dp 0 F Aa Aa EM Aa) ?_
 have W := W.note (W.old s_v2)
 have W := W.sub (M' := []) (Z' := [Bo v2 Bk p1]) (List.nil_sublist _) (List.Sublist.refl _)
 exact ⟨(v2), Aa, W⟩
theorem SW : Has Try.prog 79 := BV Try.func79
noncomputable def CF (p0 : List (Int × (Int × (Int × Int × Int × Int) × (Int × Int × Int × Int)) × (List (Int × Int × Int)))) (p1 : Int × (Int × (Int × (Int × Int × Int × Int) × (Int × Int × Int × Int)) × (List (Int × Int × Int))) × Bool) (p3 : Bool) : (Bool × (List (Int × (Int × (Int × Int × Int × Int) × (Int × Int × Int × Int)) × (List (Int × Int × Int)))) × Int × Int) → Option ((Bool × (List (Int × (Int × (Int × Int × Int × Int) × (Int × Int × Int × Int)) × (List (Int × Int × Int)))) × Int × Int) ⊕ ((List (Int × (Int × (Int × Int × Int × Int) × (Int × Int × Int × Int)) × (List (Int × Int × Int)))) × Int))
  | (x3, x4, x5, x6) => (if x6 < (p0.length : Int) then ((ix p0 x6).bind fun x10 => (FG x10.2.1 p1.2.1.2.1).bind fun x11 => (if x3 = true then (ix p0 x6).bind fun x14 => some (true, (FP x14 p1.2.1)) else some (false, x11)).bind fun (x12, x13) => (if (!x13) = true then (ix p0 x6).bind fun x15 => (JQ x4 ([x15] : List (Int × (Int × (Int × Int × Int × Int) × (Int × Int × Int × Int)) × (List (Int × Int × Int))))).bind fun x16 => some (x12, x16, x5) else (if (!p3) = true then (ix p0 x6).bind fun x17 => (JQ x4 ([((Ak x17 p1.2.1.2.2).1, ((Ak x17 p1.2.1.2.2).2.1.1, ((Ak x17 p1.2.1.2.2).2.1.2.1.1, (Ak x17 p1.2.1.2.2).2.1.2.1.2.1, (Ak x17 p1.2.1.2.2).2.1.2.1.2.2.1, (Ak x17 p1.2.1.2.2).2.1.2.1.2.2.2), ((Ak x17 p1.2.1.2.2).2.1.2.2.1, (Ak x17 p1.2.1.2.2).2.1.2.2.2.1, (Ak x17 p1.2.1.2.2).2.1.2.2.2.2.1, (Ak x17 p1.2.1.2.2).2.1.2.2.2.2.2)), (Ak x17 p1.2.1.2.2).2.2)] : List (Int × (Int × (Int × Int × Int × Int) × (Int × Int × Int × Int)) × (List (Int × Int × Int))))).bind fun x18 => some (x12, x18, Cc (x5 + 1)) else some (x12, x4, Cc (x5 + 1))))).bind fun (x7, x8, x9) => some (.inl (x7, x8, x9, Cc (x6 + 1))) else some (.inr (x4, x5)))
noncomputable def DM (p0 : List (Int × (Int × (Int × Int × Int × Int) × (Int × Int × Int × Int)) × (List (Int × Int × Int)))) (p1 : Int × (Int × (Int × (Int × Int × Int × Int) × (Int × Int × Int × Int)) × (List (Int × Int × Int))) × Bool) (p2 : Bool) (p3 : Bool) : Option ((List (Int × (Int × (Int × Int × Int × Int) × (Int × Int × Int × Int)) × (List (Int × Int × Int)))) × Int) := (AX (CF p0 p1 p3) (p2, [], 0, 0)).bind fun (x1, x2) => some (x1, x2)
theorem Hi (Y : Nat → Prop) (w0 : World) (v1 : Value) (v2 : Value) (p0 : List (Int × (Int × (Int × Int × Int × Int) × (Int × Int × Int × Int)) × (List (Int × Int × Int)))) (p1 : Int × (Int × (Int × (Int × Int × Int × Int) × (Int × Int × Int × Int)) × (List (Int × Int × Int))) × Bool) (p2 : Bool) (p3 : Bool) (r : (List (Int × (Int × (Int × Int × Int × Int) × (Int × Int × Int × Int)) × (List (Int × Int × Int)))) × Int) (H : DM p0 p1 p2 p3 = some r) (s_v1 : Sl w0 Y AK v1 p0) (s_v2 : Sl w0 Y Bk v2 p1.2.1.2.2) :
    Calls Try.prog 62 #[v1, .agg #[.int .i64 p1.1, .int .i64 p1.2.1.1, .int .i64 p1.2.1.2.1.1, .int .i64 p1.2.1.2.1.2.1.1, .int .i64 p1.2.1.2.1.2.1.2.1, .int .i64 p1.2.1.2.1.2.1.2.2.1, .int .i64 p1.2.1.2.1.2.1.2.2.2, .int .i64 p1.2.1.2.1.2.2.1, .int .i64 p1.2.1.2.1.2.2.2.1, .int .i64 p1.2.1.2.1.2.2.2.2.1, .int .i64 p1.2.1.2.1.2.2.2.2.2, v2, .bool p1.2.2], .bool p2, .bool p3] w0 fun e w' => ∃ x : Value, e = .returned (.tuple #[x, .int .i64 r.2]) ∧ Stw ⟨Y, [], w0⟩ [] [row (x) 37 AK r.1] w' := by
 refine enter Try.func62 Aa Try.ntmps62 Aa fun a F => ?_
 have W := Stw.start Y w0
 obtain ⟨v3, h1, s_v1⟩ := s_v1.ex A4
 have h_v1 := W.nx s_v1
 have h_v2 := W.nx s_v2
 unfold DM at H
 refine vc tk 2 F W fun a w F W => ?_
 refine BR (cs := [.int .i64 p1.1, .int .i64 p1.2.1.1, .int .i64 p1.2.1.2.1.1, .int .i64 p1.2.1.2.1.2.1.1, .int .i64 p1.2.1.2.1.2.1.2.1, .int .i64 p1.2.1.2.1.2.1.2.2.1, .int .i64 p1.2.1.2.1.2.1.2.2.2, .int .i64 p1.2.1.2.1.2.2.1, .int .i64 p1.2.1.2.1.2.2.2.1, .int .i64 p1.2.1.2.1.2.2.2.2.1, .int .i64 p1.2.1.2.1.2.2.2.2.2, v2, .bool p1.2.2]) F W Aa Aa Aa fun b1 a w F W => ?_
 refine BJ tk 14 F W fun a w F W => ?_
 obtain ⟨o1, G1, K1⟩ := Af H
 refine Au (fun a w => ∃ x1 : List (Int × (Int × (Int × Int × Int × Int) × (Int × Int × Int × Int)) × (List (Int × Int × Int))), ∃ x2 : Int, ∃ v4 : Value, some ((x1, x2)) = some o1 ∧ Fr 63 [] [(8, .slice none 0 0), (9, .int .i64 0), (10, v4), (11, .int .i64 x2)] a ∧ Stw ⟨Y, [], w0⟩ [(b1, [.int .i64 p1.1, .int .i64 p1.2.1.1, .int .i64 p1.2.1.2.1.1, .int .i64 p1.2.1.2.1.2.1.1, .int .i64 p1.2.1.2.1.2.1.2.1, .int .i64 p1.2.1.2.1.2.1.2.2.1, .int .i64 p1.2.1.2.1.2.1.2.2.2, .int .i64 p1.2.1.2.1.2.2.1, .int .i64 p1.2.1.2.1.2.2.2.1, .int .i64 p1.2.1.2.1.2.2.2.2.1, .int .i64 p1.2.1.2.1.2.2.2.2.2, v2, .bool p1.2.2])] [row v4 37 AK x1] w) ?_ ?_
 ·
  have H := G1
  clear G1 K1
  refine vc tk 6 F W fun a w F W => ?_
  have W := W.nilRow 37 AK
  refine BA H (fun s a w => ∃ v5 : Value, Fr 63 [] [(0, v1), (2, .bool s.1), (3, .bool p3), (5, .pointer (some ⟨b1, 0, none⟩)), (8, .slice none 0 0), (9, .int .i64 0), (10, v5), (11, .int .i64 s.2.2.1), (12, .int .i64 s.2.2.2)] a ∧ Stw ⟨Y, [], w0⟩ [(b1, [.int .i64 p1.1, .int .i64 p1.2.1.1, .int .i64 p1.2.1.2.1.1, .int .i64 p1.2.1.2.1.2.1.1, .int .i64 p1.2.1.2.1.2.1.2.1, .int .i64 p1.2.1.2.1.2.1.2.2.1, .int .i64 p1.2.1.2.1.2.1.2.2.2, .int .i64 p1.2.1.2.1.2.2.1, .int .i64 p1.2.1.2.1.2.2.2.1, .int .i64 p1.2.1.2.1.2.2.2.2.1, .int .i64 p1.2.1.2.1.2.2.2.2.2, v2, .bool p1.2.2])] [row v5 37 AK s.2.1] w) ⟨(Value.slice none 0 0), F.ra Aa, W⟩ fun s o a w H L2 hR => ?_
  obtain ⟨x3, x4, x5, x6⟩ := s
  obtain ⟨v5, F, W⟩ := hR
  have F : Fr 63 [] [(0, v1), (2, .bool x3), (3, .bool p3), (5, .pointer (some ⟨b1, 0, none⟩)), (8, .slice none 0 0), (9, .int .i64 0), (10, v5), (11, .int .i64 x5), (12, .int .i64 x6)] a := F
  have W : Stw ⟨Y, [], w0⟩ [(b1, [.int .i64 p1.1, .int .i64 p1.2.1.1, .int .i64 p1.2.1.2.1.1, .int .i64 p1.2.1.2.1.2.1.1, .int .i64 p1.2.1.2.1.2.1.2.1, .int .i64 p1.2.1.2.1.2.1.2.2.1, .int .i64 p1.2.1.2.1.2.1.2.2.2, .int .i64 p1.2.1.2.1.2.2.1, .int .i64 p1.2.1.2.1.2.2.2.1, .int .i64 p1.2.1.2.1.2.2.2.2.1, .int .i64 p1.2.1.2.1.2.2.2.2.2, v2, .bool p1.2.2])] [row v5 37 AK x4] w := W
  rw [CF] at H
  refine vc tk 5 F W fun a w F W => ?_
  refine ls F W Aa (B7 (r := AK) (l := p0) E7 Aa F Aa (Bq A4 h1 (An h_v1))).q fun a w F W => ?_
  refine BJ tk 3 F W fun a w F W => ?_
  refine Bi F Aa H (fun F H => ?_) fun F H => ?_
  ·
   refine AC (Ad ?_)
   obtain ⟨o3, G3, K3⟩ := Af H
   refine Au (fun a w => ∃ x7 : Bool, ∃ x8 : List (Int × (Int × (Int × Int × Int × Int) × (Int × Int × Int × Int)) × (List (Int × Int × Int))), ∃ x9 : Int, ∃ v6 : Value, some ((x7, x8, x9)) = some o3 ∧ Fr 63 [] [(0, v1), (2, .bool x7), (3, .bool p3), (5, .pointer (some ⟨b1, 0, none⟩)), (8, .slice none 0 0), (9, .int .i64 0), (10, v6), (11, .int .i64 x9), (12, .int .i64 x6)] a ∧ Stw ⟨Y, [], w0⟩ [(b1, [.int .i64 p1.1, .int .i64 p1.2.1.1, .int .i64 p1.2.1.2.1.1, .int .i64 p1.2.1.2.1.2.1.1, .int .i64 p1.2.1.2.1.2.1.2.1, .int .i64 p1.2.1.2.1.2.1.2.2.1, .int .i64 p1.2.1.2.1.2.1.2.2.2, .int .i64 p1.2.1.2.1.2.2.1, .int .i64 p1.2.1.2.1.2.2.2.1, .int .i64 p1.2.1.2.1.2.2.2.2.1, .int .i64 p1.2.1.2.1.2.2.2.2.2, v2, .bool p1.2.2])] [row v6 37 AK x8] w) ?_ ?_
   ·
    have H := G3
    clear G3 K3
    refine vc tk 2 F W fun a w F W => ?_
    obtain ⟨v7, h2, W⟩ := W.exR A4
    refine Ck W MO (by kernel_rfl) ?_
    iterate 2 refine qs F Aa (Am F Aa).q fun a F => ?_
    obtain ⟨x10, h3, H⟩ := Af H
    obtain ⟨v8, h4, h5⟩ := BX h1 h3
    have h6 : Cy v8 = [.int .i64 x10.1, .int .i64 x10.2.1.1, .int .i64 x10.2.1.2.1.1, .int .i64 x10.2.1.2.1.2.1, .int .i64 x10.2.1.2.1.2.2.1, .int .i64 x10.2.1.2.1.2.2.2, .int .i64 x10.2.1.2.2.1, .int .i64 x10.2.1.2.2.2.1, .int .i64 x10.2.1.2.2.2.2.1, .int .i64 x10.2.1.2.2.2.2.2, (v8.2.2.1)] := congrArg (fun q : Int × (Int × (Int × Int × Int × Int) × (Int × Int × Int × Int)) × (List (Int × Int × Int)) => ([.int .i64 q.1, .int .i64 q.2.1.1, .int .i64 q.2.1.2.1.1, .int .i64 q.2.1.2.1.2.1, .int .i64 q.2.1.2.1.2.2.1, .int .i64 q.2.1.2.1.2.2.2, .int .i64 q.2.1.2.2.1, .int .i64 q.2.1.2.2.2.1, .int .i64 q.2.1.2.2.2.2.1, .int .i64 q.2.1.2.2.2.2.2, (v8.2.2.1)] : List Value)) h5
    refine qs F Aa (AR (r := C4) EL F Aa Aa (An h_v1) h4).q fun a F => ?_
    refine qs F Aa (Aj Ij Aa Aa Aa H2 F Aa (Ei v1 + (x6).toNat * 11 + 1) Aa).q fun a F => ?_
    refine qs F Aa (AD (y := Value.agg #[.int .i64 x10.2.1.1, .int .i64 x10.2.1.2.1.1, .int .i64 x10.2.1.2.1.2.1, .int .i64 x10.2.1.2.1.2.2.1, .int .i64 x10.2.1.2.1.2.2.2, .int .i64 x10.2.1.2.2.1, .int .i64 x10.2.1.2.2.2.1, .int .i64 x10.2.1.2.2.2.2.1, .int .i64 x10.2.1.2.2.2.2.2]) (j := 1) (i := x6) (enc := Cy) F Aa Aa (An h_v1) h4 EG H2 (by rw [h6]; rfl)).q fun a F => ?_
    refine qs F Aa (Aj Jp Aa Aa Aa EM F Aa 1 Aa).q fun a F => ?_
    refine qs F Aa (Aj Ij Aa Aa Aa H2 F Aa 2 Aa).q fun a F => ?_
    refine qs F Aa (Bn (v := Value.agg #[.int .i64 p1.2.1.2.1.1, .int .i64 p1.2.1.2.1.2.1.1, .int .i64 p1.2.1.2.1.2.1.2.1, .int .i64 p1.2.1.2.1.2.1.2.2.1, .int .i64 p1.2.1.2.1.2.1.2.2.2, .int .i64 p1.2.1.2.1.2.2.1, .int .i64 p1.2.1.2.1.2.2.2.1, .int .i64 p1.2.1.2.1.2.2.2.2.1, .int .i64 p1.2.1.2.1.2.2.2.2.2]) 0 F Aa Aa H2 Aa).q fun a F => ?_
    obtain ⟨x11, h7, H⟩ := Af H
    refine qs F Aa (AM (v := Value.bool x11) F Tf Aa (fun w W => Km any w x10.2.1 p1.2.1.2.1 _ h7)) fun a F => ?_
    refine qs F Aa (BI F Aa).q fun a F => ?_
    refine AJ fun w W => ?_
    refine Ad ?_
    obtain ⟨o4, G4, K4⟩ := Af H
    refine Au (fun a w => ∃ x12 : Bool, ∃ x13 : Bool, some ((x12, x13)) = some o4 ∧ Fr 63 [] [(0, v1), (2, .bool x12), (3, .bool p3), (5, .pointer (some ⟨b1, 0, none⟩)), (8, .slice none 0 0), (9, .int .i64 0), (10, v5), (11, .int .i64 x5), (12, .int .i64 x6), (13, .bool x13)] a ∧ Stw ⟨Y, [], w0⟩ [(b1, [.int .i64 p1.1, .int .i64 p1.2.1.1, .int .i64 p1.2.1.2.1.1, .int .i64 p1.2.1.2.1.2.1.1, .int .i64 p1.2.1.2.1.2.1.2.1, .int .i64 p1.2.1.2.1.2.1.2.2.1, .int .i64 p1.2.1.2.1.2.1.2.2.2, .int .i64 p1.2.1.2.1.2.2.1, .int .i64 p1.2.1.2.1.2.2.2.1, .int .i64 p1.2.1.2.1.2.2.2.2.1, .int .i64 p1.2.1.2.1.2.2.2.2.2, v2, .bool p1.2.2])] [row v5 37 AK x4] w) ?_ ?_
    ·
     have H := G4
     clear G4 K4
     refine vc tk 5 F W fun a w F W => ?_
     refine CL F Aa (fun hb => ?_) fun hb => ?_
     ·
      have H := B4 hb H
      rw [hb] at F
      clear hb
      refine Ck W MO (by kernel_rfl) ?_
      iterate 2 refine qs F Aa (Am F Aa).q fun a F => ?_
      obtain ⟨x14, h8, H⟩ := Af H
      obtain ⟨v9, h9, h10⟩ := BX h1 h8
      have h11 : Cy v9 = [.int .i64 x14.1, .int .i64 x14.2.1.1, .int .i64 x14.2.1.2.1.1, .int .i64 x14.2.1.2.1.2.1, .int .i64 x14.2.1.2.1.2.2.1, .int .i64 x14.2.1.2.1.2.2.2, .int .i64 x14.2.1.2.2.1, .int .i64 x14.2.1.2.2.2.1, .int .i64 x14.2.1.2.2.2.2.1, .int .i64 x14.2.1.2.2.2.2.2, (v9.2.2.1)] := congrArg (fun q : Int × (Int × (Int × Int × Int × Int) × (Int × Int × Int × Int)) × (List (Int × Int × Int)) => ([.int .i64 q.1, .int .i64 q.2.1.1, .int .i64 q.2.1.2.1.1, .int .i64 q.2.1.2.1.2.1, .int .i64 q.2.1.2.1.2.2.1, .int .i64 q.2.1.2.1.2.2.2, .int .i64 q.2.1.2.2.1, .int .i64 q.2.1.2.2.2.1, .int .i64 q.2.1.2.2.2.2.1, .int .i64 q.2.1.2.2.2.2.2, (v9.2.2.1)] : List Value)) h10
      refine qs F Aa (AR (r := C4) EL F Aa Aa (An h_v1) h9).q fun a F => ?_
      refine qs F Aa (AD (y := Value.agg #[.int .i64 x14.1, .int .i64 x14.2.1.1, .int .i64 x14.2.1.2.1.1, .int .i64 x14.2.1.2.1.2.1, .int .i64 x14.2.1.2.1.2.2.1, .int .i64 x14.2.1.2.1.2.2.2, .int .i64 x14.2.1.2.2.1, .int .i64 x14.2.1.2.2.2.1, .int .i64 x14.2.1.2.2.2.2.1, .int .i64 x14.2.1.2.2.2.2.2, (v9.2.2.1)]) (j := 0) (i := x6) (enc := Cy) F Aa Aa (An h_v1) h9 EG EM (by rw [h11]; rfl)).q fun a F => ?_
      refine qs F Aa (Aj Jp Aa Aa Aa EM F Aa 1 Aa).q fun a F => ?_
      refine qs F Aa (Bn (v := Value.agg #[.int .i64 p1.2.1.1, .int .i64 p1.2.1.2.1.1, .int .i64 p1.2.1.2.1.2.1.1, .int .i64 p1.2.1.2.1.2.1.2.1, .int .i64 p1.2.1.2.1.2.1.2.2.1, .int .i64 p1.2.1.2.1.2.1.2.2.2, .int .i64 p1.2.1.2.1.2.2.1, .int .i64 p1.2.1.2.1.2.2.2.1, .int .i64 p1.2.1.2.1.2.2.2.2.1, .int .i64 p1.2.1.2.1.2.2.2.2.2, v2]) 0 F Aa Aa EM Aa).q fun a F => ?_
      refine qs F Aa (AM (v := Value.bool (FP x14 p1.2.1)) F Sy Aa (fun w W => J7 any w ((v9.2.2.1)) (v2) x14 p1.2.1 _ Aa (Dc (Db (An h_v1) h9 (Ay.snd (Ay.snd Ay.here)) (congrArg (fun q : Int × (Int × (Int × Int × Int × Int) × (Int × Int × Int × Int)) × (List (Int × Int × Int)) => q.2.2) h10)) W) (Dc (An h_v2) W))) fun a F => ?_
      refine qs F Aa (BI F Aa).q fun a F => ?_
      refine AJ fun w W => ?_
      refine Ad ?_
      have W := W.hideR A4 h2
      exact ⟨_, _, H, F.ra Aa, W⟩
     have H := B5 (by rw [hb]; decide) H
     rw [hb] at F
     clear hb
     refine AC (Ad ?_)
     have W := W.hideR A4 h2
     exact ⟨_, _, H, F.ra Aa, W⟩
    rintro a w ⟨x12, x13, hj, F, W⟩
    have hj := Av hj
    subst hj
    have H := K4
    clear G4 K4
    refine vc tk 7 F W fun a w F W => ?_
    refine BE F Aa H (fun F H => ?_) fun F H => ?_
    ·
     refine GB ?_
     obtain ⟨v10, h12, W⟩ := W.exR A4
     refine vc tk 4 F W fun a w F W => ?_
     obtain ⟨x15, h13, H⟩ := Af H
     obtain ⟨v11, h14, h15⟩ := BX h1 h13
     have h16 : Cy v11 = [.int .i64 x15.1, .int .i64 x15.2.1.1, .int .i64 x15.2.1.2.1.1, .int .i64 x15.2.1.2.1.2.1, .int .i64 x15.2.1.2.1.2.2.1, .int .i64 x15.2.1.2.1.2.2.2, .int .i64 x15.2.1.2.2.1, .int .i64 x15.2.1.2.2.2.1, .int .i64 x15.2.1.2.2.2.2.1, .int .i64 x15.2.1.2.2.2.2.2, (v11.2.2.1)] := congrArg (fun q : Int × (Int × (Int × Int × Int × Int) × (Int × Int × Int × Int)) × (List (Int × Int × Int)) => ([.int .i64 q.1, .int .i64 q.2.1.1, .int .i64 q.2.1.2.1.1, .int .i64 q.2.1.2.1.2.1, .int .i64 q.2.1.2.1.2.2.1, .int .i64 q.2.1.2.1.2.2.2, .int .i64 q.2.1.2.2.1, .int .i64 q.2.1.2.2.2.1, .int .i64 q.2.1.2.2.2.2.1, .int .i64 q.2.1.2.2.2.2.2, (v11.2.2.1)] : List Value)) h15
     refine ls F W Aa (AR (r := C4) EL F Aa Aa (An h_v1) h14).q fun a w F W => ?_
     refine ls F W Aa (AD (y := Value.agg #[.int .i64 x15.1, .int .i64 x15.2.1.1, .int .i64 x15.2.1.2.1.1, .int .i64 x15.2.1.2.1.2.1, .int .i64 x15.2.1.2.1.2.2.1, .int .i64 x15.2.1.2.1.2.2.2, .int .i64 x15.2.1.2.2.1, .int .i64 x15.2.1.2.2.2.1, .int .i64 x15.2.1.2.2.2.2.1, .int .i64 x15.2.1.2.2.2.2.2, (v11.2.2.1)]) (j := 0) (i := x6) (enc := Cy) F Aa Aa (An h_v1) h14 EG EM (by rw [h16]; rfl)).q fun a w F W => ?_
     refine GJ (z := Value.agg #[.int .i64 0, .int .i64 0, .int .i64 0, .int .i64 0, .int .i64 0, .int .i64 0, .int .i64 0, .int .i64 0, .int .i64 0, .int .i64 0, .slice none 0 0]) (cs := [.int .i64 x15.1, .int .i64 x15.2.1.1, .int .i64 x15.2.1.2.1.1, .int .i64 x15.2.1.2.1.2.1, .int .i64 x15.2.1.2.1.2.2.1, .int .i64 x15.2.1.2.1.2.2.2, .int .i64 x15.2.1.2.2.1, .int .i64 x15.2.1.2.2.2.1, .int .i64 x15.2.1.2.2.2.2.1, .int .i64 x15.2.1.2.2.2.2.2, (v11.2.2.1)]) AK ([x15] : List (Int × (Int × (Int × Int × Int × Int) × (Int × Int × Int × Int)) × (List (Int × Int × Int)))) F W Aa EL Kz Aa Aa Aa (B2 Aa Aa Aa C1) Aa Aa ⟨[Value.int .i64 x15.1, Value.int .i64 x15.2.1.1, Value.int .i64 x15.2.1.2.1.1, Value.int .i64 x15.2.1.2.1.2.1, Value.int .i64 x15.2.1.2.1.2.2.1, Value.int .i64 x15.2.1.2.1.2.2.2, Value.int .i64 x15.2.1.2.2.1, Value.int .i64 x15.2.1.2.2.2.1, Value.int .i64 x15.2.1.2.2.2.2.1, Value.int .i64 x15.2.1.2.2.2.2.2, (v11.2.2.1)], _, Aa, ⟨[Value.int .i64 x15.1], [Value.int .i64 x15.2.1.1, Value.int .i64 x15.2.1.2.1.1, Value.int .i64 x15.2.1.2.1.2.1, Value.int .i64 x15.2.1.2.1.2.2.1, Value.int .i64 x15.2.1.2.1.2.2.2, Value.int .i64 x15.2.1.2.2.1, Value.int .i64 x15.2.1.2.2.2.1, Value.int .i64 x15.2.1.2.2.2.2.1, Value.int .i64 x15.2.1.2.2.2.2.2, (v11.2.2.1)], Aa, Aa, ⟨[Value.int .i64 x15.2.1.1, Value.int .i64 x15.2.1.2.1.1, Value.int .i64 x15.2.1.2.1.2.1, Value.int .i64 x15.2.1.2.1.2.2.1, Value.int .i64 x15.2.1.2.1.2.2.2, Value.int .i64 x15.2.1.2.2.1, Value.int .i64 x15.2.1.2.2.2.1, Value.int .i64 x15.2.1.2.2.2.2.1, Value.int .i64 x15.2.1.2.2.2.2.2], [(v11.2.2.1)], Aa, ⟨[Value.int .i64 x15.2.1.1], [Value.int .i64 x15.2.1.2.1.1, Value.int .i64 x15.2.1.2.1.2.1, Value.int .i64 x15.2.1.2.1.2.2.1, Value.int .i64 x15.2.1.2.1.2.2.2, Value.int .i64 x15.2.1.2.2.1, Value.int .i64 x15.2.1.2.2.2.1, Value.int .i64 x15.2.1.2.2.2.2.1, Value.int .i64 x15.2.1.2.2.2.2.2], Aa, Aa, ⟨[Value.int .i64 x15.2.1.2.1.1, Value.int .i64 x15.2.1.2.1.2.1, Value.int .i64 x15.2.1.2.1.2.2.1, Value.int .i64 x15.2.1.2.1.2.2.2], [Value.int .i64 x15.2.1.2.2.1, Value.int .i64 x15.2.1.2.2.2.1, Value.int .i64 x15.2.1.2.2.2.2.1, Value.int .i64 x15.2.1.2.2.2.2.2], Aa, ⟨[Value.int .i64 x15.2.1.2.1.1], [Value.int .i64 x15.2.1.2.1.2.1, Value.int .i64 x15.2.1.2.1.2.2.1, Value.int .i64 x15.2.1.2.1.2.2.2], Aa, Aa, ⟨[Value.int .i64 x15.2.1.2.1.2.1], [Value.int .i64 x15.2.1.2.1.2.2.1, Value.int .i64 x15.2.1.2.1.2.2.2], Aa, Aa, ⟨[Value.int .i64 x15.2.1.2.1.2.2.1], [Value.int .i64 x15.2.1.2.1.2.2.2], Aa, Aa, Aa⟩⟩⟩, ⟨[Value.int .i64 x15.2.1.2.2.1], [Value.int .i64 x15.2.1.2.2.2.1, Value.int .i64 x15.2.1.2.2.2.2.1, Value.int .i64 x15.2.1.2.2.2.2.2], Aa, Aa, ⟨[Value.int .i64 x15.2.1.2.2.2.1], [Value.int .i64 x15.2.1.2.2.2.2.1, Value.int .i64 x15.2.1.2.2.2.2.2], Aa, Aa, ⟨[Value.int .i64 x15.2.1.2.2.2.2.1], [Value.int .i64 x15.2.1.2.2.2.2.2], Aa, Aa, Aa⟩⟩⟩⟩⟩, ⟨_, Aa, (Sl.at_ (W.old s_v1) h14 (Ay.snd (Ay.snd Ay.here)) (congrArg (fun q : Int × (Int × (Int × Int × Int × Int) × (Int × Int × Int × Int)) × (List (Int × Int × Int)) => q.2.2) h15))⟩⟩⟩, Aa⟩ fun v12 a w F W => ?_
     have W := W.frontZ (i := 1) Aa Aa
     have W := W.hideR A4 h12
     obtain ⟨x16, h17, H⟩ := Af H
     refine Ez (r := AK) (i := 0) F W Aa EL Aa Aa Aa Aa (FU W 1 Aa) h17 Aa fun v13 a w F W => ?_
     have W : Stw ⟨Y, [], w0⟩ [(b1, [.int .i64 p1.1, .int .i64 p1.2.1.1, .int .i64 p1.2.1.2.1.1, .int .i64 p1.2.1.2.1.2.1.1, .int .i64 p1.2.1.2.1.2.1.2.1, .int .i64 p1.2.1.2.1.2.1.2.2.1, .int .i64 p1.2.1.2.1.2.1.2.2.2, .int .i64 p1.2.1.2.1.2.2.1, .int .i64 p1.2.1.2.1.2.2.2.1, .int .i64 p1.2.1.2.1.2.2.2.2.1, .int .i64 p1.2.1.2.1.2.2.2.2.2, v2, .bool p1.2.2])] [row v13 37 AK x16, row v12 37 AK ([x15] : List (Int × (Int × (Int × Int × Int × Int) × (Int × Int × Int × Int)) × (List (Int × Int × Int))))] w := W
     refine BJ tk 3 F W fun a w F W => ?_
     refine Bm (BU (Bp (Ad ?_)))
     have W := W.sub (M' := [(b1, [.int .i64 p1.1, .int .i64 p1.2.1.1, .int .i64 p1.2.1.2.1.1, .int .i64 p1.2.1.2.1.2.1.1, .int .i64 p1.2.1.2.1.2.1.2.1, .int .i64 p1.2.1.2.1.2.1.2.2.1, .int .i64 p1.2.1.2.1.2.1.2.2.2, .int .i64 p1.2.1.2.1.2.2.1, .int .i64 p1.2.1.2.1.2.2.2.1, .int .i64 p1.2.1.2.1.2.2.2.2.1, .int .i64 p1.2.1.2.1.2.2.2.2.2, v2, .bool p1.2.2])]) (Z' := [row v13 37 AK x16]) (List.Sublist.refl _) (List.Sublist.cons_cons _ (List.nil_sublist _))
     exact ⟨_, _, _, (v13), H, F.ra Aa, W⟩
    refine D6 tk 15 F W fun a w F W => ?_
    refine BE F Aa H (fun F H => ?_) fun F H => ?_
    ·
     obtain ⟨v14, h18, W⟩ := W.exR A4
     refine Pc 8 [0] [1, 2, 3, 4, 5, 6, 7] (fun ch a d v w h => by cases d <;> exact h) W MO (by kernel_rfl) ?_
     refine hm F Aa Aa Aa fun a F => ?_
     refine Qq ?_
     iterate 2 refine hs F Aa Aa Aa (Am F Aa).q fun a F => ?_
     obtain ⟨x17, h19, H⟩ := Af H
     obtain ⟨v15, h20, h21⟩ := BX h1 h19
     have h22 : Cy v15 = [.int .i64 x17.1, .int .i64 x17.2.1.1, .int .i64 x17.2.1.2.1.1, .int .i64 x17.2.1.2.1.2.1, .int .i64 x17.2.1.2.1.2.2.1, .int .i64 x17.2.1.2.1.2.2.2, .int .i64 x17.2.1.2.2.1, .int .i64 x17.2.1.2.2.2.1, .int .i64 x17.2.1.2.2.2.2.1, .int .i64 x17.2.1.2.2.2.2.2, (v15.2.2.1)] := congrArg (fun q : Int × (Int × (Int × Int × Int × Int) × (Int × Int × Int × Int)) × (List (Int × Int × Int)) => ([.int .i64 q.1, .int .i64 q.2.1.1, .int .i64 q.2.1.2.1.1, .int .i64 q.2.1.2.1.2.1, .int .i64 q.2.1.2.1.2.2.1, .int .i64 q.2.1.2.1.2.2.2, .int .i64 q.2.1.2.2.1, .int .i64 q.2.1.2.2.2.1, .int .i64 q.2.1.2.2.2.2.1, .int .i64 q.2.1.2.2.2.2.2, (v15.2.2.1)] : List Value)) h21
     refine hs F Aa Aa Aa (AR (r := C4) EL F Aa Aa (An h_v1) h20).q fun a F => ?_
     refine hs F Aa Aa Aa (AD (y := Value.agg #[.int .i64 x17.1, .int .i64 x17.2.1.1, .int .i64 x17.2.1.2.1.1, .int .i64 x17.2.1.2.1.2.1, .int .i64 x17.2.1.2.1.2.2.1, .int .i64 x17.2.1.2.1.2.2.2, .int .i64 x17.2.1.2.2.1, .int .i64 x17.2.1.2.2.2.1, .int .i64 x17.2.1.2.2.2.2.1, .int .i64 x17.2.1.2.2.2.2.2, (v15.2.2.1)]) (j := 0) (i := x6) (enc := Cy) F Aa Aa (An h_v1) h20 EG EM (by rw [h22]; rfl)).q fun a F => ?_
     refine hs F Aa Aa Aa (Aj Jp Aa Aa Aa EM F Aa 1 Aa).q fun a F => ?_
     refine hs F Aa Aa Aa (Aj Ij Aa Aa Aa Nt F Aa 11 Aa).q fun a F => ?_
     refine hs F Aa Aa Aa (Bn (v := v2) 0 F Aa Aa Nt Aa).q fun a F => ?_
     refine Rt fun w W => ?_
     have W : Stw ⟨Y, [], w0⟩ [(b1, [.int .i64 p1.1, .int .i64 p1.2.1.1, .int .i64 p1.2.1.2.1.1, .int .i64 p1.2.1.2.1.2.1.1, .int .i64 p1.2.1.2.1.2.1.2.1, .int .i64 p1.2.1.2.1.2.1.2.2.1, .int .i64 p1.2.1.2.1.2.1.2.2.2, .int .i64 p1.2.1.2.1.2.2.1, .int .i64 p1.2.1.2.1.2.2.2.1, .int .i64 p1.2.1.2.1.2.2.2.2.1, .int .i64 p1.2.1.2.1.2.2.2.2.2, v2, .bool p1.2.2])] [row v5 37 C4 v14] w := W
     refine AA (Ml := []) (Zl := []) (β := Value) (rv := fun x => .agg #[.int .i64 ((Ak x17 p1.2.1.2.2).1), .int .i64 ((Ak x17 p1.2.1.2.2).2.1.1), .int .i64 ((Ak x17 p1.2.1.2.2).2.1.2.1.1), .int .i64 ((Ak x17 p1.2.1.2.2).2.1.2.1.2.1), .int .i64 ((Ak x17 p1.2.1.2.2).2.1.2.1.2.2.1), .int .i64 ((Ak x17 p1.2.1.2.2).2.1.2.1.2.2.2), .int .i64 ((Ak x17 p1.2.1.2.2).2.1.2.2.1), .int .i64 ((Ak x17 p1.2.1.2.2).2.1.2.2.2.1), .int .i64 ((Ak x17 p1.2.1.2.2).2.1.2.2.2.2.1), .int .i64 ((Ak x17 p1.2.1.2.2).2.1.2.2.2.2.2), x]) (MM := fun x => []) (ZZ := fun x => [Bo x Bk ((Ak x17 p1.2.1.2.2).2.2)]) F W SW Aa Aa (fun hL => LW _ w ((v15.2.2.1)) (v2) x17 p1.2.1.2.2 _ Aa ((Db (An h_v1) h20 (Ay.snd (Ay.snd Ay.here)) (congrArg (fun q : Int × (Int × (Int × Int × Int × Int) × (Int × Int × Int × Int)) × (List (Int × Int × Int)) => q.2.2) h21)) w W).nx (W.old s_v2)) fun x a w F W => ?_
     obtain ⟨v16, rfl⟩ : ∃ y, y = x := ⟨x, rfl⟩
     have W : Stw ⟨Y, [], w0⟩ [(b1, [.int .i64 p1.1, .int .i64 p1.2.1.1, .int .i64 p1.2.1.2.1.1, .int .i64 p1.2.1.2.1.2.1.1, .int .i64 p1.2.1.2.1.2.1.2.1, .int .i64 p1.2.1.2.1.2.1.2.2.1, .int .i64 p1.2.1.2.1.2.1.2.2.2, .int .i64 p1.2.1.2.1.2.2.1, .int .i64 p1.2.1.2.1.2.2.2.1, .int .i64 p1.2.1.2.1.2.2.2.2.1, .int .i64 p1.2.1.2.1.2.2.2.2.2, v2, .bool p1.2.2])] [Bo v16 Bk ((Ak x17 p1.2.1.2.2).2.2), row v5 37 C4 v14] w := W
     refine GJ (z := Value.agg #[.int .i64 0, .int .i64 0, .int .i64 0, .int .i64 0, .int .i64 0, .int .i64 0, .int .i64 0, .int .i64 0, .int .i64 0, .int .i64 0, .slice none 0 0]) (cs := [.int .i64 ((Ak x17 p1.2.1.2.2).1), .int .i64 ((Ak x17 p1.2.1.2.2).2.1.1), .int .i64 ((Ak x17 p1.2.1.2.2).2.1.2.1.1), .int .i64 ((Ak x17 p1.2.1.2.2).2.1.2.1.2.1), .int .i64 ((Ak x17 p1.2.1.2.2).2.1.2.1.2.2.1), .int .i64 ((Ak x17 p1.2.1.2.2).2.1.2.1.2.2.2), .int .i64 ((Ak x17 p1.2.1.2.2).2.1.2.2.1), .int .i64 ((Ak x17 p1.2.1.2.2).2.1.2.2.2.1), .int .i64 ((Ak x17 p1.2.1.2.2).2.1.2.2.2.2.1), .int .i64 ((Ak x17 p1.2.1.2.2).2.1.2.2.2.2.2), v16]) AK ([((Ak x17 p1.2.1.2.2).1, ((Ak x17 p1.2.1.2.2).2.1.1, ((Ak x17 p1.2.1.2.2).2.1.2.1.1, (Ak x17 p1.2.1.2.2).2.1.2.1.2.1, (Ak x17 p1.2.1.2.2).2.1.2.1.2.2.1, (Ak x17 p1.2.1.2.2).2.1.2.1.2.2.2), ((Ak x17 p1.2.1.2.2).2.1.2.2.1, (Ak x17 p1.2.1.2.2).2.1.2.2.2.1, (Ak x17 p1.2.1.2.2).2.1.2.2.2.2.1, (Ak x17 p1.2.1.2.2).2.1.2.2.2.2.2)), (Ak x17 p1.2.1.2.2).2.2)] : List (Int × (Int × (Int × Int × Int × Int) × (Int × Int × Int × Int)) × (List (Int × Int × Int)))) F W Aa EL Kz Aa Aa Aa (B2 Aa Aa Aa C1) Aa Aa ⟨[Value.int .i64 ((Ak x17 p1.2.1.2.2).1), Value.int .i64 ((Ak x17 p1.2.1.2.2).2.1.1), Value.int .i64 ((Ak x17 p1.2.1.2.2).2.1.2.1.1), Value.int .i64 ((Ak x17 p1.2.1.2.2).2.1.2.1.2.1), Value.int .i64 ((Ak x17 p1.2.1.2.2).2.1.2.1.2.2.1), Value.int .i64 ((Ak x17 p1.2.1.2.2).2.1.2.1.2.2.2), Value.int .i64 ((Ak x17 p1.2.1.2.2).2.1.2.2.1), Value.int .i64 ((Ak x17 p1.2.1.2.2).2.1.2.2.2.1), Value.int .i64 ((Ak x17 p1.2.1.2.2).2.1.2.2.2.2.1), Value.int .i64 ((Ak x17 p1.2.1.2.2).2.1.2.2.2.2.2), v16], _, Aa, ⟨[Value.int .i64 ((Ak x17 p1.2.1.2.2).1)], [Value.int .i64 ((Ak x17 p1.2.1.2.2).2.1.1), Value.int .i64 ((Ak x17 p1.2.1.2.2).2.1.2.1.1), Value.int .i64 ((Ak x17 p1.2.1.2.2).2.1.2.1.2.1), Value.int .i64 ((Ak x17 p1.2.1.2.2).2.1.2.1.2.2.1), Value.int .i64 ((Ak x17 p1.2.1.2.2).2.1.2.1.2.2.2), Value.int .i64 ((Ak x17 p1.2.1.2.2).2.1.2.2.1), Value.int .i64 ((Ak x17 p1.2.1.2.2).2.1.2.2.2.1), Value.int .i64 ((Ak x17 p1.2.1.2.2).2.1.2.2.2.2.1), Value.int .i64 ((Ak x17 p1.2.1.2.2).2.1.2.2.2.2.2), v16], Aa, Aa, ⟨[Value.int .i64 ((Ak x17 p1.2.1.2.2).2.1.1), Value.int .i64 ((Ak x17 p1.2.1.2.2).2.1.2.1.1), Value.int .i64 ((Ak x17 p1.2.1.2.2).2.1.2.1.2.1), Value.int .i64 ((Ak x17 p1.2.1.2.2).2.1.2.1.2.2.1), Value.int .i64 ((Ak x17 p1.2.1.2.2).2.1.2.1.2.2.2), Value.int .i64 ((Ak x17 p1.2.1.2.2).2.1.2.2.1), Value.int .i64 ((Ak x17 p1.2.1.2.2).2.1.2.2.2.1), Value.int .i64 ((Ak x17 p1.2.1.2.2).2.1.2.2.2.2.1), Value.int .i64 ((Ak x17 p1.2.1.2.2).2.1.2.2.2.2.2)], [v16], Aa, ⟨[Value.int .i64 ((Ak x17 p1.2.1.2.2).2.1.1)], [Value.int .i64 ((Ak x17 p1.2.1.2.2).2.1.2.1.1), Value.int .i64 ((Ak x17 p1.2.1.2.2).2.1.2.1.2.1), Value.int .i64 ((Ak x17 p1.2.1.2.2).2.1.2.1.2.2.1), Value.int .i64 ((Ak x17 p1.2.1.2.2).2.1.2.1.2.2.2), Value.int .i64 ((Ak x17 p1.2.1.2.2).2.1.2.2.1), Value.int .i64 ((Ak x17 p1.2.1.2.2).2.1.2.2.2.1), Value.int .i64 ((Ak x17 p1.2.1.2.2).2.1.2.2.2.2.1), Value.int .i64 ((Ak x17 p1.2.1.2.2).2.1.2.2.2.2.2)], Aa, Aa, ⟨[Value.int .i64 ((Ak x17 p1.2.1.2.2).2.1.2.1.1), Value.int .i64 ((Ak x17 p1.2.1.2.2).2.1.2.1.2.1), Value.int .i64 ((Ak x17 p1.2.1.2.2).2.1.2.1.2.2.1), Value.int .i64 ((Ak x17 p1.2.1.2.2).2.1.2.1.2.2.2)], [Value.int .i64 ((Ak x17 p1.2.1.2.2).2.1.2.2.1), Value.int .i64 ((Ak x17 p1.2.1.2.2).2.1.2.2.2.1), Value.int .i64 ((Ak x17 p1.2.1.2.2).2.1.2.2.2.2.1), Value.int .i64 ((Ak x17 p1.2.1.2.2).2.1.2.2.2.2.2)], Aa, ⟨[Value.int .i64 ((Ak x17 p1.2.1.2.2).2.1.2.1.1)], [Value.int .i64 ((Ak x17 p1.2.1.2.2).2.1.2.1.2.1), Value.int .i64 ((Ak x17 p1.2.1.2.2).2.1.2.1.2.2.1), Value.int .i64 ((Ak x17 p1.2.1.2.2).2.1.2.1.2.2.2)], Aa, Aa, ⟨[Value.int .i64 ((Ak x17 p1.2.1.2.2).2.1.2.1.2.1)], [Value.int .i64 ((Ak x17 p1.2.1.2.2).2.1.2.1.2.2.1), Value.int .i64 ((Ak x17 p1.2.1.2.2).2.1.2.1.2.2.2)], Aa, Aa, ⟨[Value.int .i64 ((Ak x17 p1.2.1.2.2).2.1.2.1.2.2.1)], [Value.int .i64 ((Ak x17 p1.2.1.2.2).2.1.2.1.2.2.2)], Aa, Aa, Aa⟩⟩⟩, ⟨[Value.int .i64 ((Ak x17 p1.2.1.2.2).2.1.2.2.1)], [Value.int .i64 ((Ak x17 p1.2.1.2.2).2.1.2.2.2.1), Value.int .i64 ((Ak x17 p1.2.1.2.2).2.1.2.2.2.2.1), Value.int .i64 ((Ak x17 p1.2.1.2.2).2.1.2.2.2.2.2)], Aa, Aa, ⟨[Value.int .i64 ((Ak x17 p1.2.1.2.2).2.1.2.2.2.1)], [Value.int .i64 ((Ak x17 p1.2.1.2.2).2.1.2.2.2.2.1), Value.int .i64 ((Ak x17 p1.2.1.2.2).2.1.2.2.2.2.2)], Aa, Aa, ⟨[Value.int .i64 ((Ak x17 p1.2.1.2.2).2.1.2.2.2.2.1)], [Value.int .i64 ((Ak x17 p1.2.1.2.2).2.1.2.2.2.2.2)], Aa, Aa, Aa⟩⟩⟩⟩⟩, ⟨_, Aa, (W.item (i := 0) Aa)⟩⟩⟩, Aa⟩ fun v17 a w F W => ?_
     have W := W.frontZ (i := 2) Aa Aa
     have W := W.hideR A4 h18
     obtain ⟨x18, h23, H⟩ := Af H
     refine Ez (r := AK) (i := 0) F W Aa EL Aa Aa Aa Aa (FU W 1 Aa) h23 Aa fun v18 a w F W => ?_
     have W : Stw ⟨Y, [], w0⟩ [(b1, [.int .i64 p1.1, .int .i64 p1.2.1.1, .int .i64 p1.2.1.2.1.1, .int .i64 p1.2.1.2.1.2.1.1, .int .i64 p1.2.1.2.1.2.1.2.1, .int .i64 p1.2.1.2.1.2.1.2.2.1, .int .i64 p1.2.1.2.1.2.1.2.2.2, .int .i64 p1.2.1.2.1.2.2.1, .int .i64 p1.2.1.2.1.2.2.2.1, .int .i64 p1.2.1.2.1.2.2.2.2.1, .int .i64 p1.2.1.2.1.2.2.2.2.2, v2, .bool p1.2.2])] [row v18 37 AK x18, row v17 37 AK ([((Ak x17 p1.2.1.2.2).1, ((Ak x17 p1.2.1.2.2).2.1.1, ((Ak x17 p1.2.1.2.2).2.1.2.1.1, (Ak x17 p1.2.1.2.2).2.1.2.1.2.1, (Ak x17 p1.2.1.2.2).2.1.2.1.2.2.1, (Ak x17 p1.2.1.2.2).2.1.2.1.2.2.2), ((Ak x17 p1.2.1.2.2).2.1.2.2.1, (Ak x17 p1.2.1.2.2).2.1.2.2.2.1, (Ak x17 p1.2.1.2.2).2.1.2.2.2.2.1, (Ak x17 p1.2.1.2.2).2.1.2.2.2.2.2)), (Ak x17 p1.2.1.2.2).2.2)] : List (Int × (Int × (Int × Int × Int × Int) × (Int × Int × Int × Int)) × (List (Int × Int × Int)))), Bo v16 Bk ((Ak x17 p1.2.1.2.2).2.2)] w := W
     refine vl tk 2 F W fun a w F W => ?_
     refine AF (Ad ?_)
     have W := W.sub (M' := [(b1, [.int .i64 p1.1, .int .i64 p1.2.1.1, .int .i64 p1.2.1.2.1.1, .int .i64 p1.2.1.2.1.2.1.1, .int .i64 p1.2.1.2.1.2.1.2.1, .int .i64 p1.2.1.2.1.2.1.2.2.1, .int .i64 p1.2.1.2.1.2.1.2.2.2, .int .i64 p1.2.1.2.1.2.2.1, .int .i64 p1.2.1.2.1.2.2.2.1, .int .i64 p1.2.1.2.1.2.2.2.2.1, .int .i64 p1.2.1.2.1.2.2.2.2.2, v2, .bool p1.2.2])]) (Z' := [row v18 37 AK x18]) (List.Sublist.refl _) (List.Sublist.cons_cons _ (List.nil_sublist _))
     exact ⟨_, _, _, (v18), H, F.ra Aa, W⟩
    refine AC (AF (Ad ?_))
    exact ⟨_, _, _, (v5), H, F.ra Aa, W⟩
   rintro a w ⟨x7, x8, x9, v6, hj, F, W⟩
   have hj := Av hj
   subst hj
   have H := K3
   clear G3 K3
   refine vc tk 5 F W fun a w F W => ?_
   refine Ad ?_
   exact ⟨_, H, (v6), F.ra Aa, W⟩
  refine Bm ?_
  iterate 2 refine BU ?_
  refine Bp (Ad ?_)
  have H := L2 _ H
  exact ⟨_, _, (v5), H, F.ra Aa, W⟩
 rintro a w ⟨x1, x2, v4, hj, F, W⟩
 have hj := Av hj
 subst hj
 have H := K1
 clear G1 K1
 refine vc tk 8 F W fun a w F W => ?_
 refine Al ?_
 have H := Av H
 subst H
 refine CI (.inl Aa) F W Aa (Ai F Aa) (Ai F Aa) ?_
 have W := W.sub (M' := []) (Z' := [row v4 37 AK x1]) (List.nil_sublist _) (List.Sublist.refl _)
 exact ⟨(v4), Aa, W⟩
theorem SF : Has Try.prog 62 := BV Try.func62
noncomputable def C0 (p0 : List (Int × (Int × (Int × Int × Int × Int) × (Int × Int × Int × Int)) × (List (Int × Int × Int)))) (p1 : Int × (Int × (Int × Int × Int × Int) × (Int × Int × Int × Int)) × (List (Int × Int × Int))) : ((List (Int × (Int × (Int × Int × Int × Int) × (Int × Int × Int × Int)) × (List (Int × Int × Int)))) × Bool × Int) → Option (((List (Int × (Int × (Int × Int × Int × Int) × (Int × Int × Int × Int)) × (List (Int × Int × Int)))) × Bool × Int) ⊕ ((List (Int × (Int × (Int × Int × Int × Int) × (Int × Int × Int × Int)) × (List (Int × Int × Int)))) × Bool))
  | (x3, x4, x5) => (if x5 < (p0.length : Int) then ((if (!x4) = true then (ix p0 x5).bind fun x9 => some (decide (x9.1 < p1.1)) else some false).bind fun x8 => (if x8 = true then (JQ x3 ([p1] : List (Int × (Int × (Int × Int × Int × Int) × (Int × Int × Int × Int)) × (List (Int × Int × Int))))).bind fun x10 => some (x10, true) else some (x3, x4))).bind fun (x6, x7) => (ix p0 x5).bind fun x11 => (JQ x6 ([x11] : List (Int × (Int × (Int × Int × Int × Int) × (Int × Int × Int × Int)) × (List (Int × Int × Int))))).bind fun x12 => some (.inl (x12, x7, Cc (x5 + 1))) else some (.inr (x3, x4)))
noncomputable def Gd (p0 : List (Int × (Int × (Int × Int × Int × Int) × (Int × Int × Int × Int)) × (List (Int × Int × Int)))) (p1 : Int × (Int × (Int × Int × Int × Int) × (Int × Int × Int × Int)) × (List (Int × Int × Int))) : Option (List (Int × (Int × (Int × Int × Int × Int) × (Int × Int × Int × Int)) × (List (Int × Int × Int)))) := (AX (C0 p0 p1) ([], false, 0)).bind fun (x1, x2) => (if (!x2) = true then (JQ x1 ([p1] : List (Int × (Int × (Int × Int × Int × Int) × (Int × Int × Int × Int)) × (List (Int × Int × Int))))).bind fun x14 => some x14 else some x1).bind fun x13 => some x13
theorem KX (Y : Nat → Prop) (w0 : World) (v1 : Value) (v2 : Value) (p0 : List (Int × (Int × (Int × Int × Int × Int) × (Int × Int × Int × Int)) × (List (Int × Int × Int)))) (p1 : Int × (Int × (Int × Int × Int × Int) × (Int × Int × Int × Int)) × (List (Int × Int × Int))) (r : (List (Int × (Int × (Int × Int × Int × Int) × (Int × Int × Int × Int)) × (List (Int × Int × Int))))) (H : Gd p0 p1 = some r) (s_v1 : Sl w0 Y AK v1 p0) (s_v2 : Sl w0 Y Bk v2 p1.2.2) :
    Calls Try.prog 77 #[v1, .agg #[.int .i64 p1.1, .int .i64 p1.2.1.1, .int .i64 p1.2.1.2.1.1, .int .i64 p1.2.1.2.1.2.1, .int .i64 p1.2.1.2.1.2.2.1, .int .i64 p1.2.1.2.1.2.2.2, .int .i64 p1.2.1.2.2.1, .int .i64 p1.2.1.2.2.2.1, .int .i64 p1.2.1.2.2.2.2.1, .int .i64 p1.2.1.2.2.2.2.2, v2]] w0 fun e w' => ∃ x : Value, e = .returned (x) ∧ Stw ⟨Y, [], w0⟩ [] [row (x) 37 AK r] w' := by
 refine enter Try.func77 Aa Try.ntmps77 Aa fun a F => ?_
 have W := Stw.start Y w0
 obtain ⟨v3, h1, s_v1⟩ := s_v1.ex A4
 have h_v1 := W.nx s_v1
 have h_v2 := W.nx s_v2
 unfold Gd at H
 refine vc tk 2 F W fun a w F W => ?_
 refine BR (cs := (DZ p1 v2)) F W Aa Aa Aa fun b1 a w F W => ?_
 refine BJ tk 13 F W fun a w F W => ?_
 obtain ⟨o1, G1, K1⟩ := Af H
 refine Au (fun a w => ∃ x1 : List (Int × (Int × (Int × Int × Int × Int) × (Int × Int × Int × Int)) × (List (Int × Int × Int))), ∃ x2 : Bool, ∃ v4 : Value, some ((x1, x2)) = some o1 ∧ Fr 44 [] [(3, .pointer (some ⟨b1, 0, none⟩)), (4, .slice none 0 0), (5, v4), (6, .bool x2)] a ∧ Stw ⟨Y, [], w0⟩ (Fd b1 p1 v2) [row v4 37 AK x1] w) ?_ ?_
 ·
  have H := G1
  clear G1 K1
  refine vc tk 6 F W fun a w F W => ?_
  have W := W.nilRow 37 AK
  refine BA H (fun s a w => ∃ v5 : Value, Fr 44 [] [(0, v1), (3, .pointer (some ⟨b1, 0, none⟩)), (4, .slice none 0 0), (5, v5), (6, .bool s.2.1), (7, .int .i64 s.2.2)] a ∧ Stw ⟨Y, [], w0⟩ (Fd b1 p1 v2) [row v5 37 AK s.1] w) ⟨(Value.slice none 0 0), F.ra Aa, W⟩ fun s o a w H L2 hR => ?_
  obtain ⟨x3, x4, x5⟩ := s
  obtain ⟨v5, F, W⟩ := hR
  have F : Fr 44 [] [(0, v1), (3, .pointer (some ⟨b1, 0, none⟩)), (4, .slice none 0 0), (5, v5), (6, .bool x4), (7, .int .i64 x5)] a := F
  have W : Stw ⟨Y, [], w0⟩ (Fd b1 p1 v2) [row v5 37 AK x3] w := W
  rw [C0] at H
  refine vc tk 5 F W fun a w F W => ?_
  refine ls F W Aa (B7 (r := AK) (l := p0) E7 Aa F Aa (Bq A4 h1 (An h_v1))).q fun a w F W => ?_
  refine BJ tk 3 F W fun a w F W => ?_
  refine Bi F Aa H (fun F H => ?_) fun F H => ?_
  ·
   refine D6 tk 4 F W fun a w F W => ?_
   obtain ⟨o3, G3, K3⟩ := Af H
   refine Au (fun a w => ∃ x6 : List (Int × (Int × (Int × Int × Int × Int) × (Int × Int × Int × Int)) × (List (Int × Int × Int))), ∃ x7 : Bool, ∃ v6 : Value, some ((x6, x7)) = some o3 ∧ Fr 44 [] [(0, v1), (3, .pointer (some ⟨b1, 0, none⟩)), (4, .slice none 0 0), (5, v6), (6, .bool x7), (7, .int .i64 x5)] a ∧ Stw ⟨Y, [], w0⟩ (Fd b1 p1 v2) [row v6 37 AK x6] w) ?_ ?_
   ·
    have H := G3
    clear G3 K3
    obtain ⟨o4, G4, K4⟩ := Af H
    refine Au (fun a w => ∃ x8 : Bool, some (x8) = some o4 ∧ Fr 44 [] [(0, v1), (3, .pointer (some ⟨b1, 0, none⟩)), (4, .slice none 0 0), (5, v5), (6, .bool x4), (7, .int .i64 x5), (25, .bool x8)] a ∧ Stw ⟨Y, [], w0⟩ (Fd b1 p1 v2) [row v5 37 AK x3] w) ?_ ?_
    ·
     have H := G4
     clear G4 K4
     obtain ⟨v7, h2, W⟩ := W.exR A4
     refine Ck W MO (by kernel_rfl) ?_
     refine qs F Aa (Am F Aa).q fun a F => ?_
     refine qs F Aa (J6 F Aa).q fun a F => ?_
     refine qs F Aa (Am F Aa).q fun a F => ?_
     rcases Bool.eq_false_or_eq_true (!x4) with hb | hb
     ·
      have H := B4 hb H
      rw [hb] at F
      clear hb
      iterate 2 refine A2 F (Ae F Aa Aa Aa Aa) Aa (As Aa) (Am F Aa).q fun a F => ?_
      obtain ⟨x9, h3, H⟩ := Af H
      obtain ⟨v8, h4, h5⟩ := BX h1 h3
      have h6 : Cy v8 = [.int .i64 x9.1, .int .i64 x9.2.1.1, .int .i64 x9.2.1.2.1.1, .int .i64 x9.2.1.2.1.2.1, .int .i64 x9.2.1.2.1.2.2.1, .int .i64 x9.2.1.2.1.2.2.2, .int .i64 x9.2.1.2.2.1, .int .i64 x9.2.1.2.2.2.1, .int .i64 x9.2.1.2.2.2.2.1, .int .i64 x9.2.1.2.2.2.2.2, (v8.2.2.1)] := congrArg (fun q : Int × (Int × (Int × Int × Int × Int) × (Int × Int × Int × Int)) × (List (Int × Int × Int)) => ([.int .i64 q.1, .int .i64 q.2.1.1, .int .i64 q.2.1.2.1.1, .int .i64 q.2.1.2.1.2.1, .int .i64 q.2.1.2.1.2.2.1, .int .i64 q.2.1.2.1.2.2.2, .int .i64 q.2.1.2.2.1, .int .i64 q.2.1.2.2.2.1, .int .i64 q.2.1.2.2.2.2.1, .int .i64 q.2.1.2.2.2.2.2, (v8.2.2.1)] : List Value)) h5
      refine A2 F (Ae F Aa Aa Aa Aa) Aa (As Aa) (AR (r := C4) EL F Aa Aa (An h_v1) h4).q fun a F => ?_
      refine A2 F (Ae F Aa Aa Aa Aa) Aa (As Aa) (Aj Ij Aa Aa Aa T3 F Aa (Ei v1 + (x5).toNat * 11) Aa).q fun a F => ?_
      refine A2 F (Ae F Aa Aa Aa Aa) Aa (As Aa) (AD (y := Value.int .i64 x9.1) (j := 0) (i := x5) (enc := Cy) F Aa Aa (An h_v1) h4 EG T3 (by rw [h6]; rfl)).q fun a F => ?_
      refine A2 F (Ae F Aa Aa Aa Aa) Aa (As Aa) (Aj Ij Aa Aa Aa T3 F Aa 0 Aa).q fun a F => ?_
      refine A2 F (Ae F Aa Aa Aa Aa) Aa (As Aa) (Bn (v := Value.int .i64 p1.1) 0 F Aa Aa T3 Aa).q fun a F => ?_
      refine A2 F (Ae F Aa Aa Aa Aa) Aa (As Aa) (JV F Aa Aa).q fun a F => ?_
      refine qs F Aa (BH F Aa Aa Aa).q fun a F => ?_
      refine AJ fun w W => ?_
      refine Ad ?_
      have W := W.hideR A4 h2
      exact ⟨_, H, F.ra Aa, W⟩
     have H := B5 (by rw [hb]; decide) H
     rw [hb] at F
     clear hb
     iterate 8 refine AP F (AB F Aa Aa Aa Aa Aa) Aa Aa fun a F => ?_
     refine qs F Aa (AO F Aa Aa Aa).q fun a F => ?_
     refine AJ fun w W => ?_
     refine Ad ?_
     have W := W.hideR A4 h2
     exact ⟨_, H, F.ra Aa, W⟩
    rintro a w ⟨x8, hj, F, W⟩
    have hj := Av hj
    subst hj
    have H := K4
    clear G4 K4
    refine BE F Aa H (fun F H => ?_) fun F H => ?_
    ·
     refine Fq tk 4 [0] F W (ai fun a w F W => ?_)
     refine GJ (z := Value.agg #[.int .i64 0, .int .i64 0, .int .i64 0, .int .i64 0, .int .i64 0, .int .i64 0, .int .i64 0, .int .i64 0, .int .i64 0, .int .i64 0, .slice none 0 0]) (cs := (DZ p1 v2)) AK ([p1] : List (Int × (Int × (Int × Int × Int × Int) × (Int × Int × Int × Int)) × (List (Int × Int × Int)))) F W Aa EL Kz Aa Aa Aa (B2 Aa Aa Aa C1) Aa Aa ⟨[Value.int .i64 p1.1, Value.int .i64 p1.2.1.1, Value.int .i64 p1.2.1.2.1.1, Value.int .i64 p1.2.1.2.1.2.1, Value.int .i64 p1.2.1.2.1.2.2.1, Value.int .i64 p1.2.1.2.1.2.2.2, Value.int .i64 p1.2.1.2.2.1, Value.int .i64 p1.2.1.2.2.2.1, Value.int .i64 p1.2.1.2.2.2.2.1, Value.int .i64 p1.2.1.2.2.2.2.2, v2], _, Aa, ⟨[Value.int .i64 p1.1], [Value.int .i64 p1.2.1.1, Value.int .i64 p1.2.1.2.1.1, Value.int .i64 p1.2.1.2.1.2.1, Value.int .i64 p1.2.1.2.1.2.2.1, Value.int .i64 p1.2.1.2.1.2.2.2, Value.int .i64 p1.2.1.2.2.1, Value.int .i64 p1.2.1.2.2.2.1, Value.int .i64 p1.2.1.2.2.2.2.1, Value.int .i64 p1.2.1.2.2.2.2.2, v2], Aa, Aa, ⟨[Value.int .i64 p1.2.1.1, Value.int .i64 p1.2.1.2.1.1, Value.int .i64 p1.2.1.2.1.2.1, Value.int .i64 p1.2.1.2.1.2.2.1, Value.int .i64 p1.2.1.2.1.2.2.2, Value.int .i64 p1.2.1.2.2.1, Value.int .i64 p1.2.1.2.2.2.1, Value.int .i64 p1.2.1.2.2.2.2.1, Value.int .i64 p1.2.1.2.2.2.2.2], [v2], Aa, ⟨[Value.int .i64 p1.2.1.1], [Value.int .i64 p1.2.1.2.1.1, Value.int .i64 p1.2.1.2.1.2.1, Value.int .i64 p1.2.1.2.1.2.2.1, Value.int .i64 p1.2.1.2.1.2.2.2, Value.int .i64 p1.2.1.2.2.1, Value.int .i64 p1.2.1.2.2.2.1, Value.int .i64 p1.2.1.2.2.2.2.1, Value.int .i64 p1.2.1.2.2.2.2.2], Aa, Aa, ⟨[Value.int .i64 p1.2.1.2.1.1, Value.int .i64 p1.2.1.2.1.2.1, Value.int .i64 p1.2.1.2.1.2.2.1, Value.int .i64 p1.2.1.2.1.2.2.2], [Value.int .i64 p1.2.1.2.2.1, Value.int .i64 p1.2.1.2.2.2.1, Value.int .i64 p1.2.1.2.2.2.2.1, Value.int .i64 p1.2.1.2.2.2.2.2], Aa, ⟨[Value.int .i64 p1.2.1.2.1.1], [Value.int .i64 p1.2.1.2.1.2.1, Value.int .i64 p1.2.1.2.1.2.2.1, Value.int .i64 p1.2.1.2.1.2.2.2], Aa, Aa, ⟨[Value.int .i64 p1.2.1.2.1.2.1], [Value.int .i64 p1.2.1.2.1.2.2.1, Value.int .i64 p1.2.1.2.1.2.2.2], Aa, Aa, ⟨[Value.int .i64 p1.2.1.2.1.2.2.1], [Value.int .i64 p1.2.1.2.1.2.2.2], Aa, Aa, Aa⟩⟩⟩, ⟨[Value.int .i64 p1.2.1.2.2.1], [Value.int .i64 p1.2.1.2.2.2.1, Value.int .i64 p1.2.1.2.2.2.2.1, Value.int .i64 p1.2.1.2.2.2.2.2], Aa, Aa, ⟨[Value.int .i64 p1.2.1.2.2.2.1], [Value.int .i64 p1.2.1.2.2.2.2.1, Value.int .i64 p1.2.1.2.2.2.2.2], Aa, Aa, ⟨[Value.int .i64 p1.2.1.2.2.2.2.1], [Value.int .i64 p1.2.1.2.2.2.2.2], Aa, Aa, Aa⟩⟩⟩⟩⟩, ⟨_, Aa, (W.old s_v2)⟩⟩⟩, Aa⟩ fun v9 a w F W => ?_
     obtain ⟨x10, h7, H⟩ := Af H
     refine Ez (r := AK) (i := 1) F W Aa EL Aa Aa Aa Aa (FU W 0 Aa) h7 Aa fun v10 a w F W => ?_
     have W : Stw ⟨Y, [], w0⟩ (Fd b1 p1 v2) [row v10 37 AK x10, row v9 37 AK ([p1] : List (Int × (Int × (Int × Int × Int × Int) × (Int × Int × Int × Int)) × (List (Int × Int × Int))))] w := W
     refine BJ tk 6 F W fun a w F W => ?_
     refine Ad ?_
     have W := W.sub (M' := (Fd b1 p1 v2)) (Z' := [row v10 37 AK x10]) (List.Sublist.refl _) (List.Sublist.cons_cons _ (List.nil_sublist _))
     exact ⟨_, _, (v10), H, F.ra Aa, W⟩
    refine AC (Ad ?_)
    exact ⟨_, _, (v5), H, F.ra Aa, W⟩
   rintro a w ⟨x6, x7, v6, hj, F, W⟩
   have hj := Av hj
   subst hj
   have H := K3
   clear G3 K3
   obtain ⟨v11, h8, W⟩ := W.exR A4
   refine vc tk 4 F W fun a w F W => ?_
   obtain ⟨x11, h9, H⟩ := Af H
   obtain ⟨v12, h10, h11⟩ := BX h1 h9
   have h12 : Cy v12 = [.int .i64 x11.1, .int .i64 x11.2.1.1, .int .i64 x11.2.1.2.1.1, .int .i64 x11.2.1.2.1.2.1, .int .i64 x11.2.1.2.1.2.2.1, .int .i64 x11.2.1.2.1.2.2.2, .int .i64 x11.2.1.2.2.1, .int .i64 x11.2.1.2.2.2.1, .int .i64 x11.2.1.2.2.2.2.1, .int .i64 x11.2.1.2.2.2.2.2, (v12.2.2.1)] := congrArg (fun q : Int × (Int × (Int × Int × Int × Int) × (Int × Int × Int × Int)) × (List (Int × Int × Int)) => ([.int .i64 q.1, .int .i64 q.2.1.1, .int .i64 q.2.1.2.1.1, .int .i64 q.2.1.2.1.2.1, .int .i64 q.2.1.2.1.2.2.1, .int .i64 q.2.1.2.1.2.2.2, .int .i64 q.2.1.2.2.1, .int .i64 q.2.1.2.2.2.1, .int .i64 q.2.1.2.2.2.2.1, .int .i64 q.2.1.2.2.2.2.2, (v12.2.2.1)] : List Value)) h11
   refine ls F W Aa (AR (r := C4) EL F Aa Aa (An h_v1) h10).q fun a w F W => ?_
   refine ls F W Aa (AD (y := Value.agg #[.int .i64 x11.1, .int .i64 x11.2.1.1, .int .i64 x11.2.1.2.1.1, .int .i64 x11.2.1.2.1.2.1, .int .i64 x11.2.1.2.1.2.2.1, .int .i64 x11.2.1.2.1.2.2.2, .int .i64 x11.2.1.2.2.1, .int .i64 x11.2.1.2.2.2.1, .int .i64 x11.2.1.2.2.2.2.1, .int .i64 x11.2.1.2.2.2.2.2, (v12.2.2.1)]) (j := 0) (i := x5) (enc := Cy) F Aa Aa (An h_v1) h10 EG EM (by rw [h12]; rfl)).q fun a w F W => ?_
   refine GJ (z := Value.agg #[.int .i64 0, .int .i64 0, .int .i64 0, .int .i64 0, .int .i64 0, .int .i64 0, .int .i64 0, .int .i64 0, .int .i64 0, .int .i64 0, .slice none 0 0]) (cs := [.int .i64 x11.1, .int .i64 x11.2.1.1, .int .i64 x11.2.1.2.1.1, .int .i64 x11.2.1.2.1.2.1, .int .i64 x11.2.1.2.1.2.2.1, .int .i64 x11.2.1.2.1.2.2.2, .int .i64 x11.2.1.2.2.1, .int .i64 x11.2.1.2.2.2.1, .int .i64 x11.2.1.2.2.2.2.1, .int .i64 x11.2.1.2.2.2.2.2, (v12.2.2.1)]) AK ([x11] : List (Int × (Int × (Int × Int × Int × Int) × (Int × Int × Int × Int)) × (List (Int × Int × Int)))) F W Aa EL Kz Aa Aa Aa (B2 Aa Aa Aa C1) Aa Aa ⟨[Value.int .i64 x11.1, Value.int .i64 x11.2.1.1, Value.int .i64 x11.2.1.2.1.1, Value.int .i64 x11.2.1.2.1.2.1, Value.int .i64 x11.2.1.2.1.2.2.1, Value.int .i64 x11.2.1.2.1.2.2.2, Value.int .i64 x11.2.1.2.2.1, Value.int .i64 x11.2.1.2.2.2.1, Value.int .i64 x11.2.1.2.2.2.2.1, Value.int .i64 x11.2.1.2.2.2.2.2, (v12.2.2.1)], _, Aa, ⟨[Value.int .i64 x11.1], [Value.int .i64 x11.2.1.1, Value.int .i64 x11.2.1.2.1.1, Value.int .i64 x11.2.1.2.1.2.1, Value.int .i64 x11.2.1.2.1.2.2.1, Value.int .i64 x11.2.1.2.1.2.2.2, Value.int .i64 x11.2.1.2.2.1, Value.int .i64 x11.2.1.2.2.2.1, Value.int .i64 x11.2.1.2.2.2.2.1, Value.int .i64 x11.2.1.2.2.2.2.2, (v12.2.2.1)], Aa, Aa, ⟨[Value.int .i64 x11.2.1.1, Value.int .i64 x11.2.1.2.1.1, Value.int .i64 x11.2.1.2.1.2.1, Value.int .i64 x11.2.1.2.1.2.2.1, Value.int .i64 x11.2.1.2.1.2.2.2, Value.int .i64 x11.2.1.2.2.1, Value.int .i64 x11.2.1.2.2.2.1, Value.int .i64 x11.2.1.2.2.2.2.1, Value.int .i64 x11.2.1.2.2.2.2.2], [(v12.2.2.1)], Aa, ⟨[Value.int .i64 x11.2.1.1], [Value.int .i64 x11.2.1.2.1.1, Value.int .i64 x11.2.1.2.1.2.1, Value.int .i64 x11.2.1.2.1.2.2.1, Value.int .i64 x11.2.1.2.1.2.2.2, Value.int .i64 x11.2.1.2.2.1, Value.int .i64 x11.2.1.2.2.2.1, Value.int .i64 x11.2.1.2.2.2.2.1, Value.int .i64 x11.2.1.2.2.2.2.2], Aa, Aa, ⟨[Value.int .i64 x11.2.1.2.1.1, Value.int .i64 x11.2.1.2.1.2.1, Value.int .i64 x11.2.1.2.1.2.2.1, Value.int .i64 x11.2.1.2.1.2.2.2], [Value.int .i64 x11.2.1.2.2.1, Value.int .i64 x11.2.1.2.2.2.1, Value.int .i64 x11.2.1.2.2.2.2.1, Value.int .i64 x11.2.1.2.2.2.2.2], Aa, ⟨[Value.int .i64 x11.2.1.2.1.1], [Value.int .i64 x11.2.1.2.1.2.1, Value.int .i64 x11.2.1.2.1.2.2.1, Value.int .i64 x11.2.1.2.1.2.2.2], Aa, Aa, ⟨[Value.int .i64 x11.2.1.2.1.2.1], [Value.int .i64 x11.2.1.2.1.2.2.1, Value.int .i64 x11.2.1.2.1.2.2.2], Aa, Aa, ⟨[Value.int .i64 x11.2.1.2.1.2.2.1], [Value.int .i64 x11.2.1.2.1.2.2.2], Aa, Aa, Aa⟩⟩⟩, ⟨[Value.int .i64 x11.2.1.2.2.1], [Value.int .i64 x11.2.1.2.2.2.1, Value.int .i64 x11.2.1.2.2.2.2.1, Value.int .i64 x11.2.1.2.2.2.2.2], Aa, Aa, ⟨[Value.int .i64 x11.2.1.2.2.2.1], [Value.int .i64 x11.2.1.2.2.2.2.1, Value.int .i64 x11.2.1.2.2.2.2.2], Aa, Aa, ⟨[Value.int .i64 x11.2.1.2.2.2.2.1], [Value.int .i64 x11.2.1.2.2.2.2.2], Aa, Aa, Aa⟩⟩⟩⟩⟩, ⟨_, Aa, (Sl.at_ (W.old s_v1) h10 (Ay.snd (Ay.snd Ay.here)) (congrArg (fun q : Int × (Int × (Int × Int × Int × Int) × (Int × Int × Int × Int)) × (List (Int × Int × Int)) => q.2.2) h11))⟩⟩⟩, Aa⟩ fun v13 a w F W => ?_
   have W := W.frontZ (i := 1) Aa Aa
   have W := W.hideR A4 h8
   obtain ⟨x12, h13, H⟩ := Af H
   refine Ez (r := AK) (i := 0) F W Aa EL Aa Aa Aa Aa (FU W 1 Aa) h13 Aa fun v14 a w F W => ?_
   have W : Stw ⟨Y, [], w0⟩ (Fd b1 p1 v2) [row v14 37 AK x12, row v13 37 AK ([x11] : List (Int × (Int × (Int × Int × Int × Int) × (Int × Int × Int × Int)) × (List (Int × Int × Int))))] w := W
   refine vl tk 2 F W fun a w F W => ?_
   refine AF ?_
   refine vn tk 5 F W fun a w F W => ?_
   refine Ad ?_
   have W := W.sub (M' := (Fd b1 p1 v2)) (Z' := [row v14 37 AK x12]) (List.Sublist.refl _) (List.Sublist.cons_cons _ (List.nil_sublist _))
   exact ⟨_, H, (v14), F.ra Aa, W⟩
  refine Bm ?_
  iterate 2 refine BU ?_
  refine Bp (Ad ?_)
  have H := L2 _ H
  exact ⟨_, _, (v5), H, F.ra Aa, W⟩
 rintro a w ⟨x1, x2, v4, hj, F, W⟩
 have hj := Av hj
 subst hj
 have H := K1
 clear G1 K1
 obtain ⟨o5, G5, K5⟩ := Af H
 refine Au (fun a w => ∃ x13 : List (Int × (Int × (Int × Int × Int × Int) × (Int × Int × Int × Int)) × (List (Int × Int × Int))), ∃ v15 : Value, some (x13) = some o5 ∧ Fr 44 [] [(4, .slice none 0 0), (5, v15)] a ∧ Stw ⟨Y, [], w0⟩ (Fd b1 p1 v2) [row v15 37 AK x13] w) ?_ ?_
 ·
  have H := G5
  clear G5 K5
  refine vc tk 6 F W fun a w F W => ?_
  refine BE F Aa H (fun F H => ?_) fun F H => ?_
  ·
   refine Fq tk 3 [0] F W (ai fun a w F W => ?_)
   refine GJ (z := Value.agg #[.int .i64 0, .int .i64 0, .int .i64 0, .int .i64 0, .int .i64 0, .int .i64 0, .int .i64 0, .int .i64 0, .int .i64 0, .int .i64 0, .slice none 0 0]) (cs := (DZ p1 v2)) AK ([p1] : List (Int × (Int × (Int × Int × Int × Int) × (Int × Int × Int × Int)) × (List (Int × Int × Int)))) F W Aa EL Kz Aa Aa Aa (B2 Aa Aa Aa C1) Aa Aa ⟨[Value.int .i64 p1.1, Value.int .i64 p1.2.1.1, Value.int .i64 p1.2.1.2.1.1, Value.int .i64 p1.2.1.2.1.2.1, Value.int .i64 p1.2.1.2.1.2.2.1, Value.int .i64 p1.2.1.2.1.2.2.2, Value.int .i64 p1.2.1.2.2.1, Value.int .i64 p1.2.1.2.2.2.1, Value.int .i64 p1.2.1.2.2.2.2.1, Value.int .i64 p1.2.1.2.2.2.2.2, v2], _, Aa, ⟨[Value.int .i64 p1.1], [Value.int .i64 p1.2.1.1, Value.int .i64 p1.2.1.2.1.1, Value.int .i64 p1.2.1.2.1.2.1, Value.int .i64 p1.2.1.2.1.2.2.1, Value.int .i64 p1.2.1.2.1.2.2.2, Value.int .i64 p1.2.1.2.2.1, Value.int .i64 p1.2.1.2.2.2.1, Value.int .i64 p1.2.1.2.2.2.2.1, Value.int .i64 p1.2.1.2.2.2.2.2, v2], Aa, Aa, ⟨[Value.int .i64 p1.2.1.1, Value.int .i64 p1.2.1.2.1.1, Value.int .i64 p1.2.1.2.1.2.1, Value.int .i64 p1.2.1.2.1.2.2.1, Value.int .i64 p1.2.1.2.1.2.2.2, Value.int .i64 p1.2.1.2.2.1, Value.int .i64 p1.2.1.2.2.2.1, Value.int .i64 p1.2.1.2.2.2.2.1, Value.int .i64 p1.2.1.2.2.2.2.2], [v2], Aa, ⟨[Value.int .i64 p1.2.1.1], [Value.int .i64 p1.2.1.2.1.1, Value.int .i64 p1.2.1.2.1.2.1, Value.int .i64 p1.2.1.2.1.2.2.1, Value.int .i64 p1.2.1.2.1.2.2.2, Value.int .i64 p1.2.1.2.2.1, Value.int .i64 p1.2.1.2.2.2.1, Value.int .i64 p1.2.1.2.2.2.2.1, Value.int .i64 p1.2.1.2.2.2.2.2], Aa, Aa, ⟨[Value.int .i64 p1.2.1.2.1.1, Value.int .i64 p1.2.1.2.1.2.1, Value.int .i64 p1.2.1.2.1.2.2.1, Value.int .i64 p1.2.1.2.1.2.2.2], [Value.int .i64 p1.2.1.2.2.1, Value.int .i64 p1.2.1.2.2.2.1, Value.int .i64 p1.2.1.2.2.2.2.1, Value.int .i64 p1.2.1.2.2.2.2.2], Aa, ⟨[Value.int .i64 p1.2.1.2.1.1], [Value.int .i64 p1.2.1.2.1.2.1, Value.int .i64 p1.2.1.2.1.2.2.1, Value.int .i64 p1.2.1.2.1.2.2.2], Aa, Aa, ⟨[Value.int .i64 p1.2.1.2.1.2.1], [Value.int .i64 p1.2.1.2.1.2.2.1, Value.int .i64 p1.2.1.2.1.2.2.2], Aa, Aa, ⟨[Value.int .i64 p1.2.1.2.1.2.2.1], [Value.int .i64 p1.2.1.2.1.2.2.2], Aa, Aa, Aa⟩⟩⟩, ⟨[Value.int .i64 p1.2.1.2.2.1], [Value.int .i64 p1.2.1.2.2.2.1, Value.int .i64 p1.2.1.2.2.2.2.1, Value.int .i64 p1.2.1.2.2.2.2.2], Aa, Aa, ⟨[Value.int .i64 p1.2.1.2.2.2.1], [Value.int .i64 p1.2.1.2.2.2.2.1, Value.int .i64 p1.2.1.2.2.2.2.2], Aa, Aa, ⟨[Value.int .i64 p1.2.1.2.2.2.2.1], [Value.int .i64 p1.2.1.2.2.2.2.2], Aa, Aa, Aa⟩⟩⟩⟩⟩, ⟨_, Aa, (W.old s_v2)⟩⟩⟩, Aa⟩ fun v16 a w F W => ?_
   obtain ⟨x14, h14, H⟩ := Af H
   refine Ez (r := AK) (i := 1) F W Aa EL Aa Aa Aa Aa (FU W 0 Aa) h14 Aa fun v17 a w F W => ?_
   have W : Stw ⟨Y, [], w0⟩ (Fd b1 p1 v2) [row v17 37 AK x14, row v16 37 AK ([p1] : List (Int × (Int × (Int × Int × Int × Int) × (Int × Int × Int × Int)) × (List (Int × Int × Int))))] w := W
   refine vl tk 2 F W fun a w F W => ?_
   refine Ad ?_
   have W := W.sub (M' := (Fd b1 p1 v2)) (Z' := [row v17 37 AK x14]) (List.Sublist.refl _) (List.Sublist.cons_cons _ (List.nil_sublist _))
   exact ⟨_, (v17), H, F.ra Aa, W⟩
  refine AC (Ad ?_)
  exact ⟨_, (v4), H, F.ra Aa, W⟩
 rintro a w ⟨x13, v15, hj, F, W⟩
 have hj := Av hj
 subst hj
 have H := K5
 clear G5 K5
 refine vc tk 6 F W fun a w F W => ?_
 refine Al ?_
 have H := Av H
 subst H
 refine Aw (.inl Aa) F W Aa (Ai F Aa) ?_
 have W := W.sub (M' := []) (Z' := [row v15 37 AK x13]) (List.nil_sublist _) (List.Sublist.refl _)
 exact ⟨(v15), Aa, W⟩
theorem TQ : Has Try.prog 77 := BV Try.func77
noncomputable def Ec (p0 : List (Int × (Int × (Int × Int × Int × Int) × (Int × Int × Int × Int)) × (List (Int × Int × Int)))) (p1 : Int × (Int × (Int × (Int × Int × Int × Int) × (Int × Int × Int × Int)) × (List (Int × Int × Int))) × Bool) : Int → Option (Int ⊕ (Unit ⊕ ((List (Int × (Int × (Int × Int × Int × Int) × (Int × Int × Int × Int)) × (List (Int × Int × Int)))) × Int)))
  | x1 => (if (p1.2.2 && decide (x1 < (p0.length : Int))) = true then (ix p0 x1).bind fun x2 => (EF x2 p1.2.1).bind fun x3 => (if x3 = true then some (.inr (.inr (p0, 14))) else some (.inl (Cc (x1 + 1)))) else some (.inr (.inl ())))
noncomputable def HQ (p0 : List (Int × (Int × (Int × Int × Int × Int) × (Int × Int × Int × Int)) × (List (Int × Int × Int)))) (p1 : Int × (Int × (Int × (Int × Int × Int × Int) × (Int × Int × Int × Int)) × (List (Int × Int × Int))) × Bool) (p2 : Int) : Option ((List (Int × (Int × (Int × Int × Int × Int) × (Int × Int × Int × Int)) × (List (Int × Int × Int)))) × Int) := FR (AX (Ec p0 p1) 0) fun _ => (DM p0 p1 true false).bind fun x4 => (if 0 < x4.2 then some (x4.1, 0) else (if p2 ≤ (p0.length : Int) then some (p0, 6) else (Gd p0 p1.2.1).bind fun x5 => some (x5, 0)))
theorem Np (Y : Nat → Prop) (w0 : World) (v1 : Value) (v2 : Value) (p0 : List (Int × (Int × (Int × Int × Int × Int) × (Int × Int × Int × Int)) × (List (Int × Int × Int)))) (p1 : Int × (Int × (Int × (Int × Int × Int × Int) × (Int × Int × Int × Int)) × (List (Int × Int × Int))) × Bool) (p2 : Int) (r : (List (Int × (Int × (Int × Int × Int × Int) × (Int × Int × Int × Int)) × (List (Int × Int × Int)))) × Int) (H : HQ p0 p1 p2 = some r) (s_v1 : Sl w0 Y AK v1 p0) (s_v2 : Sl w0 Y Bk v2 p1.2.1.2.2) :
    Calls Try.prog 61 #[v1, .agg #[.int .i64 p1.1, .int .i64 p1.2.1.1, .int .i64 p1.2.1.2.1.1, .int .i64 p1.2.1.2.1.2.1.1, .int .i64 p1.2.1.2.1.2.1.2.1, .int .i64 p1.2.1.2.1.2.1.2.2.1, .int .i64 p1.2.1.2.1.2.1.2.2.2, .int .i64 p1.2.1.2.1.2.2.1, .int .i64 p1.2.1.2.1.2.2.2.1, .int .i64 p1.2.1.2.1.2.2.2.2.1, .int .i64 p1.2.1.2.1.2.2.2.2.2, v2, .bool p1.2.2], .int .i64 p2] w0 fun e w' => ∃ x : Value, e = .returned (.tuple #[x, .int .i64 r.2]) ∧ Stw ⟨Y, [], w0⟩ [] [Bo (x) AK r.1] w' := by
 refine enter Try.func61 Aa Try.ntmps61 Aa fun a F => ?_
 have W := Stw.start Y w0
 obtain ⟨v3, h1, s_v1⟩ := s_v1.ex A4
 have h_v1 := W.nx s_v1
 have h_v2 := W.nx s_v2
 unfold HQ at H
 refine vc tk 2 F W fun a w F W => ?_
 refine BR (cs := [.int .i64 p1.1, .int .i64 p1.2.1.1, .int .i64 p1.2.1.2.1.1, .int .i64 p1.2.1.2.1.2.1.1, .int .i64 p1.2.1.2.1.2.1.2.1, .int .i64 p1.2.1.2.1.2.1.2.2.1, .int .i64 p1.2.1.2.1.2.1.2.2.2, .int .i64 p1.2.1.2.1.2.2.1, .int .i64 p1.2.1.2.1.2.2.2.1, .int .i64 p1.2.1.2.1.2.2.2.2.1, .int .i64 p1.2.1.2.1.2.2.2.2.2, v2, .bool p1.2.2]) F W Aa Aa Aa fun b1 a w F W => ?_
 refine vl tk 3 F W fun a w F W => ?_
 refine Ad ?_
 obtain ⟨o1, G1, K1, L1⟩ := H1 H
 refine Au (fun a w => some (Sum.inl ()) = some o1 ∧ Fr 47 [] [(0, v1), (2, .int .i64 p2), (4, .pointer (some ⟨b1, 0, none⟩)), (6, .slice none 0 0), (7, .int .i64 0)] a ∧ Stw ⟨Y, [], w0⟩ [(b1, [.int .i64 p1.1, .int .i64 p1.2.1.1, .int .i64 p1.2.1.2.1.1, .int .i64 p1.2.1.2.1.2.1.1, .int .i64 p1.2.1.2.1.2.1.2.1, .int .i64 p1.2.1.2.1.2.1.2.2.1, .int .i64 p1.2.1.2.1.2.1.2.2.2, .int .i64 p1.2.1.2.1.2.2.1, .int .i64 p1.2.1.2.1.2.2.2.1, .int .i64 p1.2.1.2.1.2.2.2.2.1, .int .i64 p1.2.1.2.1.2.2.2.2.2, v2, .bool p1.2.2])] [] w) ?_ ?_
 ·
  have H := G1
  clear G1 K1
  refine vc tk 6 F W fun a w F W => ?_
  refine BA H (fun s a w => Fr 47 [] [(0, v1), (2, .int .i64 p2), (4, .pointer (some ⟨b1, 0, none⟩)), (6, .slice none 0 0), (7, .int .i64 0), (8, .int .i64 s)] a ∧ Stw ⟨Y, [], w0⟩ [(b1, [.int .i64 p1.1, .int .i64 p1.2.1.1, .int .i64 p1.2.1.2.1.1, .int .i64 p1.2.1.2.1.2.1.1, .int .i64 p1.2.1.2.1.2.1.2.1, .int .i64 p1.2.1.2.1.2.1.2.2.1, .int .i64 p1.2.1.2.1.2.1.2.2.2, .int .i64 p1.2.1.2.1.2.2.1, .int .i64 p1.2.1.2.1.2.2.2.1, .int .i64 p1.2.1.2.1.2.2.2.2.1, .int .i64 p1.2.1.2.1.2.2.2.2.2, v2, .bool p1.2.2])] [] w) ⟨F.ra Aa, W⟩ fun s o a w H L2 hR => ?_
  obtain ⟨x1, rfl⟩ : ∃ x, x = s := ⟨s, rfl⟩
  obtain ⟨F, W⟩ := hR
  have F : Fr 47 [] [(0, v1), (2, .int .i64 p2), (4, .pointer (some ⟨b1, 0, none⟩)), (6, .slice none 0 0), (7, .int .i64 0), (8, .int .i64 x1)] a := F
  have W : Stw ⟨Y, [], w0⟩ [(b1, [.int .i64 p1.1, .int .i64 p1.2.1.1, .int .i64 p1.2.1.2.1.1, .int .i64 p1.2.1.2.1.2.1.1, .int .i64 p1.2.1.2.1.2.1.2.1, .int .i64 p1.2.1.2.1.2.1.2.2.1, .int .i64 p1.2.1.2.1.2.1.2.2.2, .int .i64 p1.2.1.2.1.2.2.1, .int .i64 p1.2.1.2.1.2.2.2.1, .int .i64 p1.2.1.2.1.2.2.2.2.1, .int .i64 p1.2.1.2.1.2.2.2.2.2, v2, .bool p1.2.2])] [] w := W
  rw [Ec] at H
  refine GB ?_
  refine Au (fun a w => Fr 47 [] [(0, v1), (2, .int .i64 p2), (4, .pointer (some ⟨b1, 0, none⟩)), (6, .slice none 0 0), (7, .int .i64 0), (8, .int .i64 x1), (18, .bool (p1.2.2 && decide (x1 < (p0.length : Int))))] a ∧ Stw ⟨Y, [], w0⟩ [(b1, [.int .i64 p1.1, .int .i64 p1.2.1.1, .int .i64 p1.2.1.2.1.1, .int .i64 p1.2.1.2.1.2.1.1, .int .i64 p1.2.1.2.1.2.1.2.1, .int .i64 p1.2.1.2.1.2.1.2.2.1, .int .i64 p1.2.1.2.1.2.1.2.2.2, .int .i64 p1.2.1.2.1.2.2.1, .int .i64 p1.2.1.2.1.2.2.2.1, .int .i64 p1.2.1.2.1.2.2.2.2.1, .int .i64 p1.2.1.2.1.2.2.2.2.2, v2, .bool p1.2.2])] [] w) ?_ ?_
  ·
   refine Fq tk 4 [0] F W (ai fun a w F W => ?_)
   rcases Bool.eq_false_or_eq_true p1.2.2 with hb0 | hb0
   ·
    rw [hb0] at F
    refine vl tk 2 F W fun a w F W => ?_
    refine FE F W (Ae F Aa Aa Aa Aa) Aa (As Aa) (B7 (r := AK) (l := p0) E7 Aa F Aa (Bq A4 h1 (An h_v1))).q fun a w F W => ?_
    refine vl tk 3 F W fun a w F W => ?_
    refine Ad ?_
    exact ⟨F.re ⟨rfl, Aa, Aa, Aa, Aa, Aa, (Ev (by try rw [hb0]; all_goals simp only [Es])), trivial⟩, W⟩
   rw [hb0] at F
   refine vl tk 6 F W fun a w F W => ?_
   refine Ad ?_
   exact ⟨F.re ⟨rfl, Aa, Aa, Aa, Aa, Aa, (Ev (by try rw [hb0]; all_goals simp only [Es])), trivial⟩, W⟩
  rintro a w ⟨F, W⟩
  refine BE F Aa H (fun F H => ?_) fun F H => ?_
  ·
   refine D6 tk 5 F W fun a w F W => ?_
   refine Ck W MO (by kernel_rfl) ?_
   iterate 2 refine qs F Aa (Am F Aa).q fun a F => ?_
   obtain ⟨x2, h2, H⟩ := Af H
   obtain ⟨v4, h3, h4⟩ := BX h1 h2
   have h5 : Cy v4 = [.int .i64 x2.1, .int .i64 x2.2.1.1, .int .i64 x2.2.1.2.1.1, .int .i64 x2.2.1.2.1.2.1, .int .i64 x2.2.1.2.1.2.2.1, .int .i64 x2.2.1.2.1.2.2.2, .int .i64 x2.2.1.2.2.1, .int .i64 x2.2.1.2.2.2.1, .int .i64 x2.2.1.2.2.2.2.1, .int .i64 x2.2.1.2.2.2.2.2, (v4.2.2.1)] := congrArg (fun q : Int × (Int × (Int × Int × Int × Int) × (Int × Int × Int × Int)) × (List (Int × Int × Int)) => ([.int .i64 q.1, .int .i64 q.2.1.1, .int .i64 q.2.1.2.1.1, .int .i64 q.2.1.2.1.2.1, .int .i64 q.2.1.2.1.2.2.1, .int .i64 q.2.1.2.1.2.2.2, .int .i64 q.2.1.2.2.1, .int .i64 q.2.1.2.2.2.1, .int .i64 q.2.1.2.2.2.2.1, .int .i64 q.2.1.2.2.2.2.2, (v4.2.2.1)] : List Value)) h4
   refine qs F Aa (AR (r := C4) EL F Aa Aa (An h_v1) h3).q fun a F => ?_
   refine qs F Aa (AD (y := Value.agg #[.int .i64 x2.1, .int .i64 x2.2.1.1, .int .i64 x2.2.1.2.1.1, .int .i64 x2.2.1.2.1.2.1, .int .i64 x2.2.1.2.1.2.2.1, .int .i64 x2.2.1.2.1.2.2.2, .int .i64 x2.2.1.2.2.1, .int .i64 x2.2.1.2.2.2.1, .int .i64 x2.2.1.2.2.2.2.1, .int .i64 x2.2.1.2.2.2.2.2, (v4.2.2.1)]) (j := 0) (i := x1) (enc := Cy) F Aa Aa (An h_v1) h3 EG EM (by rw [h5]; rfl)).q fun a F => ?_
   refine qs F Aa (Aj Jp Aa Aa Aa EM F Aa 1 Aa).q fun a F => ?_
   refine qs F Aa (Bn (v := Value.agg #[.int .i64 p1.2.1.1, .int .i64 p1.2.1.2.1.1, .int .i64 p1.2.1.2.1.2.1.1, .int .i64 p1.2.1.2.1.2.1.2.1, .int .i64 p1.2.1.2.1.2.1.2.2.1, .int .i64 p1.2.1.2.1.2.1.2.2.2, .int .i64 p1.2.1.2.1.2.2.1, .int .i64 p1.2.1.2.1.2.2.2.1, .int .i64 p1.2.1.2.1.2.2.2.2.1, .int .i64 p1.2.1.2.1.2.2.2.2.2, v2]) 0 F Aa Aa EM Aa).q fun a F => ?_
   obtain ⟨x3, h6, H⟩ := Af H
   refine qs F Aa (AM (v := Value.bool x3) F Tj Aa (fun w W => Jg any w ((v4.2.2.1)) (v2) x2 p1.2.1 _ h6 (Dc (Db (An h_v1) h3 (Ay.snd (Ay.snd Ay.here)) (congrArg (fun q : Int × (Int × (Int × Int × Int × Int) × (Int × Int × Int × Int)) × (List (Int × Int × Int)) => q.2.2) h4)) W) (Dc (An h_v2) W))) fun a F => ?_
   refine AJ fun w W => ?_
   refine Ad ?_
   refine BE F Aa H (fun F H => ?_) fun F H => ?_
   ·
    refine vc tk 7 F W fun a w F W => ?_
    refine Al (Az ?_)
    iterate 2 refine Aq ?_
    refine Az (Aq ?_)
    have H := L2 _ H
    have H := L1 _ H
    have H := Av H
    subst H
    refine CI (.inl Aa) F W Aa (Ai F Aa) (Ai F Aa) ?_
    have W := W.note (Sl.hide A4 h1 (W.old s_v1))
    have W := W.sub (M' := []) (Z' := [Bo v1 AK p0]) (List.nil_sublist _) (List.Sublist.refl _)
    exact ⟨(v1), Aa, W⟩
   refine AC (AF ?_)
   refine vn tk 5 F W fun a w F W => ?_
   refine Ad ?_
   exact ⟨_, H, F.ra Aa, W⟩
  refine Bm ?_
  iterate 2 refine BU ?_
  refine Bp (Ad ?_)
  have H := L2 _ H
  exact ⟨H, F.ra Aa, W⟩
 rintro a w ⟨hj, F, W⟩
 have H := K1 _ hj
 clear hj G1 K1 L1
 refine Fq tk 4 [0] F W (ai fun a w F W => ?_)
 obtain ⟨x4, h7, H⟩ := Af H
 refine AA (Ml := []) (Zl := []) (β := Value) (rv := fun x => .tuple #[x, .int .i64 x4.2]) (MM := fun x => []) (ZZ := fun x => [row x 37 AK x4.1]) F W SF Aa Aa (fun hL => Hi _ w (v1) (v2) p0 p1 true false _ h7 (Sl.hide A4 h1 (W.old s_v1)) (W.old s_v2)) fun x a w F W => ?_
 obtain ⟨v5, rfl⟩ : ∃ y, y = x := ⟨x, rfl⟩
 have W : Stw ⟨Y, [], w0⟩ [(b1, [.int .i64 p1.1, .int .i64 p1.2.1.1, .int .i64 p1.2.1.2.1.1, .int .i64 p1.2.1.2.1.2.1.1, .int .i64 p1.2.1.2.1.2.1.2.1, .int .i64 p1.2.1.2.1.2.1.2.2.1, .int .i64 p1.2.1.2.1.2.1.2.2.2, .int .i64 p1.2.1.2.1.2.2.1, .int .i64 p1.2.1.2.1.2.2.2.1, .int .i64 p1.2.1.2.1.2.2.2.2.1, .int .i64 p1.2.1.2.1.2.2.2.2.2, v2, .bool p1.2.2])] [row v5 37 AK x4.1] w := W
 refine ls F W Aa (Am F Aa).q fun a w F W => ?_
 refine ls F W Aa (AN (v := v5) F Aa Aa).q fun a w F W => ?_
 refine ls F W Aa (AN (v := Value.int .i64 x4.2) F Aa Aa).q fun a w F W => ?_
 refine BJ tk 11 F W fun a w F W => ?_
 refine Bi F Aa H (fun F H => ?_) fun F H => ?_
 ·
  refine vc tk 7 F W fun a w F W => ?_
  refine Al (Aq ?_)
  have H := Av H
  subst H
  refine CI (.inl Aa) F W Aa (Ai F Aa) (Ai F Aa) ?_
  have W := W.freeze
  have W := W.sub (M' := []) (Z' := [Bo v5 AK x4.1]) (List.nil_sublist _) (List.Sublist.refl _)
  exact ⟨(v5), Aa, W⟩
 refine D6 tk 6 F W fun a w F W => ?_
 refine ls F W Aa (B7 (r := AK) (l := p0) E7 Aa F Aa (Bq A4 h1 (An h_v1))).q fun a w F W => ?_
 refine BJ tk 4 F W fun a w F W => ?_
 refine Bi F Aa H (fun F H => ?_) fun F H => ?_
 ·
  refine vc tk 7 F W fun a w F W => ?_
  refine Al (Aq ?_)
  have H := Av H
  subst H
  refine CI (.inl Aa) F W Aa (Ai F Aa) (Ai F Aa) ?_
  have W := W.note (Sl.hide A4 h1 (W.old s_v1))
  have W := W.sub (M' := []) (Z' := [Bo v1 AK p0]) (List.nil_sublist _) (List.Sublist.cons_cons _ (List.nil_sublist _))
  exact ⟨(v1), Aa, W⟩
 refine KR tk 7 [0] F W (ai fun a w F W => ?_)
 obtain ⟨x5, h8, H⟩ := Af H
 refine AA (Ml := []) (Zl := []) (β := Value) (rv := fun x => x) (MM := fun x => []) (ZZ := fun x => [row x 37 AK x5]) F W TQ Aa Aa (fun hL => KX _ w (v1) (v2) p0 p1.2.1 _ h8 (Sl.hide A4 h1 (W.old s_v1)) (W.old s_v2)) fun x a w F W => ?_
 obtain ⟨v6, rfl⟩ : ∃ y, y = x := ⟨x, rfl⟩
 have W : Stw ⟨Y, [], w0⟩ [(b1, [.int .i64 p1.1, .int .i64 p1.2.1.1, .int .i64 p1.2.1.2.1.1, .int .i64 p1.2.1.2.1.2.1.1, .int .i64 p1.2.1.2.1.2.1.2.1, .int .i64 p1.2.1.2.1.2.1.2.2.1, .int .i64 p1.2.1.2.1.2.1.2.2.2, .int .i64 p1.2.1.2.1.2.2.1, .int .i64 p1.2.1.2.1.2.2.2.1, .int .i64 p1.2.1.2.1.2.2.2.2.1, .int .i64 p1.2.1.2.1.2.2.2.2.2, v2, .bool p1.2.2])] [row v6 37 AK x5, row v5 37 AK x4.1] w := W
 refine BJ tk 4 F W fun a w F W => ?_
 refine Al ?_
 have H := Av H
 subst H
 refine CI (.inl Aa) F W Aa (Ai F Aa) (Ai F Aa) ?_
 have W := W.freeze
 have W := W.sub (M' := []) (Z' := [Bo v6 AK x5]) (List.nil_sublist _) (List.Sublist.cons_cons _ (List.nil_sublist _))
 exact ⟨(v6), Aa, W⟩
theorem S0 : Has Try.prog 61 := BV Try.func61
noncomputable def Gh (p0 : List (Int × (Int × (Int × Int × Int × Int) × (Int × Int × Int × Int)) × (List (Int × Int × Int)))) (p1 : Int × (Int × (Int × (Int × Int × Int × Int) × (Int × Int × Int × Int)) × (List (Int × Int × Int))) × Bool) (p2 : Int) (p3 : Int) : Option ((List (Int × (Int × (Int × Int × Int × Int) × (Int × Int × Int × Int)) × (List (Int × Int × Int)))) × Int) := (if p1.1 < 1 then some true else (if 5 < p1.1 then some true else (DW p1.2.1 p2).bind fun x2 => some (!x2))).bind fun x1 => (if x1 = true then some (p0, 2) else (if p1.1 = 1 then (HQ p0 p1 p3).bind fun x3 => some (x3.1, x3.2) else (DM p0 p1 (decide (p1.1 = 3) || decide (p1.1 = 5)) (decide (4 ≤ p1.1))).bind fun x4 => (if ((decide (p1.1 = 3) || decide (p1.1 = 5)) && decide (x4.2 = 0)) = true then some (p0, 7) else some (x4.1, 0))))
theorem Lo (Y : Nat → Prop) (w0 : World) (v1 : Value) (v2 : Value) (p0 : List (Int × (Int × (Int × Int × Int × Int) × (Int × Int × Int × Int)) × (List (Int × Int × Int)))) (p1 : Int × (Int × (Int × (Int × Int × Int × Int) × (Int × Int × Int × Int)) × (List (Int × Int × Int))) × Bool) (p2 : Int) (p3 : Int) (r : (List (Int × (Int × (Int × Int × Int × Int) × (Int × Int × Int × Int)) × (List (Int × Int × Int)))) × Int) (H : Gh p0 p1 p2 p3 = some r) (s_v1 : Sl w0 Y AK v1 p0) (s_v2 : Sl w0 Y Bk v2 p1.2.1.2.2) :
    Calls Try.prog 44 #[v1, .agg #[.int .i64 p1.1, .int .i64 p1.2.1.1, .int .i64 p1.2.1.2.1.1, .int .i64 p1.2.1.2.1.2.1.1, .int .i64 p1.2.1.2.1.2.1.2.1, .int .i64 p1.2.1.2.1.2.1.2.2.1, .int .i64 p1.2.1.2.1.2.1.2.2.2, .int .i64 p1.2.1.2.1.2.2.1, .int .i64 p1.2.1.2.1.2.2.2.1, .int .i64 p1.2.1.2.1.2.2.2.2.1, .int .i64 p1.2.1.2.1.2.2.2.2.2, v2, .bool p1.2.2], .int .i64 p2, .int .i64 p3] w0 fun e w' => ∃ x : Value, e = .returned (.tuple #[x, .int .i64 r.2]) ∧ Stw ⟨Y, [], w0⟩ [] [Bo (x) AK r.1] w' := by
 refine enter Try.func44 Aa Try.ntmps44 Aa fun a F => ?_
 have W := Stw.start Y w0
 obtain ⟨v3, h1, s_v1⟩ := s_v1.ex A4
 have h_v1 := W.nx s_v1
 have h_v2 := W.nx s_v2
 unfold Gh at H
 refine vc tk 2 F W fun a w F W => ?_
 refine BR (cs := [.int .i64 p1.1, .int .i64 p1.2.1.1, .int .i64 p1.2.1.2.1.1, .int .i64 p1.2.1.2.1.2.1.1, .int .i64 p1.2.1.2.1.2.1.2.1, .int .i64 p1.2.1.2.1.2.1.2.2.1, .int .i64 p1.2.1.2.1.2.1.2.2.2, .int .i64 p1.2.1.2.1.2.2.1, .int .i64 p1.2.1.2.1.2.2.2.1, .int .i64 p1.2.1.2.1.2.2.2.2.1, .int .i64 p1.2.1.2.1.2.2.2.2.2, v2, .bool p1.2.2]) F W Aa Aa Aa fun b1 a w F W => ?_
 refine BJ tk 5 F W fun a w F W => ?_
 obtain ⟨o1, G1, K1⟩ := Af H
 refine Au (fun a w => ∃ x1 : Bool, some (x1) = some o1 ∧ Fr 63 [] [(0, v1), (3, .int .i64 p3), (5, .pointer (some ⟨b1, 0, none⟩)), (8, .slice none 0 0), (9, .int .i64 0), (27, .bool x1)] a ∧ Stw ⟨Y, [], w0⟩ [(b1, [.int .i64 p1.1, .int .i64 p1.2.1.1, .int .i64 p1.2.1.2.1.1, .int .i64 p1.2.1.2.1.2.1.1, .int .i64 p1.2.1.2.1.2.1.2.1, .int .i64 p1.2.1.2.1.2.1.2.2.1, .int .i64 p1.2.1.2.1.2.1.2.2.2, .int .i64 p1.2.1.2.1.2.2.1, .int .i64 p1.2.1.2.1.2.2.2.1, .int .i64 p1.2.1.2.1.2.2.2.2.1, .int .i64 p1.2.1.2.1.2.2.2.2.2, v2, .bool p1.2.2])] [] w) ?_ ?_
 ·
  have H := G1
  clear G1 K1
  refine Fq tk 5 [0] F W (ai fun a w F W => ?_)
  rcases Bool.eq_false_or_eq_true (decide (p1.1 < 1)) with hb | hb
  ·
   have H := B4 (Cn hb) H
   rw [hb] at F
   clear hb
   refine vl tk 12 F W fun a w F W => ?_
   refine Ad ?_
   exact ⟨_, H, F.ra Aa, W⟩
  have H := B5 (Cp hb) H
  rw [hb] at F
  clear hb
  refine Fu tk 5 [0] F W (ai fun a w F W => ?_)
  rcases Bool.eq_false_or_eq_true (decide (5 < p1.1)) with hb | hb
  ·
   have H := B4 (Cn hb) H
   rw [hb] at F
   clear hb
   refine vl tk 7 F W fun a w F W => ?_
   refine Ad ?_
   exact ⟨_, H, F.ra Aa, W⟩
  have H := B5 (Cp hb) H
  rw [hb] at F
  clear hb
  refine Fu tk 3 [0] F W (ai fun a w F W => ?_)
  refine F2 (Ae F Aa Aa Aa Aa) ?_
  obtain ⟨x2, h2, H⟩ := Af H
  refine ls F W Aa (AM (v := Value.bool x2) F SD Aa (fun w W => Iz any w (v2) p1.2.1 p2 _ h2 (Dc (An h_v2) W))) fun a w F W => ?_
  refine vl tk 3 F W fun a w F W => ?_
  refine Ad ?_
  exact ⟨_, H, F.ra Aa, W⟩
 rintro a w ⟨x1, hj, F, W⟩
 have hj := Av hj
 subst hj
 have H := K1
 clear G1 K1
 refine BE F Aa H (fun F H => ?_) fun F H => ?_
 ·
  refine vc tk 7 F W fun a w F W => ?_
  refine Al (Aq ?_)
  have H := Av H
  subst H
  refine CI (.inl Aa) F W Aa (Ai F Aa) (Ai F Aa) ?_
  have W := W.note (Sl.hide A4 h1 (W.old s_v1))
  have W := W.sub (M' := []) (Z' := [Bo v1 AK p0]) (List.nil_sublist _) (List.Sublist.refl _)
  exact ⟨(v1), Aa, W⟩
 refine KR tk 10 [0] F W (ai fun a w F W => ?_)
 refine Bi F Aa H (fun F H => ?_) fun F H => ?_
 ·
  refine Fq tk 5 [0] F W (ai fun a w F W => ?_)
  obtain ⟨x3, h3, H⟩ := Af H
  refine AA (Ml := []) (Zl := []) (β := Value) (rv := fun x => .tuple #[x, .int .i64 x3.2]) (MM := fun x => []) (ZZ := fun x => [Bo x AK x3.1]) F W S0 Aa Aa (fun hL => Np _ w (v1) (v2) p0 p1 p3 _ h3 (Sl.hide A4 h1 (W.old s_v1)) (W.old s_v2)) fun x a w F W => ?_
  obtain ⟨v4, rfl⟩ : ∃ y, y = x := ⟨x, rfl⟩
  have W : Stw ⟨Y, [], w0⟩ [(b1, [.int .i64 p1.1, .int .i64 p1.2.1.1, .int .i64 p1.2.1.2.1.1, .int .i64 p1.2.1.2.1.2.1.1, .int .i64 p1.2.1.2.1.2.1.2.1, .int .i64 p1.2.1.2.1.2.1.2.2.1, .int .i64 p1.2.1.2.1.2.1.2.2.2, .int .i64 p1.2.1.2.1.2.2.1, .int .i64 p1.2.1.2.1.2.2.2.1, .int .i64 p1.2.1.2.1.2.2.2.2.1, .int .i64 p1.2.1.2.1.2.2.2.2.2, v2, .bool p1.2.2])] [Bo v4 AK x3.1] w := W
  refine ls F W Aa (AN (v := v4) F Aa Aa).q fun a w F W => ?_
  refine ls F W Aa (AN (v := Value.int .i64 x3.2) F Aa Aa).q fun a w F W => ?_
  refine BJ tk 4 F W fun a w F W => ?_
  refine Al (Aq ?_)
  have H := Av H
  subst H
  refine CI (.inl Aa) F W Aa (Ai F Aa) (Ai F Aa) ?_
  have W := W.sub (M' := []) (Z' := [Bo v4 AK x3.1]) (List.nil_sublist _) (List.Sublist.refl _)
  exact ⟨(v4), Aa, W⟩
 refine D6 tk 2 F W fun a w F W => ?_
 refine Au (fun a w => Fr 63 [] [(0, v1), (5, .pointer (some ⟨b1, 0, none⟩)), (8, .slice none 0 0), (9, .int .i64 0), (10, .bool (decide (p1.1 = 3) || decide (p1.1 = 5)))] a ∧ Stw ⟨Y, [], w0⟩ [(b1, [.int .i64 p1.1, .int .i64 p1.2.1.1, .int .i64 p1.2.1.2.1.1, .int .i64 p1.2.1.2.1.2.1.1, .int .i64 p1.2.1.2.1.2.1.2.1, .int .i64 p1.2.1.2.1.2.1.2.2.1, .int .i64 p1.2.1.2.1.2.1.2.2.2, .int .i64 p1.2.1.2.1.2.2.1, .int .i64 p1.2.1.2.1.2.2.2.1, .int .i64 p1.2.1.2.1.2.2.2.2.1, .int .i64 p1.2.1.2.1.2.2.2.2.2, v2, .bool p1.2.2])] [] w) ?_ ?_
 ·
  refine Fq tk 5 [0] F W (ai fun a w F W => ?_)
  rcases Bool.eq_false_or_eq_true (decide (p1.1 = 3)) with hb0 | hb0
  ·
   rw [hb0] at F
   refine vl tk 6 F W fun a w F W => ?_
   refine Ad ?_
   exact ⟨F.re ⟨rfl, Aa, Aa, Aa, (Ev (by try rw [hb0]; all_goals simp only [Es])), trivial⟩, W⟩
  rw [hb0] at F
  refine Fu tk 6 [0] F W (ai fun a w F W => ?_)
  refine Ad ?_
  exact ⟨F.re ⟨rfl, Aa, Aa, Aa, (Ev (by try rw [hb0]; all_goals simp only [Es])), trivial⟩, W⟩
 rintro a w ⟨F, W⟩
 refine Fq tk 8 [0, 0] F W (ai (ai fun a w F W => ?_))
 obtain ⟨x4, h4, H⟩ := Af H
 refine AA (Ml := []) (Zl := []) (β := Value) (rv := fun x => .tuple #[x, .int .i64 x4.2]) (MM := fun x => []) (ZZ := fun x => [row x 37 AK x4.1]) F W SF Aa Aa (fun hL => Hi _ w (v1) (v2) p0 p1 (decide (p1.1 = 3) || decide (p1.1 = 5)) (decide (4 ≤ p1.1)) _ h4 (Sl.hide A4 h1 (W.old s_v1)) (W.old s_v2)) fun x a w F W => ?_
 obtain ⟨v5, rfl⟩ : ∃ y, y = x := ⟨x, rfl⟩
 have W : Stw ⟨Y, [], w0⟩ [(b1, [.int .i64 p1.1, .int .i64 p1.2.1.1, .int .i64 p1.2.1.2.1.1, .int .i64 p1.2.1.2.1.2.1.1, .int .i64 p1.2.1.2.1.2.1.2.1, .int .i64 p1.2.1.2.1.2.1.2.2.1, .int .i64 p1.2.1.2.1.2.1.2.2.2, .int .i64 p1.2.1.2.1.2.2.1, .int .i64 p1.2.1.2.1.2.2.2.1, .int .i64 p1.2.1.2.1.2.2.2.2.1, .int .i64 p1.2.1.2.1.2.2.2.2.2, v2, .bool p1.2.2])] [row v5 37 AK x4.1] w := W
 refine ls F W Aa (Am F Aa).q fun a w F W => ?_
 refine ls F W Aa (AN (v := v5) F Aa Aa).q fun a w F W => ?_
 refine ls F W Aa (AN (v := Value.int .i64 x4.2) F Aa Aa).q fun a w F W => ?_
 refine BJ tk 5 F W fun a w F W => ?_
 refine Au (fun a w => Fr 63 [] [(0, v1), (8, .slice none 0 0), (9, .int .i64 0), (11, v5), (60, .bool ((decide (p1.1 = 3) || decide (p1.1 = 5)) && decide (x4.2 = 0)))] a ∧ Stw ⟨Y, [], w0⟩ [(b1, [.int .i64 p1.1, .int .i64 p1.2.1.1, .int .i64 p1.2.1.2.1.1, .int .i64 p1.2.1.2.1.2.1.1, .int .i64 p1.2.1.2.1.2.1.2.1, .int .i64 p1.2.1.2.1.2.1.2.2.1, .int .i64 p1.2.1.2.1.2.1.2.2.2, .int .i64 p1.2.1.2.1.2.2.1, .int .i64 p1.2.1.2.1.2.2.2.1, .int .i64 p1.2.1.2.1.2.2.2.2.1, .int .i64 p1.2.1.2.1.2.2.2.2.2, v2, .bool p1.2.2])] [row v5 37 AK x4.1] w) ?_ ?_
 ·
  refine vc tk 3 F W fun a w F W => ?_
  rcases Bool.eq_false_or_eq_true (decide (p1.1 = 3) || decide (p1.1 = 5)) with hb0 | hb0
  ·
   rw [hb0] at F
   refine vl tk 4 F W fun a w F W => ?_
   refine Ad ?_
   exact ⟨F.re ⟨rfl, Aa, Aa, Aa, (Ev (by try rw [hb0]; all_goals simp only [Es])), trivial⟩, W⟩
  rw [hb0] at F
  refine vl tk 4 F W fun a w F W => ?_
  refine Ad ?_
  exact ⟨F.re ⟨rfl, Aa, Aa, Aa, (Ev (by try rw [hb0]; all_goals simp only [Es])), trivial⟩, W⟩
 rintro a w ⟨F, W⟩
 refine BE F Aa H (fun F H => ?_) fun F H => ?_
 ·
  refine vc tk 7 F W fun a w F W => ?_
  refine Al (Aq ?_)
  have H := Av H
  subst H
  refine CI (.inl Aa) F W Aa (Ai F Aa) (Ai F Aa) ?_
  have W := W.note (Sl.hide A4 h1 (W.old s_v1))
  have W := W.sub (M' := []) (Z' := [Bo v1 AK p0]) (List.nil_sublist _) (List.Sublist.cons_cons _ (List.nil_sublist _))
  exact ⟨(v1), Aa, W⟩
 refine D6 tk 9 F W fun a w F W => ?_
 refine Al ?_
 have H := Av H
 subst H
 refine CI (.inl Aa) F W Aa (Ai F Aa) (Ai F Aa) ?_
 have W := W.freeze
 have W := W.sub (M' := []) (Z' := [Bo v5 AK x4.1]) (List.nil_sublist _) (List.Sublist.refl _)
 exact ⟨(v5), Aa, W⟩
theorem Tz : Has Try.prog 44 := BV Try.func44
noncomputable def Fb (p0 : List (Int × (Int × (Int × Int × Int × Int) × (Int × Int × Int × Int)) × (List (Int × Int × Int)))) (p1 : List (Int × (Int × (Int × (Int × Int × Int × Int) × (Int × Int × Int × Int)) × (List (Int × Int × Int))) × Bool)) (p2 : Int) (p3 : Int) : ((List (Int × (Int × (Int × Int × Int × Int) × (Int × Int × Int × Int)) × (List (Int × Int × Int)))) × Int) → Option (((List (Int × (Int × (Int × Int × Int × Int) × (Int × Int × Int × Int)) × (List (Int × Int × Int)))) × Int) ⊕ ((List (Int × (Int × (Int × Int × Int × Int) × (Int × Int × Int × Int)) × (List (Int × Int × Int)))) ⊕ ((List (Int × (Int × (Int × Int × Int × Int) × (Int × Int × Int × Int)) × (List (Int × Int × Int)))) × Int × Int)))
  | (x2, x3) => (if x3 < (p1.length : Int) then (ix p1 x3).bind fun x4 => (Gh x2 x4 p2 p3).bind fun x5 => (if x5.2 ≠ 0 then some (.inr (.inr (p0, x3, x5.2))) else some (.inl (x5.1, Cc (x3 + 1)))) else some (.inr (.inl x2)))
noncomputable def E3 (p0 : List (Int × (Int × (Int × Int × Int × Int) × (Int × Int × Int × Int)) × (List (Int × Int × Int)))) (p1 : List (Int × (Int × (Int × (Int × Int × Int × Int) × (Int × Int × Int × Int)) × (List (Int × Int × Int))) × Bool)) (p2 : Int) (p3 : Int) : Option ((List (Int × (Int × (Int × Int × Int × Int) × (Int × Int × Int × Int)) × (List (Int × Int × Int)))) × Int × Int) := FR (AX (Fb p0 p1 p2 p3) (p0, 0)) fun x1 => some (x1, (-1), 0)
theorem Js (Y : Nat → Prop) (w0 : World) (v1 : Value) (v2 : Value) (p0 : List (Int × (Int × (Int × Int × Int × Int) × (Int × Int × Int × Int)) × (List (Int × Int × Int)))) (p1 : List (Int × (Int × (Int × (Int × Int × Int × Int) × (Int × Int × Int × Int)) × (List (Int × Int × Int))) × Bool)) (p2 : Int) (p3 : Int) (r : (List (Int × (Int × (Int × Int × Int × Int) × (Int × Int × Int × Int)) × (List (Int × Int × Int)))) × Int × Int) (H : E3 p0 p1 p2 p3 = some r) (s_v1 : Sl w0 Y AK v1 p0) (s_v2 : Sl w0 Y EQ v2 p1) :
    Calls Try.prog 34 #[v1, v2, .int .i64 p2, .int .i64 p3] w0 fun e w' => ∃ x : Value, e = .returned (.tuple #[x, .int .i64 r.2.1, .int .i64 r.2.2]) ∧ Stw ⟨Y, [], w0⟩ [] [Bo (x) AK r.1] w' := by
 refine enter Try.func34 Aa Try.ntmps34 Aa fun a F => ?_
 have W := Stw.start Y w0
 obtain ⟨v3, h1, s_v1⟩ := s_v1.ex A4
 obtain ⟨v4, h2, s_v2⟩ := s_v2.ex Ib
 have h_v1 := W.nx s_v1
 have h_v2 := W.nx s_v2
 unfold E3 at H
 refine vc tk 13 F W fun a w F W => ?_
 obtain ⟨o1, G1, K1, L1⟩ := H1 H
 refine Au (fun a w => ∃ x1 : List (Int × (Int × (Int × Int × Int × Int) × (Int × Int × Int × Int)) × (List (Int × Int × Int))), ∃ v5 : Value, some (Sum.inl x1) = some o1 ∧ Fr 40 [] [(8, .slice none 0 0), (9, .int .i64 0), (10, .int .i64 0), (11, v5)] a ∧ Stw ⟨Y, [], w0⟩ [] [Bo v5 AK x1] w) ?_ ?_
 ·
  have H := G1
  clear G1 K1
  refine vc tk 6 F W fun a w F W => ?_
  have W := W.note (Sl.hide A4 h1 (W.old s_v1))
  refine BA H (fun s a w => ∃ v6 : Value, Fr 40 [] [(0, v1), (1, v2), (2, .int .i64 p2), (3, .int .i64 p3), (8, .slice none 0 0), (9, .int .i64 0), (10, .int .i64 0), (11, v6), (12, .int .i64 s.2)] a ∧ Stw ⟨Y, [], w0⟩ [] [Bo v6 AK s.1] w) ⟨(v1), F.ra Aa, W⟩ fun s o a w H L2 hR => ?_
  obtain ⟨x2, x3⟩ := s
  obtain ⟨v6, F, W⟩ := hR
  have F : Fr 40 [] [(0, v1), (1, v2), (2, .int .i64 p2), (3, .int .i64 p3), (8, .slice none 0 0), (9, .int .i64 0), (10, .int .i64 0), (11, v6), (12, .int .i64 x3)] a := F
  have W : Stw ⟨Y, [], w0⟩ [] [Bo v6 AK x2] w := W
  rw [Fb] at H
  refine vc tk 5 F W fun a w F W => ?_
  refine ls F W Aa (B7 (r := EQ) (l := p1) LI Aa F Aa (Bq Ib h2 (An h_v2))).q fun a w F W => ?_
  refine BJ tk 3 F W fun a w F W => ?_
  refine Bi F Aa H (fun F H => ?_) fun F H => ?_
  ·
   refine D6 tk 5 F W fun a w F W => ?_
   obtain ⟨v7, h3, W⟩ := W.exF A4
   refine vc tk 4 F W fun a w F W => ?_
   obtain ⟨x4, h4, H⟩ := Af H
   obtain ⟨v8, h5, h6⟩ := BX h2 h4
   have h7 : Ia v8 = [.int .i64 x4.1, .int .i64 x4.2.1.1, .int .i64 x4.2.1.2.1.1, .int .i64 x4.2.1.2.1.2.1.1, .int .i64 x4.2.1.2.1.2.1.2.1, .int .i64 x4.2.1.2.1.2.1.2.2.1, .int .i64 x4.2.1.2.1.2.1.2.2.2, .int .i64 x4.2.1.2.1.2.2.1, .int .i64 x4.2.1.2.1.2.2.2.1, .int .i64 x4.2.1.2.1.2.2.2.2.1, .int .i64 x4.2.1.2.1.2.2.2.2.2, (v8.2.1.2.2.1), .bool x4.2.2] := congrArg (fun q : Int × (Int × (Int × (Int × Int × Int × Int) × (Int × Int × Int × Int)) × (List (Int × Int × Int))) × Bool => ([.int .i64 q.1, .int .i64 q.2.1.1, .int .i64 q.2.1.2.1.1, .int .i64 q.2.1.2.1.2.1.1, .int .i64 q.2.1.2.1.2.1.2.1, .int .i64 q.2.1.2.1.2.1.2.2.1, .int .i64 q.2.1.2.1.2.1.2.2.2, .int .i64 q.2.1.2.1.2.2.1, .int .i64 q.2.1.2.1.2.2.2.1, .int .i64 q.2.1.2.1.2.2.2.2.1, .int .i64 q.2.1.2.1.2.2.2.2.2, (v8.2.1.2.2.1), .bool q.2.2] : List Value)) h6
   refine ls F W Aa (AR (r := Ic) O3 F Aa Aa (An h_v2) h5).q fun a w F W => ?_
   refine ls F W Aa (AD (y := Value.agg #[.int .i64 x4.1, .int .i64 x4.2.1.1, .int .i64 x4.2.1.2.1.1, .int .i64 x4.2.1.2.1.2.1.1, .int .i64 x4.2.1.2.1.2.1.2.1, .int .i64 x4.2.1.2.1.2.1.2.2.1, .int .i64 x4.2.1.2.1.2.1.2.2.2, .int .i64 x4.2.1.2.1.2.2.1, .int .i64 x4.2.1.2.1.2.2.2.1, .int .i64 x4.2.1.2.1.2.2.2.2.1, .int .i64 x4.2.1.2.1.2.2.2.2.2, (v8.2.1.2.2.1), .bool x4.2.2]) (j := 0) (i := x3) (enc := Ia) F Aa Aa (An h_v2) h5 NE Hd (by rw [h7]; rfl)).q fun a w F W => ?_
   refine vl tk 2 F W fun a w F W => ?_
   obtain ⟨x5, h8, H⟩ := Af H
   refine AA (Ml := []) (Zl := []) (β := Value) (rv := fun x => .tuple #[x, .int .i64 x5.2]) (MM := fun x => []) (ZZ := fun x => [Bo x AK x5.1]) F W Tz Aa Aa (fun hL => Lo _ w (v6) ((v8.2.1.2.2.1)) x2 x4 p2 p3 _ h8 (Sl.hide A4 h3 (W.item (i := 0) Aa)) (Sl.at_ (W.old s_v2) h5 (Ay.snd (Ay.fst (Ay.snd (Ay.snd Ay.here)))) (congrArg (fun q : Int × (Int × (Int × (Int × Int × Int × Int) × (Int × Int × Int × Int)) × (List (Int × Int × Int))) × Bool => q.2.1.2.2) h6))) fun x a w F W => ?_
   obtain ⟨v9, rfl⟩ : ∃ y, y = x := ⟨x, rfl⟩
   have W : Stw ⟨Y, [], w0⟩ [] [Bo v9 AK x5.1, Bo v6 C4 v7] w := W
   refine ls F W Aa (Am F Aa).q fun a w F W => ?_
   refine ls F W Aa (AN (v := v9) F Aa Aa).q fun a w F W => ?_
   refine ls F W Aa (AN (v := Value.int .i64 x5.2) F Aa Aa).q fun a w F W => ?_
   refine BJ tk 11 F W fun a w F W => ?_
   refine Bi F Aa H (fun F H => ?_) fun F H => ?_
   ·
    refine vc tk 10 F W fun a w F W => ?_
    refine Al (Aq (Az ?_))
    iterate 2 refine Aq ?_
    refine Az (Aq ?_)
    have H := L2 _ H
    have H := L1 _ H
    have H := Av H
    subst H
    refine MS (.inl Aa) F W Aa (Ai F Aa) (Ai F Aa) (Ai F Aa) ?_
    have W := W.note (Sl.hide A4 h1 (W.old s_v1))
    have W := W.sub (M' := []) (Z' := [Bo v1 AK p0]) (List.Sublist.refl _) (List.Sublist.cons_cons _ (List.nil_sublist _))
    exact ⟨(v1), Aa, W⟩
   refine D6 tk 6 F W fun a w F W => ?_
   refine AF ?_
   refine vn tk 5 F W fun a w F W => ?_
   refine Ad ?_
   have W := W.sub (M' := []) (Z' := [Bo v9 AK x5.1]) (List.Sublist.refl _) (List.Sublist.cons_cons _ (List.nil_sublist _))
   exact ⟨_, H, (v9), F.ra Aa, W⟩
  refine Bm ?_
  iterate 2 refine BU ?_
  refine Bp (Ad ?_)
  have H := L2 _ H
  exact ⟨_, (v6), H, F.ra Aa, W⟩
 rintro a w ⟨x1, v5, hj, F, W⟩
 have H := K1 _ hj
 clear hj G1 K1 L1
 refine vc tk 8 F W fun a w F W => ?_
 refine Al ?_
 have H := Av H
 subst H
 refine MS (.inl Aa) F W Aa (Ai F Aa) (Ai F Aa) (Ai F Aa) ?_
 exact ⟨(v5), Aa, W⟩
theorem SA : Has Try.prog 34 := BV Try.func34
noncomputable def CC (p0 : Int × Int × (List (Int × (Int × (Int × (Int × (Int × Int × Int × Int) × (Int × Int × Int × Int)) × (List (Int × Int × Int))) × Bool)))) (p1 : List (Int × (Int × (Int × Int × Int × Int) × (Int × Int × Int × Int)) × (List (Int × Int × Int)))) (p2 : Int) (p3 : Int) : Option Int := (if p0.1 ≠ 1 then some 16 else (Bz p0).bind fun x1 => (E3 p1 x1 p2 p3).bind fun x2 => some x2.2.2)
theorem FH (Y : Nat → Prop) (X : List Nat) (w0 : World) (q_p0 : Nat) (v1 : Value) (v2 : Value) (p0 : Int × Int × (List (Int × (Int × (Int × (Int × (Int × Int × Int × Int) × (Int × Int × Int × Int)) × (List (Int × Int × Int))) × Bool)))) (p1 : List (Int × (Int × (Int × Int × Int × Int) × (Int × Int × Int × Int)) × (List (Int × Int × Int)))) (p2 : Int) (p3 : Int) (r : Int) (H : CC p0 p1 p2 p3 = some r) (s_v2 : Sl w0 Y AK v2 p1) (hL : Stw ⟨Y, X, w0⟩ [(q_p0, [.int .i64 p0.1, .int .i64 p0.2.1, v1])] [row v1 76 CQ p0.2.2] w0) :
    Calls Try.prog 13 #[.pointer (some ⟨q_p0, 0, none⟩), v2, .int .i64 p2, .int .i64 p3] w0 fun e w' => ∃ x : Unit, e = .returned (.int .i64 r) ∧ Stw ⟨Y, X, w0⟩ [(q_p0, [.int .i64 p0.1, .int .i64 p0.2.1, v1])] [row v1 76 CQ p0.2.2] w' := by
 refine enter Try.func13 Aa Try.ntmps13 Aa fun a F => ?_
 have W := hL
 obtain ⟨v3, h1, s_v2⟩ := s_v2.ex A4
 have h_v2 := W.nx s_v2
 unfold CC at H
 refine vc tk 9 F W fun a w F W => ?_
 refine ls F W Aa (AW F Aa).q fun a w F W => ?_
 refine Eo tk 5 [0] F W (ai fun a w F W => ?_)
 refine Bi F Aa H (fun F H => ?_) fun F H => ?_
 ·
  refine vc tk 5 F W fun a w F W => ?_
  refine Al (Aq ?_)
  have H := Av H
  subst H
  refine Aw (.inl Aa) F W Aa (Ai F Aa) ?_
  exact ⟨(), Aa, W⟩
 refine D6 tk 6 F W fun a w F W => ?_
 obtain ⟨x1, h2, H⟩ := Af H
 refine AA (Ml := [(q_p0, (Ce p0 v1))]) (Zl := [row v1 76 CQ p0.2.2]) (β := Value) (rv := fun x => x) (MM := fun x => [(q_p0, (Ce p0 v1))]) (ZZ := fun x => [row v1 76 CQ p0.2.2, row x 39 EQ x1]) F W Sn Aa Aa (fun hL => Ep _ _ w q_p0 (v1) p0 _ h2 hL) fun x a w F W => ?_
 obtain ⟨v4, rfl⟩ : ∃ y, y = x := ⟨x, rfl⟩
 have W : Stw ⟨Y, X, w0⟩ [(q_p0, (Ce p0 v1))] [row v1 76 CQ p0.2.2, row v4 39 EQ x1] w := W
 refine vl tk 2 F W fun a w F W => ?_
 obtain ⟨x2, h3, H⟩ := Af H
 have W := W.frontZ (i := 1) Aa Aa
 have W := W.freeze
 refine AA (Ml := []) (Zl := []) (β := Value) (rv := fun x => .tuple #[x, .int .i64 x2.2.1, .int .i64 x2.2.2]) (MM := fun x => []) (ZZ := fun x => [Bo x AK x2.1]) F W SA Aa Aa (fun hL => Js _ w (v2) (v4) p1 x1 p2 p3 _ h3 (Sl.hide A4 h1 (W.old s_v2)) (W.item (i := 0) Aa)) fun x a w F W => ?_
 obtain ⟨v5, rfl⟩ : ∃ y, y = x := ⟨x, rfl⟩
 have W : Stw ⟨Y, X, w0⟩ [(q_p0, (Ce p0 v1))] [Bo v5 AK x2.1, Bo v4 EQ x1, row v1 76 CQ p0.2.2] w := W
 refine ls F W Aa (Am F Aa).q fun a w F W => ?_
 refine ls F W Aa (AN (v := v5) F Aa Aa).q fun a w F W => ?_
 refine ls F W Aa (AN (v := Value.int .i64 x2.2.1) F Aa Aa).q fun a w F W => ?_
 refine ls F W Aa (AN (v := Value.int .i64 x2.2.2) F Aa Aa).q fun a w F W => ?_
 refine BJ tk 11 F W fun a w F W => ?_
 refine Al ?_
 have H := Av H
 subst H
 refine Aw (.inl Aa) F W Aa (Ai F Aa) ?_
 have W := W.frontZ (i := 2) Aa Aa
 have W := W.sub (M' := [(q_p0, (Ce p0 v1))]) (Z' := [row v1 76 CQ p0.2.2]) (List.Sublist.refl _) (List.Sublist.cons_cons _ (List.nil_sublist _))
 exact ⟨(), Aa, W⟩
theorem Su : Has Try.prog 13 := BV Try.func13
theorem TJ : Ty Try.prog 71 true 225 := ⟨by kernel_rfl, by kernel_rfl⟩
def Bb (p0 : Int × List (Bool × (Int × (Int × (Int × (Int × Int × Int × Int) × (Int × Int × Int × Int)) × (List (Int × Int × Int))) × Bool))) : (Int × List (Bool × (Int × (Int × (Int × (Int × Int × Int × Int) × (Int × Int × Int × Int)) × (List (Int × Int × Int))) × Bool))) := (2, (List.replicate 16 ((false, (0, (0, (0, (0, 0, 0, 0), (0, 0, 0, 0)), []), false)) : Bool × (Int × (Int × (Int × (Int × Int × Int × Int) × (Int × Int × Int × Int)) × (List (Int × Int × Int))) × Bool))))
theorem Ed (Y : Nat → Prop) (X : List Nat) (w0 : World) (q_p0 : Nat) (p0 : Int × List (Bool × (Int × (Int × (Int × (Int × Int × Int × Int) × (Int × Int × Int × Int)) × (List (Int × Int × Int))) × Bool))) (r : (Int × List (Bool × (Int × (Int × (Int × (Int × Int × Int × Int) × (Int × Int × Int × Int)) × (List (Int × Int × Int))) × Bool)))) (H : Bb p0 = r) (hL : Stw ⟨Y, X, w0⟩ [] [Bw q_p0 BO 16 p0] w0) :
    Calls Try.prog 17 #[.pointer (some ⟨q_p0, 0, none⟩)] w0 fun e w' => ∃ x : Unit, e = .returned (.tuple #[]) ∧ Stw ⟨Y, X, w0⟩ [] [Bw q_p0 BO 16 r] w' := by
 refine enter Try.func17 Aa Try.ntmps17 Aa fun a F => ?_
 have W := hL
 unfold Bb at H
 refine vc tk 3 F W fun a w F W => ?_
 refine ls F W Aa (IW Ru F Aa Aa).q fun a w F W => ?_
 refine BJ tk 5 F W fun a w F W => ?_
 refine ls F W Aa (Dr (v := Value.agg #[.int .i64 2, .bool false, .int .i64 0, .int .i64 0, .int .i64 0, .int .i64 0, .int .i64 0, .int .i64 0, .int .i64 0, .int .i64 0, .int .i64 0, .int .i64 0, .int .i64 0, .slice none 0 0, .bool false, .bool false, .int .i64 0, .int .i64 0, .int .i64 0, .int .i64 0, .int .i64 0, .int .i64 0, .int .i64 0, .int .i64 0, .int .i64 0, .int .i64 0, .int .i64 0, .slice none 0 0, .bool false, .bool false, .int .i64 0, .int .i64 0, .int .i64 0, .int .i64 0, .int .i64 0, .int .i64 0, .int .i64 0, .int .i64 0, .int .i64 0, .int .i64 0, .int .i64 0, .slice none 0 0, .bool false, .bool false, .int .i64 0, .int .i64 0, .int .i64 0, .int .i64 0, .int .i64 0, .int .i64 0, .int .i64 0, .int .i64 0, .int .i64 0, .int .i64 0, .int .i64 0, .slice none 0 0, .bool false, .bool false, .int .i64 0, .int .i64 0, .int .i64 0, .int .i64 0, .int .i64 0, .int .i64 0, .int .i64 0, .int .i64 0, .int .i64 0, .int .i64 0, .int .i64 0, .slice none 0 0, .bool false, .bool false, .int .i64 0, .int .i64 0, .int .i64 0, .int .i64 0, .int .i64 0, .int .i64 0, .int .i64 0, .int .i64 0, .int .i64 0, .int .i64 0, .int .i64 0, .slice none 0 0, .bool false, .bool false, .int .i64 0, .int .i64 0, .int .i64 0, .int .i64 0, .int .i64 0, .int .i64 0, .int .i64 0, .int .i64 0, .int .i64 0, .int .i64 0, .int .i64 0, .slice none 0 0, .bool false, .bool false, .int .i64 0, .int .i64 0, .int .i64 0, .int .i64 0, .int .i64 0, .int .i64 0, .int .i64 0, .int .i64 0, .int .i64 0, .int .i64 0, .int .i64 0, .slice none 0 0, .bool false, .bool false, .int .i64 0, .int .i64 0, .int .i64 0, .int .i64 0, .int .i64 0, .int .i64 0, .int .i64 0, .int .i64 0, .int .i64 0, .int .i64 0, .int .i64 0, .slice none 0 0, .bool false, .bool false, .int .i64 0, .int .i64 0, .int .i64 0, .int .i64 0, .int .i64 0, .int .i64 0, .int .i64 0, .int .i64 0, .int .i64 0, .int .i64 0, .int .i64 0, .slice none 0 0, .bool false, .bool false, .int .i64 0, .int .i64 0, .int .i64 0, .int .i64 0, .int .i64 0, .int .i64 0, .int .i64 0, .int .i64 0, .int .i64 0, .int .i64 0, .int .i64 0, .slice none 0 0, .bool false, .bool false, .int .i64 0, .int .i64 0, .int .i64 0, .int .i64 0, .int .i64 0, .int .i64 0, .int .i64 0, .int .i64 0, .int .i64 0, .int .i64 0, .int .i64 0, .slice none 0 0, .bool false, .bool false, .int .i64 0, .int .i64 0, .int .i64 0, .int .i64 0, .int .i64 0, .int .i64 0, .int .i64 0, .int .i64 0, .int .i64 0, .int .i64 0, .int .i64 0, .slice none 0 0, .bool false, .bool false, .int .i64 0, .int .i64 0, .int .i64 0, .int .i64 0, .int .i64 0, .int .i64 0, .int .i64 0, .int .i64 0, .int .i64 0, .int .i64 0, .int .i64 0, .slice none 0 0, .bool false, .bool false, .int .i64 0, .int .i64 0, .int .i64 0, .int .i64 0, .int .i64 0, .int .i64 0, .int .i64 0, .int .i64 0, .int .i64 0, .int .i64 0, .int .i64 0, .slice none 0 0, .bool false, .bool false, .int .i64 0, .int .i64 0, .int .i64 0, .int .i64 0, .int .i64 0, .int .i64 0, .int .i64 0, .int .i64 0, .int .i64 0, .int .i64 0, .int .i64 0, .slice none 0 0, .bool false]) Sx F Aa Aa Aa).q fun a w F W => ?_
 refine ls F W Aa (AW F Aa).q fun a w F W => ?_
 refine LY (k := 0) (x := 2) F W Aa Aa Aa Aa TJ Aa Aa Aa Aa Rs fun w W => ?_
 have W : Stw ⟨Y, X, w0⟩ [] [Bw q_p0 BO 16 (2, (List.replicate 16 ((false, (0, (0, (0, (0, 0, 0, 0), (0, 0, 0, 0)), []), false)) : Bool × (Int × (Int × (Int × (Int × Int × Int × Int) × (Int × Int × Int × Int)) × (List (Int × Int × Int))) × Bool))))] w := W
 refine Er ?_
 subst H
 refine Ro (.inr Aa) F Aa ?_
 exact ⟨(), Aa, W⟩
theorem SE : Has Try.prog 17 := BV Try.func17
noncomputable def B6 (p0 : Int × List (Bool × (Int × (Int × (Int × (Int × Int × Int × Int) × (Int × Int × Int × Int)) × (List (Int × Int × Int))) × Bool))) (p1 : List (Int × (Int × (Int × Int × Int × Int) × (Int × Int × Int × Int)) × (List (Int × Int × Int)))) (p2 : Int) (p3 : Int) : Option ((List (Int × (Int × (Int × Int × Int × Int) × (Int × Int × Int × Int)) × (List (Int × Int × Int)))) × Int × (Int × List (Bool × (Int × (Int × (Int × (Int × Int × Int × Int) × (Int × Int × Int × Int)) × (List (Int × Int × Int))) × Bool)))) := (Cm p0 p1 p2 p3).bind fun x1 => (if x1.2 = 0 then some (Bb p0) else some p0).bind fun x2 => some (x1.1, x1.2, x2)
theorem Gn (Y : Nat → Prop) (X : List Nat) (w0 : World) (q_p0 : Nat) (v1 : Value) (p0 : Int × List (Bool × (Int × (Int × (Int × (Int × Int × Int × Int) × (Int × Int × Int × Int)) × (List (Int × Int × Int))) × Bool))) (p1 : List (Int × (Int × (Int × Int × Int × Int) × (Int × Int × Int × Int)) × (List (Int × Int × Int)))) (p2 : Int) (p3 : Int) (r : (List (Int × (Int × (Int × Int × Int × Int) × (Int × Int × Int × Int)) × (List (Int × Int × Int)))) × Int × (Int × List (Bool × (Int × (Int × (Int × (Int × Int × Int × Int) × (Int × Int × Int × Int)) × (List (Int × Int × Int))) × Bool)))) (H : B6 p0 p1 p2 p3 = some r) (s_v1 : Sl w0 Y AK v1 p1) (hL : Stw ⟨Y, X, w0⟩ [] [Bw q_p0 BO 16 p0] w0) :
    Calls Try.prog 14 #[.pointer (some ⟨q_p0, 0, none⟩), v1, .int .i64 p2, .int .i64 p3] w0 fun e w' => ∃ x : Value, e = .returned (.tuple #[x, .int .i64 r.2.1]) ∧ Stw ⟨Y, X, w0⟩ [] [Bw q_p0 BO 16 r.2.2, Bo (x) AK r.1] w' := by
 refine enter Try.func14 Aa Try.ntmps14 Aa fun a F => ?_
 have W := hL
 obtain ⟨v2, h1, s_v1⟩ := s_v1.ex A4
 have h_v1 := W.nx s_v1
 unfold B6 at H
 refine vc tk 12 F W fun a w F W => ?_
 obtain ⟨x1, h2, H⟩ := Af H
 refine AA (Ml := []) (Zl := [Bw q_p0 BO 16 p0]) (β := Value) (rv := fun x => .tuple #[x, .int .i64 x1.2]) (MM := fun x => []) (ZZ := fun x => [Bw q_p0 BO 16 p0, Bo x AK x1.1]) F W SO Aa Aa (fun hL => EB _ _ w q_p0 (v1) p0 p1 p2 p3 _ h2 (Sl.hide A4 h1 (W.old s_v1)) hL) fun x a w F W => ?_
 obtain ⟨v3, rfl⟩ : ∃ y, y = x := ⟨x, rfl⟩
 have W : Stw ⟨Y, X, w0⟩ [] [Bw q_p0 BO 16 p0, Bo v3 AK x1.1] w := W
 refine ls F W Aa (Am F Aa).q fun a w F W => ?_
 refine ls F W Aa (AN (v := v3) F Aa Aa).q fun a w F W => ?_
 refine ls F W Aa (AN (v := Value.int .i64 x1.2) F Aa Aa).q fun a w F W => ?_
 refine vl tk 3 F W fun a w F W => ?_
 refine Ad ?_
 obtain ⟨o1, G1, K1⟩ := Af H
 refine Au (fun a w => ∃ x2 : Int × List (Bool × (Int × (Int × (Int × (Int × Int × Int × Int) × (Int × Int × Int × Int)) × (List (Int × Int × Int))) × Bool)), some (x2) = some o1 ∧ Fr 26 [] [(8, .slice none 0 0), (9, .int .i64 0), (10, v3), (11, .int .i64 x1.2)] a ∧ Stw ⟨Y, X, w0⟩ [] [Bo v3 AK x1.1, Bw q_p0 BO 16 x2] w) ?_ ?_
 ·
  have H := G1
  clear G1 K1
  refine vc tk 6 F W fun a w F W => ?_
  refine Bi F Aa H (fun F H => ?_) fun F H => ?_
  ·
   refine vc tk 2 F W fun a w F W => ?_
   refine AA (Ml := []) (Zl := [Bw q_p0 BO 16 p0]) (β := Unit) (rv := fun x => .tuple #[]) (MM := fun x => []) (ZZ := fun x => [Bw q_p0 BO 16 (Bb p0)]) F W SE Aa Aa (fun hL => Ed _ _ w q_p0 p0 _ Aa hL) fun x a w F W => ?_
   have W : Stw ⟨Y, X, w0⟩ [] [Bw q_p0 BO 16 (Bb p0), Bo v3 AK x1.1] w := W
   refine Er (Ad ?_)
   have W := W.frontZ (i := 1) Aa Aa
   exact ⟨_, H, F.ra Aa, W⟩
  refine AC (Ad ?_)
  have W := W.frontZ (i := 1) Aa Aa
  exact ⟨_, H, F.ra Aa, W⟩
 rintro a w ⟨x2, hj, F, W⟩
 have hj := Av hj
 subst hj
 have H := K1
 clear G1 K1
 refine vc tk 8 F W fun a w F W => ?_
 refine Al ?_
 have H := Av H
 subst H
 refine CI (.inl Aa) F W Aa (Ai F Aa) (Ai F Aa) ?_
 have W := W.frontZ (i := 1) Aa Aa
 exact ⟨(v3), Aa, W⟩
end Go.Proofs.Ytfnmlmglmegamaa
