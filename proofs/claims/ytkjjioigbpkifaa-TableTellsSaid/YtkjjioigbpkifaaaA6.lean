/- The functions of layer 11, Eh. Conditions: none. -/
import Derived.Test.YtkjjioigbpkifaaaA5
namespace Go.Proofs.Ytkjjioigbpkifaa
open Go Go.RowKit
set_option linter.unusedVariables false
set_option linter.unusedSimpArgs false
set_option maxRecDepth 20000
theorem Oz : Has Try.prog 13 := ⟨fun args w => An Try.func13 rfl (by decide) args w⟩
noncomputable def Fi (p0 : Int × (Int × Int × Int × Int) × (Int × Int × Int × Int)) (p2 : Int × Int × Int × Int) (x1 : Int) : Int → Option (Int ⊕ (Unit ⊕ (Int ⊕ (Unit ⊕ Bool))))
  | x2 => (if x2 < 8 then ((ix ([p0.2.2.1, p0.2.2.2.1, p0.2.2.2.2.1, p0.2.2.2.2.2] : List Int) x1).bind fun x4 => (ES x4 x2).bind fun x5 => (if x5 = 1 then (ix ([p0.2.1.1, p0.2.1.2.1, p0.2.1.2.2.1, p0.2.1.2.2.2] : List Int) x1).bind fun x6 => (ES x6 x2).bind fun x7 => (ix ([p2.1, p2.2.1, p2.2.2.1, p2.2.2.2] : List Int) x1).bind fun x8 => (ES x8 x2).bind fun x9 => some (decide (x7 ≠ x9)) else some false)).bind fun x3 => (if x3 = true then some (.inr (.inr (.inr (.inr false)))) else some (.inl (CL (x2 + 1)))) else some (.inr (.inl ())))
noncomputable def Fj (p0 : Int × (Int × Int × Int × Int) × (Int × Int × Int × Int)) (p2 : Int × Int × Int × Int) : Int → Option (Int ⊕ (Unit ⊕ Bool))
  | x1 => (if x1 < 4 then Fw (Bi (Fi p0 p2 x1) 0) fun _ => some (.inl (CL (x1 + 1))) else some (.inr (.inl ())))
noncomputable def Gl (p0 : Int × (Int × Int × Int × Int) × (Int × Int × Int × Int)) (p1 : Int) (p2 : Int × Int × Int × Int) : Option Bool := (if (decide (p0.1 ≠ (-1)) && decide (p0.1 ≠ p1)) = true then some false else Fw (Bi (Fj p0 p2) 0) fun _ => some true)
theorem JS (Y : Nat → Prop) (w0 : World)  (p0 : Int × (Int × Int × Int × Int) × (Int × Int × Int × Int)) (p1 : Int) (p2 : Int × Int × Int × Int) (r : Bool) (H : Gl p0 p1 p2 = some r)  :
    Calls Try.prog 38 #[.agg #[.int .i64 p0.1, .int .i64 p0.2.1.1, .int .i64 p0.2.1.2.1, .int .i64 p0.2.1.2.2.1, .int .i64 p0.2.1.2.2.2, .int .i64 p0.2.2.1, .int .i64 p0.2.2.2.1, .int .i64 p0.2.2.2.2.1, .int .i64 p0.2.2.2.2.2], .int .i64 p1, .agg #[.int .i64 p2.1, .int .i64 p2.2.1, .int .i64 p2.2.2.1, .int .i64 p2.2.2.2]] w0 fun e w' => e = .returned (.bool r) ∧ Below w0.heap.size w0 w' := by
 refine enter Try.func38 Aa Try.ntmps38 Aa fun a F => ?_
 have W := Stw.start Y w0
 unfold Gl at H
 refine Ak (Ae ?_)
 refine BT (cs := [.int .i64 p0.1, .int .i64 p0.2.1.1, .int .i64 p0.2.1.2.1, .int .i64 p0.2.1.2.2.1, .int .i64 p0.2.1.2.2.2, .int .i64 p0.2.2.1, .int .i64 p0.2.2.2.1, .int .i64 p0.2.2.2.2.1, .int .i64 p0.2.2.2.2.2]) F W Aa Aa Aa fun b1 a w F W => ?_
 refine BT (cs := [.int .i64 p2.1, .int .i64 p2.2.1, .int .i64 p2.2.2.1, .int .i64 p2.2.2.2]) F W Aa Aa Aa fun b2 a w F W => ?_
 refine ls F W Aa (Ag F Aa).q fun a w F W => ?_
 refine Af (Ad (Ak ?_))
 refine AF (fun a w => Fr 47 [] [(3, .pointer (some ⟨b1, 0, none⟩)), (5, .pointer (some ⟨b2, 0, none⟩)), (6, .bool false), (17, .bool (decide (p0.1 ≠ (-1)) && decide (p0.1 ≠ p1)))] a ∧ Stw ⟨Y, [], w0⟩ [(b2, [.int .i64 p2.1, .int .i64 p2.2.1, .int .i64 p2.2.2.1, .int .i64 p2.2.2.2]), (b1, [.int .i64 p0.1, .int .i64 p0.2.1.1, .int .i64 p0.2.1.2.1, .int .i64 p0.2.1.2.2.1, .int .i64 p0.2.1.2.2.2, .int .i64 p0.2.2.1, .int .i64 p0.2.2.2.1, .int .i64 p0.2.2.2.2.1, .int .i64 p0.2.2.2.2.2])] [] w) ?_ ?_
 ·
  refine Ae ?_
  refine ls F W Aa (Al CD Aa Aa Aa T3 F Aa 0 Aa).q fun a w F W => ?_
  refine ls F W Aa (As (v := Value.int .i64 p0.1) 1 F Aa Aa T3 Aa).q fun a w F W => ?_
  refine ls F W Aa (E6 F Aa Aa).q fun a w F W => ?_
  refine ls F W Aa (Ah F Aa).q fun a w F W => ?_
  rcases Bool.eq_false_or_eq_true (decide (p0.1 ≠ (-1))) with hb0 | hb0
  ·
   rw [hb0] at F
   refine AK F W (Aj F Aa Aa Aa Aa) Aa (Ap Aa) (Al CD Aa Aa Aa T3 F Aa 0 Aa).q fun a w F W => ?_
   refine AK F W (Aj F Aa Aa Aa Aa) Aa (Ap Aa) (As (v := Value.int .i64 p0.1) 1 F Aa Aa T3 Aa).q fun a w F W => ?_
   refine AK F W (Aj F Aa Aa Aa Aa) Aa (Ap Aa) (Ah F Aa).q fun a w F W => ?_
   refine AK F W (Aj F Aa Aa Aa Aa) Aa (Ap Aa) (E6 F Aa Aa).q fun a w F W => ?_
   refine ls F W Aa (Az F Aa Aa Aa).q fun a w F W => ?_
   refine Af (Ad ?_)
   exact ⟨F.re ⟨rfl, Aa, Aa, (by show some (Value.bool (decide (p0.1 ≠ p1))) = some (Value.bool (decide (p0.1 ≠ (-1)) && decide (p0.1 ≠ p1))); try rw [hb0]; all_goals simp only [Bool.not_true, Bool.not_false, Bool.true_and, Bool.false_and, Bool.true_or, Bool.false_or, Bool.and_true, Bool.or_false, cond_true, cond_false]), trivial⟩, W⟩
  rw [hb0] at F
  iterate 4 refine Cx F Aa Aa Aa Aa Aa Aa Aa fun a F => ?_
  refine ls F W Aa (Au F Aa Aa Aa).q fun a w F W => ?_
  refine Af (Ad ?_)
  exact ⟨F.re ⟨rfl, Aa, Aa, (by show some (Value.bool false) = some (Value.bool (decide (p0.1 ≠ (-1)) && decide (p0.1 ≠ p1))); try rw [hb0]; all_goals simp only [Bool.not_true, Bool.not_false, Bool.true_and, Bool.false_and, Bool.true_or, Bool.false_or, Bool.and_true, Bool.or_false, cond_true, cond_false]), trivial⟩, W⟩
 rintro a w ⟨F, W⟩
 refine AA F Aa (fun hb => ?_) fun hb => ?_
 ·
  have H := AM hb H
  rw [hb] at F
  clear hb
  refine Ak (Ae ?_)
  refine ls F W Aa (Ag F Aa).q fun a w F W => ?_
  refine Af (Ad (Aw (AD ?_)))
  have H := AG H
  subst H
  refine AE (.inl Aa) F W Aa (Av F Aa) ?_
  exact ⟨rfl, W.done⟩
 have H := AL (by rw [hb]; decide) H
 rw [hb] at F
 clear hb
 refine Ax (Ad ?_)
 obtain ⟨o1, G1, K1, L1⟩ := HR H
 refine AF (fun a w => some (Sum.inl ()) = some o1 ∧ Fr 47 [] [(6, .bool false)] a ∧ Stw ⟨Y, [], w0⟩ [(b2, [.int .i64 p2.1, .int .i64 p2.2.1, .int .i64 p2.2.2.1, .int .i64 p2.2.2.2]), (b1, [.int .i64 p0.1, .int .i64 p0.2.1.1, .int .i64 p0.2.1.2.1, .int .i64 p0.2.1.2.2.1, .int .i64 p0.2.1.2.2.2, .int .i64 p0.2.2.1, .int .i64 p0.2.2.2.1, .int .i64 p0.2.2.2.2.1, .int .i64 p0.2.2.2.2.2])] [] w) ?_ ?_
 ·
  have H := G1
  clear G1 K1
  refine Ak (Ae ?_)
  refine ls F W Aa (Ag F Aa).q fun a w F W => ?_
  refine Af (Ad (AC ?_))
  have W := W.frontM (i := 1) Aa Aa
  have W := W.frontM (i := 1) Aa Aa
  refine Bx H (fun s a w => Fr 47 [] [(3, .pointer (some ⟨b1, 0, none⟩)), (5, .pointer (some ⟨b2, 0, none⟩)), (6, .bool false), (7, .int .i64 s)] a ∧ Stw ⟨Y, [], w0⟩ [(b2, [.int .i64 p2.1, .int .i64 p2.2.1, .int .i64 p2.2.2.1, .int .i64 p2.2.2.2]), (b1, [.int .i64 p0.1, .int .i64 p0.2.1.1, .int .i64 p0.2.1.2.1, .int .i64 p0.2.1.2.2.1, .int .i64 p0.2.1.2.2.2, .int .i64 p0.2.2.1, .int .i64 p0.2.2.2.1, .int .i64 p0.2.2.2.2.1, .int .i64 p0.2.2.2.2.2])] [] w) ⟨F.re ⟨rfl, Aa, Aa, Aa, trivial⟩, W⟩ fun s o a w H L2 hR => ?_
  obtain ⟨x1, rfl⟩ : ∃ x, x = s := ⟨s, rfl⟩
  obtain ⟨F, W⟩ := hR
  have F : Fr 47 [] [(3, .pointer (some ⟨b1, 0, none⟩)), (5, .pointer (some ⟨b2, 0, none⟩)), (6, .bool false), (7, .int .i64 x1)] a := F
  have W : Stw ⟨Y, [], w0⟩ [(b2, [.int .i64 p2.1, .int .i64 p2.2.1, .int .i64 p2.2.2.1, .int .i64 p2.2.2.2]), (b1, [.int .i64 p0.1, .int .i64 p0.2.1.1, .int .i64 p0.2.1.2.1, .int .i64 p0.2.1.2.2.1, .int .i64 p0.2.1.2.2.2, .int .i64 p0.2.2.1, .int .i64 p0.2.2.2.1, .int .i64 p0.2.2.2.2.1, .int .i64 p0.2.2.2.2.2])] [] w := W
  rw [Fj] at H
  refine Ak (Ak (Ae ?_))
  refine ls F W Aa (Ah F Aa).q fun a w F W => ?_
  refine ls F W Aa (BM F Aa Aa).q fun a w F W => ?_
  refine Af (Ad ?_)
  refine AA F Aa (fun hb => ?_) fun hb => ?_
  ·
   have H := AM (Ba hb) H
   rw [hb] at F
   clear hb
   refine Ax (Ad ?_)
   obtain ⟨o3, G3, K3, L3⟩ := HR H
   refine AF (fun a w => some (Sum.inl ()) = some o3 ∧ Fr 47 [] [(3, .pointer (some ⟨b1, 0, none⟩)), (5, .pointer (some ⟨b2, 0, none⟩)), (6, .bool false), (7, .int .i64 x1)] a ∧ Stw ⟨Y, [], w0⟩ [(b2, [.int .i64 p2.1, .int .i64 p2.2.1, .int .i64 p2.2.2.1, .int .i64 p2.2.2.2]), (b1, [.int .i64 p0.1, .int .i64 p0.2.1.1, .int .i64 p0.2.1.2.1, .int .i64 p0.2.1.2.2.1, .int .i64 p0.2.1.2.2.2, .int .i64 p0.2.2.1, .int .i64 p0.2.2.2.1, .int .i64 p0.2.2.2.2.1, .int .i64 p0.2.2.2.2.2])] [] w) ?_ ?_
   ·
    have H := G3
    clear G3 K3
    refine AC (Ak (Ae ?_))
    refine ls F W Aa (Ag F Aa).q fun a w F W => ?_
    refine Af (Ad (AC ?_))
    have W := W.frontM (i := 1) Aa Aa
    have W := W.frontM (i := 1) Aa Aa
    refine Bx H (fun s a w => Fr 47 [] [(3, .pointer (some ⟨b1, 0, none⟩)), (5, .pointer (some ⟨b2, 0, none⟩)), (6, .bool false), (7, .int .i64 x1), (8, .int .i64 s)] a ∧ Stw ⟨Y, [], w0⟩ [(b2, [.int .i64 p2.1, .int .i64 p2.2.1, .int .i64 p2.2.2.1, .int .i64 p2.2.2.2]), (b1, [.int .i64 p0.1, .int .i64 p0.2.1.1, .int .i64 p0.2.1.2.1, .int .i64 p0.2.1.2.2.1, .int .i64 p0.2.1.2.2.2, .int .i64 p0.2.2.1, .int .i64 p0.2.2.2.1, .int .i64 p0.2.2.2.2.1, .int .i64 p0.2.2.2.2.2])] [] w) ⟨F.re ⟨rfl, Aa, Aa, Aa, Aa, trivial⟩, W⟩ fun s o a w H L4 hR => ?_
    obtain ⟨x2, rfl⟩ : ∃ x, x = s := ⟨s, rfl⟩
    obtain ⟨F, W⟩ := hR
    have F : Fr 47 [] [(3, .pointer (some ⟨b1, 0, none⟩)), (5, .pointer (some ⟨b2, 0, none⟩)), (6, .bool false), (7, .int .i64 x1), (8, .int .i64 x2)] a := F
    have W : Stw ⟨Y, [], w0⟩ [(b2, [.int .i64 p2.1, .int .i64 p2.2.1, .int .i64 p2.2.2.1, .int .i64 p2.2.2.2]), (b1, [.int .i64 p0.1, .int .i64 p0.2.1.1, .int .i64 p0.2.1.2.1, .int .i64 p0.2.1.2.2.1, .int .i64 p0.2.1.2.2.2, .int .i64 p0.2.2.1, .int .i64 p0.2.2.2.1, .int .i64 p0.2.2.2.2.1, .int .i64 p0.2.2.2.2.2])] [] w := W
    rw [Fi] at H
    refine Ak (Ak (Ae ?_))
    refine ls F W Aa (Ah F Aa).q fun a w F W => ?_
    refine ls F W Aa (BM F Aa Aa).q fun a w F W => ?_
    refine Af (Ad ?_)
    refine AA F Aa (fun hb => ?_) fun hb => ?_
    ·
     have H := AM (Ba hb) H
     rw [hb] at F
     clear hb
     refine Ax (Ad (Ak (AC ?_)))
     obtain ⟨o5, G5, K5⟩ := Ao H
     refine AF (fun a w => ∃ x3 : Bool, some (x3) = some o5 ∧ Fr 47 [] [(3, .pointer (some ⟨b1, 0, none⟩)), (5, .pointer (some ⟨b2, 0, none⟩)), (6, .bool false), (7, .int .i64 x1), (8, .int .i64 x2), (46, .bool x3)] a ∧ Stw ⟨Y, [], w0⟩ [(b2, [.int .i64 p2.1, .int .i64 p2.2.1, .int .i64 p2.2.2.1, .int .i64 p2.2.2.2]), (b1, [.int .i64 p0.1, .int .i64 p0.2.1.1, .int .i64 p0.2.1.2.1, .int .i64 p0.2.1.2.2.1, .int .i64 p0.2.1.2.2.2, .int .i64 p0.2.2.1, .int .i64 p0.2.2.2.1, .int .i64 p0.2.2.2.2.1, .int .i64 p0.2.2.2.2.2])] [] w) ?_ ?_
     ·
      have H := G5
      clear G5 K5
      refine Cq W MO (by kernel_rfl) ?_
      refine qs F Aa (Ah F Aa).q fun a F => ?_
      refine qs F Aa (Al CD Aa Aa Aa Hf F Aa 5 Aa).q fun a F => ?_
      obtain ⟨x4, h1, H⟩ := Ao H
      refine qs F Aa (Bn (5 + (x1).toNat * 1) EF F Aa Aa Aa h1 Aa).q fun a F => ?_
      refine qs F Aa (As (v := Value.int .i64 x4) 1 F Aa Aa T3 (Cd (base := 5) (m := 4) (l := [p0.2.2.1, p0.2.2.2.1, p0.2.2.2.2.1, p0.2.2.2.2.2]) (enc := Value.int .i64) Aa h1)).q fun a F => ?_
      refine qs F Aa (Ah F Aa).q fun a F => ?_
      obtain ⟨x5, h2, H⟩ := Ao H
      refine qs F Aa (AQ (v := Value.int .i64 x5) F Nt Aa (fun w W => FJ any w x4 x2 _ h2)) fun a F => ?_
      refine qs F Aa (BL F Aa Aa).q fun a F => ?_
      refine qs F Aa (Ah F Aa).q fun a F => ?_
      rcases Bool.eq_false_or_eq_true (decide (x5 = 1)) with hb | hb
      ·
       have H := AM (Ba hb) H
       rw [hb] at F
       clear hb
       refine BB F (Aj F Aa Aa Aa Aa) Aa (Ap Aa) (Ah F Aa).q fun a F => ?_
       refine BB F (Aj F Aa Aa Aa Aa) Aa (Ap Aa) (Al CD Aa Aa Aa Hf F Aa 1 Aa).q fun a F => ?_
       obtain ⟨x6, h3, H⟩ := Ao H
       refine BB F (Aj F Aa Aa Aa Aa) Aa (Ap Aa) (Bn (1 + (x1).toNat * 1) EF F Aa Aa Aa h3 Aa).q fun a F => ?_
       refine BB F (Aj F Aa Aa Aa Aa) Aa (Ap Aa) (As (v := Value.int .i64 x6) 1 F Aa Aa T3 (Cd (base := 1) (m := 4) (l := [p0.2.1.1, p0.2.1.2.1, p0.2.1.2.2.1, p0.2.1.2.2.2]) (enc := Value.int .i64) Aa h3)).q fun a F => ?_
       refine BB F (Aj F Aa Aa Aa Aa) Aa (Ap Aa) (Ah F Aa).q fun a F => ?_
       obtain ⟨x7, h4, H⟩ := Ao H
       refine BB F (Aj F Aa Aa Aa Aa) Aa (Ap Aa) (AQ (v := Value.int .i64 x7) F Nt Aa (fun w W => FJ any w x6 x2 _ h4)) fun a F => ?_
       refine BB F (Aj F Aa Aa Aa Aa) Aa (Ap Aa) (Ah F Aa).q fun a F => ?_
       obtain ⟨x8, h5, H⟩ := Ao H
       refine BB F (Aj F Aa Aa Aa Aa) Aa (Ap Aa) (Bn (0 + (x1).toNat * 1) Jj F Aa Aa Aa h5 Aa).q fun a F => ?_
       refine BB F (Aj F Aa Aa Aa Aa) Aa (Ap Aa) (As (v := Value.int .i64 x8) 0 F Aa Aa T3 (Cd (base := 0) (m := 4) (l := [p2.1, p2.2.1, p2.2.2.1, p2.2.2.2]) (enc := Value.int .i64) Aa h5)).q fun a F => ?_
       refine BB F (Aj F Aa Aa Aa Aa) Aa (Ap Aa) (Ah F Aa).q fun a F => ?_
       obtain ⟨x9, h6, H⟩ := Ao H
       refine BB F (Aj F Aa Aa Aa Aa) Aa (Ap Aa) (AQ (v := Value.int .i64 x9) F Nt Aa (fun w W => FJ any w x8 x2 _ h6)) fun a F => ?_
       refine BB F (Aj F Aa Aa Aa Aa) Aa (Ap Aa) (E6 F Aa Aa).q fun a F => ?_
       refine qs F Aa (Az F Aa Aa Aa).q fun a F => ?_
       refine AY fun w W => ?_
       refine Ad ?_
       have W := W.frontM (i := 1) Aa Aa
       have W := W.frontM (i := 1) Aa Aa
       exact ⟨_, H, F.re ⟨rfl, Aa, Aa, Aa, Aa, Aa, trivial⟩, W⟩
      have H := AL (A8 hb) H
      rw [hb] at F
      clear hb
      iterate 12 refine B5 F (BC F Aa Aa Aa Aa Aa) Aa Aa fun a F => ?_
      refine qs F Aa (Au F Aa Aa Aa).q fun a F => ?_
      refine AY fun w W => ?_
      refine Ad ?_
      have W := W.frontM (i := 1) Aa Aa
      have W := W.frontM (i := 1) Aa Aa
      exact ⟨_, H, F.re ⟨rfl, Aa, Aa, Aa, Aa, Aa, trivial⟩, W⟩
     rintro a w ⟨x3, hj, F, W⟩
     have hj := AG hj
     subst hj
     have H := K5
     clear G5 K5
     refine AA F Aa (fun hb => ?_) fun hb => ?_
     ·
      have H := AM hb H
      rw [hb] at F
      clear hb
      refine Ak (Ae ?_)
      refine ls F W Aa (Ag F Aa).q fun a w F W => ?_
      refine Af (Ad (Aw (AJ ?_)))
      iterate 2 refine AD ?_
      iterate 2 refine AJ ?_
      iterate 2 refine AD ?_
      refine AJ (AD ?_)
      have H := L4 _ H
      have H := L3 _ H
      have H := L2 _ H
      have H := L1 _ H
      have H := AG H
      subst H
      refine AE (.inl Aa) F W Aa (Av F Aa) ?_
      exact ⟨rfl, W.done⟩
     have H := AL (by rw [hb]; decide) H
     rw [hb] at F
     clear hb
     refine Ax (AS (Ad (Ae ?_)))
     refine ls F W Aa (Ah F Aa).q fun a w F W => ?_
     refine ls F W Aa (Cf F Aa Aa Aa).q fun a w F W => ?_
     refine ls F W Aa (Ag F Aa).q fun a w F W => ?_
     refine Af (Ad ?_)
     have W := W.frontM (i := 1) Aa Aa
     have W := W.frontM (i := 1) Aa Aa
     exact ⟨_, H, F.re ⟨rfl, Aa, Aa, Aa, Aa, trivial⟩, W⟩
    have H := AL (A8 hb) H
    rw [hb] at F
    clear hb
    refine Bz ?_
    iterate 2 refine B1 ?_
    refine BA (AS (Ad ?_))
    have W := W.frontM (i := 1) Aa Aa
    have W := W.frontM (i := 1) Aa Aa
    have H := L4 _ H
    exact ⟨H, F.re ⟨rfl, Aa, Aa, Aa, trivial⟩, W⟩
   rintro a w ⟨hj, F, W⟩
   have H := K3 _ hj
   clear hj G3 K3 L3
   refine Ae ?_
   refine ls F W Aa (Ah F Aa).q fun a w F W => ?_
   refine ls F W Aa (Cf F Aa Aa Aa).q fun a w F W => ?_
   refine ls F W Aa (Ag F Aa).q fun a w F W => ?_
   refine Af (Ad ?_)
   have W := W.frontM (i := 1) Aa Aa
   have W := W.frontM (i := 1) Aa Aa
   exact ⟨_, H, F.re ⟨rfl, Aa, Aa, Aa, trivial⟩, W⟩
  have H := AL (A8 hb) H
  rw [hb] at F
  clear hb
  refine Bz ?_
  iterate 2 refine B1 ?_
  refine BA (Ad ?_)
  have W := W.frontM (i := 1) Aa Aa
  have W := W.frontM (i := 1) Aa Aa
  have H := L2 _ H
  exact ⟨H, F.re ⟨rfl, trivial⟩, W⟩
 rintro a w ⟨hj, F, W⟩
 have H := K1 _ hj
 clear hj G1 K1 L1
 refine Ak (Ae ?_)
 refine ls F W Aa (Ag F Aa).q fun a w F W => ?_
 refine Af (Ad (Aw ?_))
 have H := AG H
 subst H
 refine AE (.inl Aa) F W Aa (Av F Aa) ?_
 exact ⟨rfl, W.done⟩
theorem Pl : Has Try.prog 38 := ⟨fun args w => An Try.func38 rfl (by decide) args w⟩
noncomputable def EB (p0 : List (Int × (Int × (Int × Int × Int × Int) × (Int × Int × Int × Int)) × (List (Int × Int × Int)))) (p1 : Int) (p2 : Int × Int × Int × Int) : Int → Option (Int ⊕ (Unit ⊕ Int))
  | x1 => (if x1 < (p0.length : Int) then (ix p0 x1).bind fun x2 => (Gl x2.2.1 p1 p2).bind fun x3 => (if x3 = true then some (.inr (.inr x1)) else some (.inl (CL (x1 + 1)))) else some (.inr (.inl ())))
noncomputable def FE (p0 : List (Int × (Int × (Int × Int × Int × Int) × (Int × Int × Int × Int)) × (List (Int × Int × Int)))) (p1 : Int) (p2 : Int × Int × Int × Int) : Option Int := Fw (Bi (EB p0 p1 p2) 0) fun _ => some (-1)
theorem HS (Y : Nat → Prop) (w0 : World) (v1 : Value) (p0 : List (Int × (Int × (Int × Int × Int × Int) × (Int × Int × Int × Int)) × (List (Int × Int × Int)))) (p1 : Int) (p2 : Int × Int × Int × Int) (r : Int) (H : FE p0 p1 p2 = some r) (h_v1 : Sl w0 (NX []) A2 v1 p0) :
    Calls Try.prog 15 #[v1, .int .i64 p1, .agg #[.int .i64 p2.1, .int .i64 p2.2.1, .int .i64 p2.2.2.1, .int .i64 p2.2.2.2]] w0 fun e w' => e = .returned (.int .i64 r) ∧ Below w0.heap.size w0 w' := by
 refine enter Try.func15 Aa Try.ntmps15 Aa fun a F => ?_
 have W := Stw.start Y w0
 obtain ⟨v2, h1, h_v1⟩ := h_v1.ex Bd
 unfold FE at H
 refine Ak (Ae ?_)
 refine BT (cs := [.int .i64 p2.1, .int .i64 p2.2.1, .int .i64 p2.2.2.1, .int .i64 p2.2.2.2]) F W Aa Aa Aa fun b1 a w F W => ?_
 refine ls F W Aa (Ag F Aa).q fun a w F W => ?_
 refine Af (Ad ?_)
 obtain ⟨o1, G1, K1, L1⟩ := HR H
 refine AF (fun a w => some (Sum.inl ()) = some o1 ∧ Fr 23 [] [(6, .int .i64 0)] a ∧ Stw ⟨Y, [], w0⟩ [(b1, [.int .i64 p2.1, .int .i64 p2.2.1, .int .i64 p2.2.2.1, .int .i64 p2.2.2.2])] [] w) ?_ ?_
 ·
  have H := G1
  clear G1 K1
  refine Ak (Ae ?_)
  refine ls F W Aa (Ag F Aa).q fun a w F W => ?_
  refine Af (Ad (AC ?_))
  refine Bx H (fun s a w => Fr 23 [] [(0, v1), (1, .int .i64 p1), (5, .pointer (some ⟨b1, 0, none⟩)), (6, .int .i64 0), (7, .int .i64 s)] a ∧ Stw ⟨Y, [], w0⟩ [(b1, [.int .i64 p2.1, .int .i64 p2.2.1, .int .i64 p2.2.2.1, .int .i64 p2.2.2.2])] [] w) ⟨F.re ⟨rfl, Aa, Aa, Aa, Aa, trivial⟩, W⟩ fun s o a w H L2 hR => ?_
  obtain ⟨x1, rfl⟩ : ∃ x, x = s := ⟨s, rfl⟩
  obtain ⟨F, W⟩ := hR
  have F : Fr 23 [] [(0, v1), (1, .int .i64 p1), (5, .pointer (some ⟨b1, 0, none⟩)), (6, .int .i64 0), (7, .int .i64 x1)] a := F
  have W : Stw ⟨Y, [], w0⟩ [(b1, [.int .i64 p2.1, .int .i64 p2.2.1, .int .i64 p2.2.2.1, .int .i64 p2.2.2.2])] [] w := W
  rw [EB] at H
  refine Ak (Ak (Ae ?_))
  iterate 2 refine ls F W Aa (Ah F Aa).q fun a w F W => ?_
  refine ls F W Aa (B6 (r := A2) (l := p0) D1 Aa F Aa (AU Bd h1 (Aq h_v1))).q fun a w F W => ?_
  refine ls F W Aa (BM F Aa Aa).q fun a w F W => ?_
  refine Af (Ad ?_)
  refine AA F Aa (fun hb => ?_) fun hb => ?_
  ·
   have H := AM (Ba hb) H
   rw [hb] at F
   clear hb
   refine Ax (Ad (Ak (AC (Ak ?_))))
   refine Cq W MO (by kernel_rfl) ?_
   iterate 2 refine qs F Aa (Ah F Aa).q fun a F => ?_
   obtain ⟨x2, h2, H⟩ := Ao H
   obtain ⟨v3, h3, h4⟩ := Cv h1 h2
   have h5 : Ce v3 = [.int .i64 x2.1, .int .i64 x2.2.1.1, .int .i64 x2.2.1.2.1.1, .int .i64 x2.2.1.2.1.2.1, .int .i64 x2.2.1.2.1.2.2.1, .int .i64 x2.2.1.2.1.2.2.2, .int .i64 x2.2.1.2.2.1, .int .i64 x2.2.1.2.2.2.1, .int .i64 x2.2.1.2.2.2.2.1, .int .i64 x2.2.1.2.2.2.2.2, (v3.2.2.1)] := congrArg (fun q : Int × (Int × (Int × Int × Int × Int) × (Int × Int × Int × Int)) × (List (Int × Int × Int)) => ([.int .i64 q.1, .int .i64 q.2.1.1, .int .i64 q.2.1.2.1.1, .int .i64 q.2.1.2.1.2.1, .int .i64 q.2.1.2.1.2.2.1, .int .i64 q.2.1.2.1.2.2.2, .int .i64 q.2.1.2.2.1, .int .i64 q.2.1.2.2.2.1, .int .i64 q.2.1.2.2.2.2.1, .int .i64 q.2.1.2.2.2.2.2, (v3.2.2.1)] : List Value)) h4
   refine qs F Aa (A1 (r := CC) Fb F Aa Aa (Aq h_v1) h3).q fun a F => ?_
   refine qs F Aa (Al Cw Aa Aa Aa ED F Aa (DW v1 + (x1).toNat * 11 + 1) Aa).q fun a F => ?_
   refine qs F Aa (AR (y := Value.agg #[.int .i64 x2.2.1.1, .int .i64 x2.2.1.2.1.1, .int .i64 x2.2.1.2.1.2.1, .int .i64 x2.2.1.2.1.2.2.1, .int .i64 x2.2.1.2.1.2.2.2, .int .i64 x2.2.1.2.2.1, .int .i64 x2.2.1.2.2.2.1, .int .i64 x2.2.1.2.2.2.2.1, .int .i64 x2.2.1.2.2.2.2.2]) (j := 1) (i := x1) (enc := Ce) F Aa Aa (Aq h_v1) h3 D9 ED (by rw [h5]; rfl)).q fun a F => ?_
   refine qs F Aa (Ah F Aa).q fun a F => ?_
   refine qs F Aa (As (v := Value.agg #[.int .i64 p2.1, .int .i64 p2.2.1, .int .i64 p2.2.2.1, .int .i64 p2.2.2.2]) 0 F Aa Aa GD Aa).q fun a F => ?_
   obtain ⟨x3, h6, H⟩ := Ao H
   refine qs F Aa (AQ (v := Value.bool x3) F Pl Aa (fun w W => JS any w x2.2.1 p1 p2 _ h6)) fun a F => ?_
   refine AY fun w W => ?_
   refine Ad ?_
   refine AA F Aa (fun hb => ?_) fun hb => ?_
   ·
    have H := AM hb H
    rw [hb] at F
    clear hb
    refine Ak (Ae ?_)
    refine ls F W Aa (Ah F Aa).q fun a w F W => ?_
    refine ls F W Aa (Ag F Aa).q fun a w F W => ?_
    refine Af (Ad (Aw (AJ ?_)))
    iterate 2 refine AD ?_
    refine AJ (AD ?_)
    have H := L2 _ H
    have H := L1 _ H
    have H := AG H
    subst H
    refine AE (.inl Aa) F W Aa (Av F Aa) ?_
    exact ⟨rfl, W.done⟩
   have H := AL (by rw [hb]; decide) H
   rw [hb] at F
   clear hb
   refine Ax (AS (Ad (Ae ?_)))
   refine ls F W Aa (Ah F Aa).q fun a w F W => ?_
   refine ls F W Aa (Cf F Aa Aa Aa).q fun a w F W => ?_
   refine ls F W Aa (Ag F Aa).q fun a w F W => ?_
   refine Af (Ad ?_)
   exact ⟨_, H, F.re ⟨rfl, Aa, Aa, Aa, Aa, trivial⟩, W⟩
  have H := AL (A8 hb) H
  rw [hb] at F
  clear hb
  refine Bz ?_
  iterate 2 refine B1 ?_
  refine BA (Ad ?_)
  have H := L2 _ H
  exact ⟨H, F.re ⟨rfl, trivial⟩, W⟩
 rintro a w ⟨hj, F, W⟩
 have H := K1 _ hj
 clear hj G1 K1 L1
 refine Ak (Ae ?_)
 refine ls F W Aa (Ag F Aa).q fun a w F W => ?_
 refine Af (Ad (Aw ?_))
 have H := AG H
 subst H
 refine AE (.inl Aa) F W Aa (Av F Aa) ?_
 exact ⟨rfl, W.done⟩
theorem Of : Has Try.prog 15 := ⟨fun args w => An Try.func15 rfl (by decide) args w⟩
noncomputable def Gv (p0 : Int × Int × Int × Int) (p1 : Int) (p2 : Int) : Option (Int × Int × Int × Int) := (if (decide (0 ≤ p1) && (decide (p1 < 4) && (decide (0 ≤ p2) && decide (p2 ≤ (A0 p1))))) = true then (ix ([p0.1, p0.2.1, p0.2.2.1, p0.2.2.2] : List Int) p1).bind fun x5 => some ((if p1 = 0 then p2 else p0.1), (if p1 = 1 then p2 else p0.2.1), (if p1 = 2 then p2 else p0.2.2.1), (if p1 = 3 then p2 else p0.2.2.2)) else some (p0.1, p0.2.1, p0.2.2.1, p0.2.2.2)).bind fun (x1, x2, x3, x4) => some (x1, x2, x3, x4)
theorem J5 (Y : Nat → Prop) (w0 : World)  (p0 : Int × Int × Int × Int) (p1 : Int) (p2 : Int) (r : (Int × Int × Int × Int)) (H : Gv p0 p1 p2 = some r)  :
    Calls Try.prog 52 #[.agg #[.int .i64 p0.1, .int .i64 p0.2.1, .int .i64 p0.2.2.1, .int .i64 p0.2.2.2], .int .i64 p1, .int .i64 p2] w0 fun e w' => e = .returned (.agg #[.int .i64 r.1, .int .i64 r.2.1, .int .i64 r.2.2.1, .int .i64 r.2.2.2]) ∧ Below w0.heap.size w0 w' := by
 refine enter Try.func52 Aa Try.ntmps52 Aa fun a F => ?_
 have W := Stw.start Y w0
 unfold Gv at H
 refine Ak (Ae ?_)
 refine BT (cs := [.int .i64 p0.1, .int .i64 p0.2.1, .int .i64 p0.2.2.1, .int .i64 p0.2.2.2]) F W Aa Aa Aa fun b1 a w F W => ?_
 refine B9 (cs := [.int .i64 0, .int .i64 0, .int .i64 0, .int .i64 0]) F W Aa NA Aa fun b2 a w F W => ?_
 refine Af (Ad ?_)
 obtain ⟨o1, G1, K1⟩ := Ao H
 refine AF (fun a w => ∃ x1 : Int, ∃ x2 : Int, ∃ x3 : Int, ∃ x4 : Int, some ((x1, x2, x3, x4)) = some o1 ∧ Fr 27 [] [(3, .pointer (some ⟨b1, 0, none⟩)), (6, .pointer (some ⟨b2, 0, none⟩))] a ∧ Stw ⟨Y, [], w0⟩ [(b2, [.int .i64 0, .int .i64 0, .int .i64 0, .int .i64 0]), (b1, [.int .i64 x1, .int .i64 x2, .int .i64 x3, .int .i64 x4])] [] w) ?_ ?_
 ·
  have H := G1
  clear G1 K1
  refine AF (fun a w => Fr 27 [] [(1, .int .i64 p1), (2, .int .i64 p2), (3, .pointer (some ⟨b1, 0, none⟩)), (6, .pointer (some ⟨b2, 0, none⟩)), (22, .bool (decide (0 ≤ p1) && (decide (p1 < 4) && (decide (0 ≤ p2) && decide (p2 ≤ (A0 p1))))))] a ∧ Stw ⟨Y, [], w0⟩ [(b2, [.int .i64 0, .int .i64 0, .int .i64 0, .int .i64 0]), (b1, [.int .i64 p0.1, .int .i64 p0.2.1, .int .i64 p0.2.2.1, .int .i64 p0.2.2.2])] [] w) ?_ ?_
  ·
   refine Ae ?_
   refine ls F W Aa (Ah F Aa).q fun a w F W => ?_
   refine ls F W Aa (Ey F Aa Aa).q fun a w F W => ?_
   refine ls F W Aa (Ah F Aa).q fun a w F W => ?_
   rcases Bool.eq_false_or_eq_true (decide (0 ≤ p1)) with hb0 | hb0
   ·
    rw [hb0] at F
    refine AK F W (Aj F Aa Aa Aa Aa) Aa (Ap Aa) (Ah F Aa).q fun a w F W => ?_
    refine AK F W (Aj F Aa Aa Aa Aa) Aa (Ap Aa) (BM F Aa Aa).q fun a w F W => ?_
    refine ls F W Aa (Az F Aa Aa Aa).q fun a w F W => ?_
    refine ls F W Aa (Ah F Aa).q fun a w F W => ?_
    rcases Bool.eq_false_or_eq_true (decide (p1 < 4)) with hb1 | hb1
    ·
     rw [hb1] at F
     refine AK F W (Aj F Aa Aa Aa Aa) Aa (Ap Aa) (Ah F Aa).q fun a w F W => ?_
     refine AK F W (Aj F Aa Aa Aa Aa) Aa (Ap Aa) (Ey F Aa Aa).q fun a w F W => ?_
     refine ls F W Aa (Az F Aa Aa Aa).q fun a w F W => ?_
     refine ls F W Aa (Ah F Aa).q fun a w F W => ?_
     rcases Bool.eq_false_or_eq_true (decide (0 ≤ p2)) with hb2 | hb2
     ·
      rw [hb2] at F
      iterate 2 refine AK F W (Aj F Aa Aa Aa Aa) Aa (Ap Aa) (Ah F Aa).q fun a w F W => ?_
      refine F8 (Aj F Aa Aa Aa Aa) ?_
      refine ls F W Aa (AQ (v := Value.int .i64 (A0 p1)) F Np Aa (fun w W => FO any w p1 _ Aa)) fun a w F W => ?_
      refine AK F W (Aj F Aa Aa Aa Aa) Aa (Ap Aa) (GY F Aa Aa).q fun a w F W => ?_
      refine ls F W Aa (Az F Aa Aa Aa).q fun a w F W => ?_
      refine Af (Ad ?_)
      exact ⟨F.re ⟨rfl, Aa, Aa, Aa, (by show some (Value.bool (decide (p2 ≤ (A0 p1)))) = some (Value.bool (decide (0 ≤ p1) && (decide (p1 < 4) && (decide (0 ≤ p2) && decide (p2 ≤ (A0 p1)))))); try rw [hb0]; try rw [hb1]; try rw [hb2]; all_goals simp only [Bool.not_true, Bool.not_false, Bool.true_and, Bool.false_and, Bool.true_or, Bool.false_or, Bool.and_true, Bool.or_false, cond_true, cond_false]), trivial⟩, W⟩
     rw [hb2] at F
     iterate 4 refine Cx F Aa Aa Aa Aa Aa Aa Aa fun a F => ?_
     refine ls F W Aa (Au F Aa Aa Aa).q fun a w F W => ?_
     refine Af (Ad ?_)
     exact ⟨F.re ⟨rfl, Aa, Aa, Aa, (by show some (Value.bool false) = some (Value.bool (decide (0 ≤ p1) && (decide (p1 < 4) && (decide (0 ≤ p2) && decide (p2 ≤ (A0 p1)))))); try rw [hb0]; try rw [hb1]; try rw [hb2]; all_goals simp only [Bool.not_true, Bool.not_false, Bool.true_and, Bool.false_and, Bool.true_or, Bool.false_or, Bool.and_true, Bool.or_false, cond_true, cond_false]), trivial⟩, W⟩
    rw [hb1] at F
    iterate 2 refine Cx F Aa Aa Aa Aa Aa Aa Aa fun a F => ?_
    refine ls F W Aa (Au F Aa Aa Aa).q fun a w F W => ?_
    refine ls F W Aa (Ah F Aa).q fun a w F W => ?_
    iterate 4 refine Cx F Aa Aa Aa Aa Aa Aa Aa fun a F => ?_
    refine ls F W Aa (Au F Aa Aa Aa).q fun a w F W => ?_
    refine Af (Ad ?_)
    exact ⟨F.re ⟨rfl, Aa, Aa, Aa, (by show some (Value.bool false) = some (Value.bool (decide (0 ≤ p1) && (decide (p1 < 4) && (decide (0 ≤ p2) && decide (p2 ≤ (A0 p1)))))); try rw [hb0]; try rw [hb1]; all_goals simp only [Bool.not_true, Bool.not_false, Bool.true_and, Bool.false_and, Bool.true_or, Bool.false_or, Bool.and_true, Bool.or_false, cond_true, cond_false]), trivial⟩, W⟩
   rw [hb0] at F
   iterate 2 refine Cx F Aa Aa Aa Aa Aa Aa Aa fun a F => ?_
   refine ls F W Aa (Au F Aa Aa Aa).q fun a w F W => ?_
   refine ls F W Aa (Ah F Aa).q fun a w F W => ?_
   iterate 2 refine Cx F Aa Aa Aa Aa Aa Aa Aa fun a F => ?_
   refine ls F W Aa (Au F Aa Aa Aa).q fun a w F W => ?_
   refine ls F W Aa (Ah F Aa).q fun a w F W => ?_
   iterate 4 refine Cx F Aa Aa Aa Aa Aa Aa Aa fun a F => ?_
   refine ls F W Aa (Au F Aa Aa Aa).q fun a w F W => ?_
   refine Af (Ad ?_)
   exact ⟨F.re ⟨rfl, Aa, Aa, Aa, (by show some (Value.bool false) = some (Value.bool (decide (0 ≤ p1) && (decide (p1 < 4) && (decide (0 ≤ p2) && decide (p2 ≤ (A0 p1)))))); try rw [hb0]; all_goals simp only [Bool.not_true, Bool.not_false, Bool.true_and, Bool.false_and, Bool.true_or, Bool.false_or, Bool.and_true, Bool.or_false, cond_true, cond_false]), trivial⟩, W⟩
  rintro a w ⟨F, W⟩
  refine AA F Aa (fun hb => ?_) fun hb => ?_
  ·
   have H := AM hb H
   rw [hb] at F
   clear hb
   refine Ae ?_
   iterate 2 refine ls F W Aa (Ah F Aa).q fun a w F W => ?_
   obtain ⟨x5, h1, H⟩ := Ao H
   refine ls F W Aa (Bn (0 + (p1).toNat * 1) Jj F Aa Aa Aa h1 Aa).q fun a w F W => ?_
   refine DR (o := 0) (m := 4) (i := p1) (l := ([p0.1, p0.2.1, p0.2.2.1, p0.2.2.2] : List Int)) (x := x5) (cs := [.int .i64 p0.1, .int .i64 p0.2.1, .int .i64 p0.2.2.1, .int .i64 p0.2.2.2]) (cs' := [.int .i64 (if p1 = 0 then p2 else p0.1), .int .i64 (if p1 = 1 then p2 else p0.2.1), .int .i64 (if p1 = 2 then p2 else p0.2.2.1), .int .i64 (if p1 = 3 then p2 else p0.2.2.2)]) 1 F W Aa Aa Aa T3 Aa Aa Aa Aa h1 (by intro k hk hn; rw [hk]; match k, hn with | 0, _ => rfl | 1, _ => rfl | 2, _ => rfl | 3, _ => rfl | (z + 4), h => exact absurd h (by omega)) fun w W => ?_
   have W : Stw ⟨Y, [], w0⟩ [(b2, [.int .i64 0, .int .i64 0, .int .i64 0, .int .i64 0]), (b1, [.int .i64 (if p1 = 0 then p2 else p0.1), .int .i64 (if p1 = 1 then p2 else p0.2.1), .int .i64 (if p1 = 2 then p2 else p0.2.2.1), .int .i64 (if p1 = 3 then p2 else p0.2.2.2)])] [] w := W
   refine Af (Ad ?_)
   have W := W.frontM (i := 1) Aa Aa
   have W := W.frontM (i := 1) Aa Aa
   exact ⟨_, _, _, _, H, F.re ⟨rfl, Aa, trivial⟩, W⟩
  have H := AL (by rw [hb]; decide) H
  rw [hb] at F
  clear hb
  refine Ax (Ad ?_)
  have W := W.frontM (i := 1) Aa Aa
  have W := W.frontM (i := 1) Aa Aa
  exact ⟨_, _, _, _, H, F.re ⟨rfl, Aa, trivial⟩, W⟩
 rintro a w ⟨x1, x2, x3, x4, hj, F, W⟩
 have hj := AG hj
 subst hj
 have H := K1
 clear G1 K1
 refine Ak (Ae ?_)
 refine ls F W Aa (As (v := Value.agg #[.int .i64 x1, .int .i64 x2, .int .i64 x3, .int .i64 x4]) 1 F Aa Aa GD Aa).q fun a w F W => ?_
 refine Br (vs := [.int .i64 x1, .int .i64 x2, .int .i64 x3, .int .i64 x4]) (M' := [(b2, [.int .i64 x1, .int .i64 x2, .int .i64 x3, .int .i64 x4]), (b1, [.int .i64 x1, .int .i64 x2, .int .i64 x3, .int .i64 x4])]) 0 F W Aa Aa Aa GD Aa Aa Aa Aa Aa fun w W => ?_
 refine Af (Ad (Aw ?_))
 have H := AG H
 subst H
 refine AE (.inl Aa) F W Aa (Es 0 F Aa Aa GD Aa) ?_
 exact ⟨rfl, W.done⟩
theorem OO : Has Try.prog 52 := ⟨fun args w => An Try.func52 rfl (by decide) args w⟩
noncomputable def Fa (p0 : List (Int × Int × Int)) (p1 : Int × Int × Int × Int) : ((List (Int × (Int × Int × Int × Int))) × Int × Int × Int × Int × Int) → Option (((List (Int × (Int × Int × Int × Int))) × Int × Int × Int × Int × Int) ⊕ ((List (Int × (Int × Int × Int × Int))) × Int × Int × Int × Int))
  | (x6, x7, x8, x9, x10, x11) => (if x7 < (p0.length : Int) then (((ix p0 x7).bind fun x21 => (if x21.1 = 3 then some (p1.1, p1.2.1, p1.2.2.1, p1.2.2.2) else some (x8, x9, x10, x11))).bind fun (x17, x18, x19, x20) => ((ix p0 x7).bind fun x26 => (if x26.1 = 1 then (ix p0 x7).bind fun x27 => (ix p0 x7).bind fun x28 => (Gv (x17, x18, x19, x20) x27.2.1 x28.2.2).bind fun x29 => some (x29.1, x29.2.1, x29.2.2.1, x29.2.2.2) else some (x17, x18, x19, x20))).bind fun (x22, x23, x24, x25) => (ix p0 x7).bind fun x30 => (if x30.1 = 2 then (ix p0 x7).bind fun x31 => (Jm x6 ([(x31.2.2, (x22, x23, x24, x25))] : List (Int × (Int × Int × Int × Int)))).bind fun x32 => some (x32, x22, x23, x24, x25) else some (x6, x22, x23, x24, x25))).bind fun (x12, x13, x14, x15, x16) => some (.inl (x12, CL (x7 + 1), x13, x14, x15, x16)) else some (.inr (x6, x8, x9, x10, x11)))
noncomputable def GP (p0 : List (Int × Int × Int)) (p1 : Int × Int × Int × Int) : Option (List (Int × (Int × Int × Int × Int))) := (Bi (Fa p0 p1) ([], 0, p1.1, p1.2.1, p1.2.2.1, p1.2.2.2)).bind fun (x1, x2, x3, x4, x5) => some x1
theorem KM (Y : Nat → Prop) (w0 : World) (v1 : Value) (p0 : List (Int × Int × Int)) (p1 : Int × Int × Int × Int) (r : (List (Int × (Int × Int × Int × Int)))) (H : GP p0 p1 = some r) (h_v1 : Sl w0 (NX []) Bw v1 p0) :
    Calls Try.prog 27 #[v1, .agg #[.int .i64 p1.1, .int .i64 p1.2.1, .int .i64 p1.2.2.1, .int .i64 p1.2.2.2]] w0 fun e w' => ∃ x : Value, e = .returned (x) ∧ Stw ⟨Y, [], w0⟩ [] [row (x) 64 DY r] w' := by
 refine enter Try.func27 Aa Try.ntmps27 Aa fun a F => ?_
 have W := Stw.start Y w0
 unfold GP at H
 refine Ak (Ae ?_)
 refine BT (cs := [.int .i64 p1.1, .int .i64 p1.2.1, .int .i64 p1.2.2.1, .int .i64 p1.2.2.2]) F W Aa Aa Aa fun b1 a w F W => ?_
 refine ls F W Aa (Ag F Aa).q fun a w F W => ?_
 refine Af (Ad (Ak (Ae ?_)))
 refine ls F W Aa (Ag F Aa).q fun a w F W => ?_
 refine Af (Ad (Ak (Ae ?_)))
 refine ls F W Aa (As (v := Value.agg #[.int .i64 p1.1, .int .i64 p1.2.1, .int .i64 p1.2.2.1, .int .i64 p1.2.2.2]) 0 F Aa Aa GD Aa).q fun a w F W => ?_
 refine B9 (cs := [.int .i64 0, .int .i64 0, .int .i64 0, .int .i64 0]) F W Aa NA Aa fun b2 a w F W => ?_
 refine Br (vs := [.int .i64 p1.1, .int .i64 p1.2.1, .int .i64 p1.2.2.1, .int .i64 p1.2.2.2]) (M' := [(b2, [.int .i64 p1.1, .int .i64 p1.2.1, .int .i64 p1.2.2.1, .int .i64 p1.2.2.2]), (b1, [.int .i64 p1.1, .int .i64 p1.2.1, .int .i64 p1.2.2.1, .int .i64 p1.2.2.2])]) 0 F W Aa Aa Aa GD Aa Aa Aa Aa Aa fun w W => ?_
 refine Af (Ad ?_)
 obtain ⟨o1, G1, K1⟩ := Ao H
 refine AF (fun a w => ∃ x1 : List (Int × (Int × Int × Int × Int)), ∃ x2 : Int, ∃ x3 : Int, ∃ x4 : Int, ∃ x5 : Int, ∃ v2 : Value, some ((x1, x2, x3, x4, x5)) = some o1 ∧ Fr 57 [] [(4, .slice none 0 0), (5, v2)] a ∧ Stw ⟨Y, [], w0⟩ [(b2, [.int .i64 p1.1, .int .i64 p1.2.1, .int .i64 p1.2.2.1, .int .i64 p1.2.2.2]), (b1, [.int .i64 x2, .int .i64 x3, .int .i64 x4, .int .i64 x5])] [row v2 64 DY x1] w) ?_ ?_
 ·
  have H := G1
  clear G1 K1
  refine Ak (Ae ?_)
  refine ls F W Aa (Ag F Aa).q fun a w F W => ?_
  refine Af (Ad (AC ?_))
  have W := W.nilRow 64 DY
  have W := W.frontM (i := 1) Aa Aa
  have W := W.frontM (i := 1) Aa Aa
  refine Bx H (fun s a w => ∃ v3 : Value, Fr 57 [] [(0, v1), (3, .pointer (some ⟨b1, 0, none⟩)), (4, .slice none 0 0), (5, v3), (6, .pointer (some ⟨b2, 0, none⟩)), (7, .int .i64 s.2.1)] a ∧ Stw ⟨Y, [], w0⟩ [(b2, [.int .i64 p1.1, .int .i64 p1.2.1, .int .i64 p1.2.2.1, .int .i64 p1.2.2.2]), (b1, [.int .i64 s.2.2.1, .int .i64 s.2.2.2.1, .int .i64 s.2.2.2.2.1, .int .i64 s.2.2.2.2.2])] [row v3 64 DY s.1] w) ⟨(Value.slice none 0 0), F.re ⟨rfl, Aa, Aa, Aa, Aa, Aa, trivial⟩, W⟩ fun s o a w H L2 hR => ?_
  obtain ⟨x6, x7, x8, x9, x10, x11⟩ := s
  obtain ⟨v3, F, W⟩ := hR
  have F : Fr 57 [] [(0, v1), (3, .pointer (some ⟨b1, 0, none⟩)), (4, .slice none 0 0), (5, v3), (6, .pointer (some ⟨b2, 0, none⟩)), (7, .int .i64 x7)] a := F
  have W : Stw ⟨Y, [], w0⟩ [(b2, [.int .i64 p1.1, .int .i64 p1.2.1, .int .i64 p1.2.2.1, .int .i64 p1.2.2.2]), (b1, [.int .i64 x8, .int .i64 x9, .int .i64 x10, .int .i64 x11])] [row v3 64 DY x6] w := W
  rw [Fa] at H
  refine Ak (Ak (Ae ?_))
  iterate 2 refine ls F W Aa (Ah F Aa).q fun a w F W => ?_
  refine ls F W Aa (B6 (r := Bw) (l := p0) HM Aa F Aa (Aq h_v1)).q fun a w F W => ?_
  refine ls F W Aa (BM F Aa Aa).q fun a w F W => ?_
  refine Af (Ad ?_)
  refine AA F Aa (fun hb => ?_) fun hb => ?_
  ·
   have H := AM (Ba hb) H
   rw [hb] at F
   clear hb
   refine Ax (Ad ?_)
   obtain ⟨o3, G3, K3⟩ := Ao H
   refine AF (fun a w => ∃ x12 : List (Int × (Int × Int × Int × Int)), ∃ x13 : Int, ∃ x14 : Int, ∃ x15 : Int, ∃ x16 : Int, ∃ v4 : Value, some ((x12, x13, x14, x15, x16)) = some o3 ∧ Fr 57 [] [(0, v1), (3, .pointer (some ⟨b1, 0, none⟩)), (4, .slice none 0 0), (5, v4), (6, .pointer (some ⟨b2, 0, none⟩)), (7, .int .i64 x7)] a ∧ Stw ⟨Y, [], w0⟩ [(b2, [.int .i64 p1.1, .int .i64 p1.2.1, .int .i64 p1.2.2.1, .int .i64 p1.2.2.2]), (b1, [.int .i64 x13, .int .i64 x14, .int .i64 x15, .int .i64 x16])] [row v4 64 DY x12] w) ?_ ?_
   ·
    have H := G3
    clear G3 K3
    refine AC ?_
    obtain ⟨o4, G4, K4⟩ := Ao H
    refine AF (fun a w => ∃ x17 : Int, ∃ x18 : Int, ∃ x19 : Int, ∃ x20 : Int, some ((x17, x18, x19, x20)) = some o4 ∧ Fr 57 [] [(0, v1), (3, .pointer (some ⟨b1, 0, none⟩)), (4, .slice none 0 0), (5, v3), (6, .pointer (some ⟨b2, 0, none⟩)), (7, .int .i64 x7)] a ∧ Stw ⟨Y, [], w0⟩ [(b2, [.int .i64 p1.1, .int .i64 p1.2.1, .int .i64 p1.2.2.1, .int .i64 p1.2.2.2]), (b1, [.int .i64 x17, .int .i64 x18, .int .i64 x19, .int .i64 x20])] [row v3 64 DY x6] w) ?_ ?_
    ·
     have H := G4
     clear G4 K4
     refine Ak (Ae ?_)
     iterate 2 refine ls F W Aa (Ah F Aa).q fun a w F W => ?_
     obtain ⟨x21, h1, H⟩ := Ao H
     refine ls F W Aa (A1 (r := Bw) J1 F Aa Aa (Aq h_v1) h1).q fun a w F W => ?_
     refine ls F W Aa (Al Df Aa Aa Aa T3 F Aa (DW v1 + (x7).toNat * 3) Aa).q fun a w F W => ?_
     refine ls F W Aa (AR (y := Value.int .i64 x21.1) (j := 0) (i := x7) F Aa Aa (Aq h_v1) h1 Kp.to T3 Aa).q fun a w F W => ?_
     refine ls F W Aa (BL F Aa Aa).q fun a w F W => ?_
     refine Af (Ad ?_)
     refine AA F Aa (fun hb => ?_) fun hb => ?_
     ·
      have H := AM (Ba hb) H
      rw [hb] at F
      clear hb
      refine Ae ?_
      refine ls F W Aa (As (v := Value.agg #[.int .i64 p1.1, .int .i64 p1.2.1, .int .i64 p1.2.2.1, .int .i64 p1.2.2.2]) 0 F Aa Aa GD Aa).q fun a w F W => ?_
      refine Br (vs := [.int .i64 p1.1, .int .i64 p1.2.1, .int .i64 p1.2.2.1, .int .i64 p1.2.2.2]) (M' := [(b2, [.int .i64 p1.1, .int .i64 p1.2.1, .int .i64 p1.2.2.1, .int .i64 p1.2.2.2]), (b1, [.int .i64 p1.1, .int .i64 p1.2.1, .int .i64 p1.2.2.1, .int .i64 p1.2.2.2])]) 1 F W Aa Aa Aa GD Aa Aa Aa Aa Aa fun w W => ?_
      refine Af (Ad ?_)
      have W := W.frontM (i := 1) Aa Aa
      have W := W.frontM (i := 1) Aa Aa
      exact ⟨_, _, _, _, H, F.re ⟨rfl, Aa, Aa, Aa, Aa, Aa, trivial⟩, W⟩
     have H := AL (A8 hb) H
     rw [hb] at F
     clear hb
     refine Ax (Ad ?_)
     have W := W.frontM (i := 1) Aa Aa
     have W := W.frontM (i := 1) Aa Aa
     exact ⟨_, _, _, _, H, F.re ⟨rfl, Aa, Aa, Aa, Aa, Aa, trivial⟩, W⟩
    rintro a w ⟨x17, x18, x19, x20, hj, F, W⟩
    have hj := AG hj
    subst hj
    have H := K4
    clear G4 K4
    obtain ⟨o5, G5, K5⟩ := Ao H
    refine AF (fun a w => ∃ x22 : Int, ∃ x23 : Int, ∃ x24 : Int, ∃ x25 : Int, some ((x22, x23, x24, x25)) = some o5 ∧ Fr 57 [] [(0, v1), (3, .pointer (some ⟨b1, 0, none⟩)), (4, .slice none 0 0), (5, v3), (6, .pointer (some ⟨b2, 0, none⟩)), (7, .int .i64 x7)] a ∧ Stw ⟨Y, [], w0⟩ [(b2, [.int .i64 p1.1, .int .i64 p1.2.1, .int .i64 p1.2.2.1, .int .i64 p1.2.2.2]), (b1, [.int .i64 x22, .int .i64 x23, .int .i64 x24, .int .i64 x25])] [row v3 64 DY x6] w) ?_ ?_
    ·
     have H := G5
     clear G5 K5
     refine Ak (Ae ?_)
     iterate 2 refine ls F W Aa (Ah F Aa).q fun a w F W => ?_
     obtain ⟨x26, h2, H⟩ := Ao H
     refine ls F W Aa (A1 (r := Bw) J1 F Aa Aa (Aq h_v1) h2).q fun a w F W => ?_
     refine ls F W Aa (Al Df Aa Aa Aa T3 F Aa (DW v1 + (x7).toNat * 3) Aa).q fun a w F W => ?_
     refine ls F W Aa (AR (y := Value.int .i64 x26.1) (j := 0) (i := x7) F Aa Aa (Aq h_v1) h2 Kp.to T3 Aa).q fun a w F W => ?_
     refine ls F W Aa (BL F Aa Aa).q fun a w F W => ?_
     refine Af (Ad ?_)
     refine AA F Aa (fun hb => ?_) fun hb => ?_
     ·
      have H := AM (Ba hb) H
      rw [hb] at F
      clear hb
      refine FM 12 W MO (by kernel_rfl) ?_
      refine qs F Aa (As (v := Value.agg #[.int .i64 x17, .int .i64 x18, .int .i64 x19, .int .i64 x20]) 1 F Aa Aa GD Aa).q fun a F => ?_
      iterate 2 refine qs F Aa (Ah F Aa).q fun a F => ?_
      obtain ⟨x27, h3, H⟩ := Ao H
      refine qs F Aa (A1 (r := Bw) J1 F Aa Aa (Aq h_v1) h3).q fun a F => ?_
      refine qs F Aa (Al Df Aa Aa Aa T3 F Aa (DW v1 + (x7).toNat * 3 + 1) Aa).q fun a F => ?_
      refine qs F Aa (AR (y := Value.int .i64 x27.2.1) (j := 1) (i := x7) F Aa Aa (Aq h_v1) h3 Kp.to T3 Aa).q fun a F => ?_
      iterate 2 refine qs F Aa (Ah F Aa).q fun a F => ?_
      obtain ⟨x28, h4, H⟩ := Ao H
      refine qs F Aa (A1 (r := Bw) J1 F Aa Aa (Aq h_v1) h4).q fun a F => ?_
      refine qs F Aa (Al Df Aa Aa Aa T3 F Aa (DW v1 + (x7).toNat * 3 + 2) Aa).q fun a F => ?_
      refine qs F Aa (AR (y := Value.int .i64 x28.2.2) (j := 2) (i := x7) F Aa Aa (Aq h_v1) h4 Kp.to T3 Aa).q fun a F => ?_
      obtain ⟨x29, h5, H⟩ := Ao H
      refine qs F Aa (AQ (v := Value.agg #[.int .i64 x29.1, .int .i64 x29.2.1, .int .i64 x29.2.2.1, .int .i64 x29.2.2.2]) F OO Aa (fun w W => J5 any w (x17, x18, x19, x20) x27.2.1 x28.2.2 _ h5)) fun a F => ?_
      refine AY fun w W => ?_
      refine Br (vs := [.int .i64 x29.1, .int .i64 x29.2.1, .int .i64 x29.2.2.1, .int .i64 x29.2.2.2]) (M' := [(b2, [.int .i64 p1.1, .int .i64 p1.2.1, .int .i64 p1.2.2.1, .int .i64 p1.2.2.2]), (b1, [.int .i64 x29.1, .int .i64 x29.2.1, .int .i64 x29.2.2.1, .int .i64 x29.2.2.2])]) 1 F W Aa Aa Aa GD Aa Aa Aa Aa Aa fun w W => ?_
      refine Af (Ad ?_)
      have W := W.frontM (i := 1) Aa Aa
      have W := W.frontM (i := 1) Aa Aa
      exact ⟨_, _, _, _, H, F.re ⟨rfl, Aa, Aa, Aa, Aa, Aa, trivial⟩, W⟩
     have H := AL (A8 hb) H
     rw [hb] at F
     clear hb
     refine Ax (Ad ?_)
     have W := W.frontM (i := 1) Aa Aa
     have W := W.frontM (i := 1) Aa Aa
     exact ⟨_, _, _, _, H, F.re ⟨rfl, Aa, Aa, Aa, Aa, Aa, trivial⟩, W⟩
    rintro a w ⟨x22, x23, x24, x25, hj, F, W⟩
    have hj := AG hj
    subst hj
    have H := K5
    clear G5 K5
    refine Ak (Ae ?_)
    iterate 2 refine ls F W Aa (Ah F Aa).q fun a w F W => ?_
    obtain ⟨x30, h6, H⟩ := Ao H
    refine ls F W Aa (A1 (r := Bw) J1 F Aa Aa (Aq h_v1) h6).q fun a w F W => ?_
    refine ls F W Aa (Al Df Aa Aa Aa T3 F Aa (DW v1 + (x7).toNat * 3) Aa).q fun a w F W => ?_
    refine ls F W Aa (AR (y := Value.int .i64 x30.1) (j := 0) (i := x7) F Aa Aa (Aq h_v1) h6 Kp.to T3 Aa).q fun a w F W => ?_
    refine ls F W Aa (BL F Aa Aa).q fun a w F W => ?_
    refine Af (Ad ?_)
    refine AA F Aa (fun hb => ?_) fun hb => ?_
    ·
     have H := AM (Ba hb) H
     rw [hb] at F
     clear hb
     refine LL 8 [0] [1, 2, 3, 4, 5, 6, 7] (fun ch a d v w h => by cases d <;> exact h) W MO (by kernel_rfl) ?_
     refine hm F Aa Aa Aa fun a F => ?_
     refine Mq ?_
     iterate 2 refine hs F Aa Aa Aa (Ah F Aa).q fun a F => ?_
     obtain ⟨x31, h7, H⟩ := Ao H
     refine hs F Aa Aa Aa (A1 (r := Bw) J1 F Aa Aa (Aq h_v1) h7).q fun a F => ?_
     refine hs F Aa Aa Aa (Al Df Aa Aa Aa T3 F Aa (DW v1 + (x7).toNat * 3 + 2) Aa).q fun a F => ?_
     refine hs F Aa Aa Aa (AR (y := Value.int .i64 x31.2.2) (j := 2) (i := x7) F Aa Aa (Aq h_v1) h7 Kp.to T3 Aa).q fun a F => ?_
     refine hs F Aa Aa Aa (As (v := Value.agg #[.int .i64 x22, .int .i64 x23, .int .i64 x24, .int .i64 x25]) 1 F Aa Aa GD Aa).q fun a F => ?_
     refine hs F Aa Aa Aa (Dx (v := Value.agg #[.int .i64 x31.2.2, .int .i64 x22, .int .i64 x23, .int .i64 x24, .int .i64 x25]) Oy F Aa Aa Aa).q fun a F => ?_
     refine M9 fun w W => ?_
     have W : Stw ⟨Y, [], w0⟩ [(b2, [.int .i64 p1.1, .int .i64 p1.2.1, .int .i64 p1.2.2.1, .int .i64 p1.2.2.2]), (b1, [.int .i64 x22, .int .i64 x23, .int .i64 x24, .int .i64 x25])] [row v3 64 DY x6] w := W
     refine Il (z := Value.agg #[.int .i64 0, .int .i64 0, .int .i64 0, .int .i64 0, .int .i64 0]) (cs := [.int .i64 x31.2.2, .int .i64 x22, .int .i64 x23, .int .i64 x24, .int .i64 x25]) DY ([(x31.2.2, (x22, x23, x24, x25))] : List (Int × (Int × Int × Int × Int))) F W Aa MG Oj Aa Aa Aa Aa Aa Aa (M3.repL _ _ ([(x31.2.2, (x22, x23, x24, x25))] : List (Int × (Int × Int × Int × Int)))) fun v5 a w F W => ?_
     obtain ⟨x32, h8, H⟩ := Ao H
     refine HY (r := DY) (i := 1) F W Aa MG Aa Aa Aa Aa (Kj W 0 Aa) h8 Aa fun v6 a w F W => ?_
     have W : Stw ⟨Y, [], w0⟩ [(b2, [.int .i64 p1.1, .int .i64 p1.2.1, .int .i64 p1.2.2.1, .int .i64 p1.2.2.2]), (b1, [.int .i64 x22, .int .i64 x23, .int .i64 x24, .int .i64 x25])] [row v6 64 DY x32, row v5 64 DY ([(x31.2.2, (x22, x23, x24, x25))] : List (Int × (Int × Int × Int × Int)))] w := W
     refine ls F W Aa (Ag F Aa).q fun a w F W => ?_
     refine Af (AS (Ad ?_))
     have W := W.frontM (i := 1) Aa Aa
     have W := W.frontM (i := 1) Aa Aa
     have W := W.sub (M' := [(b2, [.int .i64 p1.1, .int .i64 p1.2.1, .int .i64 p1.2.2.1, .int .i64 p1.2.2.2]), (b1, [.int .i64 x22, .int .i64 x23, .int .i64 x24, .int .i64 x25])]) (Z' := [row v6 64 DY x32]) (List.Sublist.refl _) (List.Sublist.cons_cons _ (List.nil_sublist _))
     exact ⟨_, _, _, _, _, (v6), H, F.re ⟨rfl, Aa, Aa, Aa, Aa, Aa, trivial⟩, W⟩
    have H := AL (A8 hb) H
    rw [hb] at F
    clear hb
    refine Ax (AS (Ad ?_))
    have W := W.frontM (i := 1) Aa Aa
    have W := W.frontM (i := 1) Aa Aa
    exact ⟨_, _, _, _, _, (v3), H, F.re ⟨rfl, Aa, Aa, Aa, Aa, Aa, trivial⟩, W⟩
   rintro a w ⟨x12, x13, x14, x15, x16, v4, hj, F, W⟩
   have hj := AG hj
   subst hj
   have H := K3
   clear G3 K3
   refine Ae ?_
   refine ls F W Aa (Ah F Aa).q fun a w F W => ?_
   refine ls F W Aa (Cf F Aa Aa Aa).q fun a w F W => ?_
   refine ls F W Aa (Ag F Aa).q fun a w F W => ?_
   refine Af (Ad ?_)
   have W := W.frontM (i := 1) Aa Aa
   have W := W.frontM (i := 1) Aa Aa
   exact ⟨_, H, (v4), F.re ⟨rfl, Aa, Aa, Aa, Aa, Aa, trivial⟩, W⟩
  have H := AL (A8 hb) H
  rw [hb] at F
  clear hb
  refine Bz ?_
  iterate 2 refine B1 ?_
  refine BA (Ad ?_)
  have W := W.frontM (i := 1) Aa Aa
  have W := W.frontM (i := 1) Aa Aa
  have H := L2 _ H
  exact ⟨_, _, _, _, _, (v3), H, F.re ⟨rfl, Aa, trivial⟩, W⟩
 rintro a w ⟨x1, x2, x3, x4, x5, v2, hj, F, W⟩
 have hj := AG hj
 subst hj
 have H := K1
 clear G1 K1
 refine Ak (Ae ?_)
 refine ls F W Aa (Ah F Aa).q fun a w F W => ?_
 refine ls F W Aa (Ag F Aa).q fun a w F W => ?_
 refine Af (Ad (Aw ?_))
 have H := AG H
 subst H
 refine AE (.inl Aa) F W Aa (Av F Aa) ?_
 have W := W.sub (M' := []) (Z' := [row v2 64 DY x1]) (List.nil_sublist _) (List.Sublist.refl _)
 exact ⟨(v2), Aa, W⟩
theorem OA : Has Try.prog 27 := ⟨fun args w => An Try.func27 rfl (by decide) args w⟩
noncomputable def GS (p0 : List (Int × (Int × (Int × Int × Int × Int) × (Int × Int × Int × Int)) × (List (Int × Int × Int)))) (p1 : Int) (p2 : Int × Int × Int × Int) : Option (List (Int × (Int × Int × Int × Int))) := (FE p0 p1 p2).bind fun x1 => (if x1 = (-1) then some ([] : List (Int × (Int × Int × Int × Int))) else (ix p0 x1).bind fun x2 => (GP x2.2.2 p2).bind fun x3 => some x3)
theorem Kv (Y : Nat → Prop) (w0 : World) (v1 : Value) (p0 : List (Int × (Int × (Int × Int × Int × Int) × (Int × Int × Int × Int)) × (List (Int × Int × Int)))) (p1 : Int) (p2 : Int × Int × Int × Int) (r : (List (Int × (Int × Int × Int × Int)))) (H : GS p0 p1 p2 = some r) (h_v1 : Sl w0 (NX []) A2 v1 p0) :
    Calls Try.prog 18 #[v1, .int .i64 p1, .agg #[.int .i64 p2.1, .int .i64 p2.2.1, .int .i64 p2.2.2.1, .int .i64 p2.2.2.2]] w0 fun e w' => ∃ x : Value, e = .returned (x) ∧ Stw ⟨Y, [], w0⟩ [] [row (x) 64 DY r] w' := by
 refine enter Try.func18 Aa Try.ntmps18 Aa fun a F => ?_
 have W := Stw.start Y w0
 obtain ⟨v2, h1, h_v1⟩ := h_v1.ex Bd
 unfold GS at H
 refine Ak (Ae ?_)
 refine BT (cs := [.int .i64 p2.1, .int .i64 p2.2.1, .int .i64 p2.2.2.1, .int .i64 p2.2.2.2]) F W Aa Aa Aa fun b1 a w F W => ?_
 refine ls F W Aa (Ag F Aa).q fun a w F W => ?_
 refine Af (Ad (Ak (Ae ?_)))
 iterate 2 refine ls F W Aa (Ah F Aa).q fun a w F W => ?_
 refine ls F W Aa (As (v := Value.agg #[.int .i64 p2.1, .int .i64 p2.2.1, .int .i64 p2.2.2.1, .int .i64 p2.2.2.2]) 0 F Aa Aa GD Aa).q fun a w F W => ?_
 obtain ⟨x1, h2, H⟩ := Ao H
 refine ls F W Aa (AQ (v := Value.int .i64 x1) F Of Aa (fun w W => HS any w (v1) p0 p1 p2 _ h2 (((AU Bd h1 (Aq h_v1)) : CB _ _ _ _ _ _) w W).nx)) fun a w F W => ?_
 refine ls F W Aa (Ag F Aa).q fun a w F W => ?_
 refine Af (Ad (Ak (Ak (Ae ?_))))
 refine ls F W Aa (Ah F Aa).q fun a w F W => ?_
 refine ls F W Aa (BL F Aa Aa).q fun a w F W => ?_
 refine Af (Ad ?_)
 refine AA F Aa (fun hb => ?_) fun hb => ?_
 ·
  have H := AM (Ba hb) H
  rw [hb] at F
  clear hb
  refine Ak (Ae ?_)
  refine ls F W Aa (Ag F Aa).q fun a w F W => ?_
  refine Af (Ad (Aw (AD ?_)))
  have H := AG H
  subst H
  refine AE (.inl Aa) F W Aa (Av F Aa) ?_
  have W := W.nilRow 64 DY
  have W := W.sub (M' := []) (Z' := [row (Value.slice none 0 0) 64 DY ([])]) (List.nil_sublist _) (List.Sublist.refl _)
  exact ⟨(Value.slice none 0 0), Aa, W⟩
 have H := AL (A8 hb) H
 rw [hb] at F
 clear hb
 refine Ax (Ad (Ak ?_))
 refine FM 6 W MO (by kernel_rfl) ?_
 iterate 2 refine qs F Aa (Ah F Aa).q fun a F => ?_
 obtain ⟨x2, h3, H⟩ := Ao H
 obtain ⟨v3, h4, h5⟩ := Cv h1 h3
 have h6 : Ce v3 = [.int .i64 x2.1, .int .i64 x2.2.1.1, .int .i64 x2.2.1.2.1.1, .int .i64 x2.2.1.2.1.2.1, .int .i64 x2.2.1.2.1.2.2.1, .int .i64 x2.2.1.2.1.2.2.2, .int .i64 x2.2.1.2.2.1, .int .i64 x2.2.1.2.2.2.1, .int .i64 x2.2.1.2.2.2.2.1, .int .i64 x2.2.1.2.2.2.2.2, (v3.2.2.1)] := congrArg (fun q : Int × (Int × (Int × Int × Int × Int) × (Int × Int × Int × Int)) × (List (Int × Int × Int)) => ([.int .i64 q.1, .int .i64 q.2.1.1, .int .i64 q.2.1.2.1.1, .int .i64 q.2.1.2.1.2.1, .int .i64 q.2.1.2.1.2.2.1, .int .i64 q.2.1.2.1.2.2.2, .int .i64 q.2.1.2.2.1, .int .i64 q.2.1.2.2.2.1, .int .i64 q.2.1.2.2.2.2.1, .int .i64 q.2.1.2.2.2.2.2, (v3.2.2.1)] : List Value)) h5
 refine qs F Aa (A1 (r := CC) Fb F Aa Aa (Aq h_v1) h4).q fun a F => ?_
 refine qs F Aa (Al Cw Aa Aa Aa HN F Aa (DW v1 + (x1).toNat * 11 + 10) Aa).q fun a F => ?_
 refine qs F Aa (AR (y := (v3.2.2.1)) (j := 10) (i := x1) (enc := Ce) F Aa Aa (Aq h_v1) h4 D9 HN (by rw [h6]; rfl)).q fun a F => ?_
 refine qs F Aa (As (v := Value.agg #[.int .i64 p2.1, .int .i64 p2.2.1, .int .i64 p2.2.2.1, .int .i64 p2.2.2.2]) 0 F Aa Aa GD Aa).q fun a F => ?_
 refine AY fun w W => ?_
 obtain ⟨x3, h7, H⟩ := Ao H
 refine BE (Ml := []) (Zl := []) (M := [(b1, [.int .i64 p2.1, .int .i64 p2.2.1, .int .i64 p2.2.2.1, .int .i64 p2.2.2.2])]) (Z := []) (β := Value) (rv := fun x => x) (MM := fun x => []) (ZZ := fun x => [row x 64 DY x3]) F W OA Aa Aa (fun hL => KM _ w ((v3.2.2.1)) x2.2.2 p2 _ h7 ((CH (Aq h_v1) h4 (Bh.snd (Bh.snd Bh.here)) (congrArg (fun q : Int × (Int × (Int × Int × Int × Int) × (Int × Int × Int × Int)) × (List (Int × Int × Int)) => q.2.2) h5)) w W).nx) fun x a w F W => ?_
 obtain ⟨v4, rfl⟩ : ∃ y, y = x := ⟨x, rfl⟩
 have W : Stw ⟨Y, [], w0⟩ [(b1, [.int .i64 p2.1, .int .i64 p2.2.1, .int .i64 p2.2.2.1, .int .i64 p2.2.2.2])] [row v4 64 DY x3] w := W
 refine ls F W Aa (Ag F Aa).q fun a w F W => ?_
 refine Af (Ad (Aw ?_))
 have H := AG H
 subst H
 refine AE (.inl Aa) F W Aa (Av F Aa) ?_
 have W := W.sub (M' := []) (Z' := [row v4 64 DY x3]) (List.nil_sublist _) (List.Sublist.refl _)
 exact ⟨(v4), Aa, W⟩
theorem Pu : Has Try.prog 18 := ⟨fun args w => An Try.func18 rfl (by decide) args w⟩
theorem Oh : Ty Try.prog 64 true 5 := ⟨by kernel_rfl, by kernel_rfl⟩
theorem NS (d : Nat) (x0 x1 x2 x3 y0 y1 y2 y3 : Int) (w : World) : (Op.equalIn (d + 2) 24 (.agg #[.int .i64 x0, .int .i64 x1, .int .i64 x2, .int .i64 x3]) (.agg #[.int .i64 y0, .int .i64 y1, .int .i64 y2, .int .i64 y3])).run Try.prog w = .ok (decide (x0 = y0 ∧ x1 = y1 ∧ x2 = y2 ∧ x3 = y3)) w :=
  (Lt (d := d) (k := .i64) Jj LY T3 [x0, x1, x2, x3] [y0, y1, y2, y3] rfl rfl w).trans (by congr 1; exact decide_eq_decide.2 (by simp))
theorem NO (dd : Nat) (x0 : Int) (x1 : Int) (x2 : Int) (x3 : Int) (x4 : Int) (y0 : Int) (y1 : Int) (y2 : Int) (y3 : Int) (y4 : Int) (w : World) : (Op.equalIn (dd + 3) 64 (.agg #[.int .i64 x0, .int .i64 x1, .int .i64 x2, .int .i64 x3, .int .i64 x4]) (.agg #[.int .i64 y0, .int .i64 y1, .int .i64 y2, .int .i64 y3, .int .i64 y4])).run Try.prog w = .ok (decide (x0 = y0 ∧ x1 = y1 ∧ x2 = y2 ∧ x3 = y3 ∧ x4 = y4)) w :=
  Gx (d := dd + 2) (rs := [decide (x0 = y0), decide (x1 = y1 ∧ x2 = y2 ∧ x3 = y3 ∧ x4 = y4)]) MB (by kernel_rfl) ⟨rfl, Gy (d := dd + 1) rfl rfl LY T3 rfl rfl, rfl, HQ (d := dd + 2) (sz := 4) (xs' := [.int .i64 x1, .int .i64 x2, .int .i64 x3, .int .i64 x4]) (ys' := [.int .i64 y1, .int .i64 y2, .int .i64 y3, .int .i64 y4]) rfl rfl GD rfl rfl (fun w => NS (dd + 0) x1 x2 x3 x4 y1 y2 y3 y4 w), trivial⟩ (by rw [Bool.eq_iff_iff]; simp [and_assoc]) w
theorem OI : Try.prog.eqGuardType Try.prog.depth 64 = false := by kernel_rfl
theorem Pn (x0 : Int) (x1 : Int) (x2 : Int) (x3 : Int) (x4 : Int) (y0 : Int) (y1 : Int) (y2 : Int) (y3 : Int) (y4 : Int) (w : World) : (Op.equalIn 10000 64 (.agg #[.int .i64 x0, .int .i64 x1, .int .i64 x2, .int .i64 x3, .int .i64 x4]) (.agg #[.int .i64 y0, .int .i64 y1, .int .i64 y2, .int .i64 y3, .int .i64 y4])).run Try.prog w = .ok (decide (x0 = y0 ∧ x1 = y1 ∧ x2 = y2 ∧ x3 = y3 ∧ x4 = y4)) w := NO 9997 x0 x1 x2 x3 x4 y0 y1 y2 y3 y4 w
noncomputable def Ew (p0 : List (Int × (Int × Int × Int × Int))) (p1 : List (Int × (Int × Int × Int × Int))) : Int → Option (Int ⊕ (Unit ⊕ Bool))
  | x1 => (if x1 < (p0.length : Int) then (ix p0 x1).bind fun x2 => (ix p1 x1).bind fun x3 => (if (!(decide (x2.1 = x3.1 ∧ x2.2.1 = x3.2.1 ∧ x2.2.2.1 = x3.2.2.1 ∧ x2.2.2.2.1 = x3.2.2.2.1 ∧ x2.2.2.2.2 = x3.2.2.2.2))) = true then some (.inr (.inr false)) else some (.inl (CL (x1 + 1)))) else some (.inr (.inl ())))
noncomputable def Gi (p0 : List (Int × (Int × Int × Int × Int))) (p1 : List (Int × (Int × Int × Int × Int))) : Option Bool := (if (p0.length : Int) ≠ (p1.length : Int) then some false else Fw (Bi (Ew p0 p1) 0) fun _ => some true)
theorem JX (Y : Nat → Prop) (w0 : World) (v1 : Value) (v2 : Value) (p0 : List (Int × (Int × Int × Int × Int))) (p1 : List (Int × (Int × Int × Int × Int))) (r : Bool) (H : Gi p0 p1 = some r) (h_v1 : Sl w0 (NX []) DY v1 p0) (h_v2 : Sl w0 (NX []) DY v2 p1) :
    Calls Try.prog 16 #[v1, v2] w0 fun e w' => e = .returned (.bool r) ∧ Below w0.heap.size w0 w' := by
 refine enter Try.func16 Aa Try.ntmps16 Aa fun a F => ?_
 have W := Stw.start Y w0
 unfold Gi at H
 refine Ak (Ae ?_)
 refine ls F W Aa (Ag F Aa).q fun a w F W => ?_
 refine Af (Ad (Ak (Ak (Ae ?_))))
 refine ls F W Aa (Ah F Aa).q fun a w F W => ?_
 refine ls F W Aa (B6 (r := DY) (l := p0) Ll Aa F Aa (Aq h_v1)).q fun a w F W => ?_
 refine ls F W Aa (Ah F Aa).q fun a w F W => ?_
 refine ls F W Aa (B6 (r := DY) (l := p1) Ll Aa F Aa (Aq h_v2)).q fun a w F W => ?_
 refine ls F W Aa (E6 F Aa Aa).q fun a w F W => ?_
 refine Af (Ad ?_)
 refine AA F Aa (fun hb => ?_) fun hb => ?_
 ·
  have H := AM (Ba hb) H
  rw [hb] at F
  clear hb
  refine Ak (Ae ?_)
  refine ls F W Aa (Ag F Aa).q fun a w F W => ?_
  refine Af (Ad (Aw (AD ?_)))
  have H := AG H
  subst H
  refine AE (.inl Aa) F W Aa (Av F Aa) ?_
  exact ⟨rfl, W.done⟩
 have H := AL (A8 hb) H
 rw [hb] at F
 clear hb
 refine Ax (Ad ?_)
 obtain ⟨o1, G1, K1, L1⟩ := HR H
 refine AF (fun a w => some (Sum.inl ()) = some o1 ∧ Fr 26 [] [(4, .bool false)] a ∧ Stw ⟨Y, [], w0⟩ [] [] w) ?_ ?_
 ·
  have H := G1
  clear G1 K1
  refine Ak (Ae ?_)
  refine ls F W Aa (Ag F Aa).q fun a w F W => ?_
  refine Af (Ad (AC ?_))
  refine Bx H (fun s a w => Fr 26 [] [(0, v1), (1, v2), (4, .bool false), (5, .int .i64 s)] a ∧ Stw ⟨Y, [], w0⟩ [] [] w) ⟨F.re ⟨rfl, Aa, Aa, Aa, trivial⟩, W⟩ fun s o a w H L2 hR => ?_
  obtain ⟨x1, rfl⟩ : ∃ x, x = s := ⟨s, rfl⟩
  obtain ⟨F, W⟩ := hR
  have F : Fr 26 [] [(0, v1), (1, v2), (4, .bool false), (5, .int .i64 x1)] a := F
  have W : Stw ⟨Y, [], w0⟩ [] [] w := W
  rw [Ew] at H
  refine Ak (Ak (Ae ?_))
  iterate 2 refine ls F W Aa (Ah F Aa).q fun a w F W => ?_
  refine ls F W Aa (B6 (r := DY) (l := p0) Ll Aa F Aa (Aq h_v1)).q fun a w F W => ?_
  refine ls F W Aa (BM F Aa Aa).q fun a w F W => ?_
  refine Af (Ad ?_)
  refine AA F Aa (fun hb => ?_) fun hb => ?_
  ·
   have H := AM (Ba hb) H
   rw [hb] at F
   clear hb
   refine Ax (Ad (Ak (AC (Ak ?_))))
   refine Cq W MO (by kernel_rfl) ?_
   iterate 2 refine qs F Aa (Ah F Aa).q fun a F => ?_
   obtain ⟨x2, h1, H⟩ := Ao H
   refine qs F Aa (A1 (r := DY) MG F Aa Aa (Aq h_v1) h1).q fun a F => ?_
   refine qs F Aa (AR (y := Value.agg #[.int .i64 x2.1, .int .i64 x2.2.1, .int .i64 x2.2.2.1, .int .i64 x2.2.2.2.1, .int .i64 x2.2.2.2.2]) (j := 0) (i := x1) F Aa Aa (Aq h_v1) h1 M3.to Oh Aa).q fun a F => ?_
   iterate 2 refine qs F Aa (Ah F Aa).q fun a F => ?_
   obtain ⟨x3, h2, H⟩ := Ao H
   refine qs F Aa (A1 (r := DY) MG F Aa Aa (Aq h_v2) h2).q fun a F => ?_
   refine qs F Aa (AR (y := Value.agg #[.int .i64 x3.1, .int .i64 x3.2.1, .int .i64 x3.2.2.1, .int .i64 x3.2.2.2.1, .int .i64 x3.2.2.2.2]) (j := 0) (i := x1) F Aa Aa (Aq h_v2) h2 M3.to Oh Aa).q fun a F => ?_
   refine qs F Aa (LF (t := decide (x2.1 = x3.1 ∧ x2.2.1 = x3.2.1 ∧ x2.2.2.1 = x3.2.2.1 ∧ x2.2.2.2.1 = x3.2.2.2.1 ∧ x2.2.2.2.2 = x3.2.2.2.2)) OI (Pn _ _ _ _ _ _ _ _ _ _) F Aa Aa).q fun a F => ?_
   refine AY fun w W => ?_
   refine Ad ?_
   refine AA F Aa (fun hb => ?_) fun hb => ?_
   ·
    have H := AM hb H
    rw [hb] at F
    clear hb
    refine Ak (Ae ?_)
    refine ls F W Aa (Ag F Aa).q fun a w F W => ?_
    refine Af (Ad (Aw (AJ ?_)))
    iterate 2 refine AD ?_
    refine AJ (AD ?_)
    have H := L2 _ H
    have H := L1 _ H
    have H := AG H
    subst H
    refine AE (.inl Aa) F W Aa (Av F Aa) ?_
    exact ⟨rfl, W.done⟩
   have H := AL (by rw [hb]; decide) H
   rw [hb] at F
   clear hb
   refine Ax (AS (Ad (Ae ?_)))
   refine ls F W Aa (Ah F Aa).q fun a w F W => ?_
   refine ls F W Aa (Cf F Aa Aa Aa).q fun a w F W => ?_
   refine ls F W Aa (Ag F Aa).q fun a w F W => ?_
   refine Af (Ad ?_)
   exact ⟨_, H, F.re ⟨rfl, Aa, Aa, Aa, trivial⟩, W⟩
  have H := AL (A8 hb) H
  rw [hb] at F
  clear hb
  refine Bz ?_
  iterate 2 refine B1 ?_
  refine BA (Ad ?_)
  have H := L2 _ H
  exact ⟨H, F.re ⟨rfl, trivial⟩, W⟩
 rintro a w ⟨hj, F, W⟩
 have H := K1 _ hj
 clear hj G1 K1 L1
 refine Ak (Ae ?_)
 refine ls F W Aa (Ag F Aa).q fun a w F W => ?_
 refine Af (Ad (Aw ?_))
 have H := AG H
 subst H
 refine AE (.inl Aa) F W Aa (Av F Aa) ?_
 exact ⟨rfl, W.done⟩
theorem O4 : type_of% Try.underlying4 := Try.underlying4
theorem Pk : Has Try.prog 16 := ⟨fun args w => An Try.func16 rfl (by decide) args w⟩
noncomputable def Do (p0 : List (Int × (Int × (Int × Int × Int × Int) × (Int × Int × Int × Int)) × (List (Int × Int × Int)))) (p1 : Int) (p2 : Int) (p3 : Int) (p4 : Int × Int × Int × Int) : Option Bool := (FL p0).bind fun x1 => (if (!x1) = true then (DT).bind fun x2 => some x2 else ((EH p0 p1 p2).bind fun x4 => (EZ p0 p1 p2).bind fun x5 => (if x4 ≠ x5 then some true else (E5 p0 p0).bind fun x6 => some (!x6))).bind fun x3 => (if x3 = true then some false else ((EZ p0 p1 p2).bind fun x8 => (if (!x8) = true then some true else (FS p4).bind fun x9 => some (!x9))).bind fun x7 => (if x7 = true then (DT).bind fun x10 => some x10 else ((CY p0 p3 p4).bind fun x12 => (FE p0 p3 p4).bind fun x13 => (if x12 = x13 then (DS p0 p3 p4).bind fun x14 => (GS p0 p3 p4).bind fun x15 => (Gi x14 x15).bind fun x16 => (if x16 = true then (DT).bind fun x17 => some x17 else some false) else some false)).bind fun x11 => some x11)))
theorem Hj (Y : Nat → Prop) (w0 : World) (v1 : Value) (p0 : List (Int × (Int × (Int × Int × Int × Int) × (Int × Int × Int × Int)) × (List (Int × Int × Int)))) (p1 : Int) (p2 : Int) (p3 : Int) (p4 : Int × Int × Int × Int) (r : Bool) (H : Do p0 p1 p2 p3 p4 = some r) (h_v1 : Sl w0 (NX []) A2 v1 p0) :
    Calls Try.prog 3 #[v1, .int .i64 p1, .int .i64 p2, .int .i64 p3, .agg #[.int .i64 p4.1, .int .i64 p4.2.1, .int .i64 p4.2.2.1, .int .i64 p4.2.2.2]] w0 fun e w' => e = .returned (.bool r) ∧ Below w0.heap.size w0 w' := by
 refine enter Try.func3 Aa Try.ntmps3 Aa fun a F => ?_
 have W := Stw.start Y w0
 obtain ⟨v2, h1, h_v1⟩ := h_v1.ex Bd
 unfold Do at H
 refine Ak (Ae ?_)
 refine BT (cs := [.int .i64 p4.1, .int .i64 p4.2.1, .int .i64 p4.2.2.1, .int .i64 p4.2.2.2]) F W Aa Aa Aa fun b1 a w F W => ?_
 refine ls F W Aa (Ag F Aa).q fun a w F W => ?_
 refine Af (Ad (Ak (Ak (Ae ?_))))
 refine ls F W Aa (Ah F Aa).q fun a w F W => ?_
 obtain ⟨x1, h2, H⟩ := Ao H
 refine ls F W Aa (AQ (v := Value.bool x1) F H8 Aa (fun w W => JL any w (v1) p0 _ h2 (((AU Bd h1 (Aq h_v1)) : CB _ _ _ _ _ _) w W).nx)) fun a w F W => ?_
 refine ls F W Aa (Fm F Aa).q fun a w F W => ?_
 refine Af (Ad ?_)
 refine AA F Aa (fun hb => ?_) fun hb => ?_
 ·
  have H := AM hb H
  rw [hb] at F
  clear hb
  refine Ak (Ae ?_)
  obtain ⟨x2, h3, H⟩ := Ao H
  refine ls F W Aa (AQ (v := Value.bool x2) F H9 Aa (fun w W => Gm any w _ h3)) fun a w F W => ?_
  refine ls F W Aa (Ag F Aa).q fun a w F W => ?_
  refine Af (Ad (Aw (AD ?_)))
  have H := AG H
  subst H
  refine AE (.inl Aa) F W Aa (Av F Aa) ?_
  exact ⟨rfl, W.done⟩
 have H := AL (by rw [hb]; decide) H
 rw [hb] at F
 clear hb
 refine Ax (Ad (Ak ?_))
 obtain ⟨o1, G1, K1⟩ := Ao H
 refine AF (fun a w => ∃ x3 : Bool, some (x3) = some o1 ∧ Fr 64 [] [(0, v1), (1, .int .i64 p1), (2, .int .i64 p2), (3, .int .i64 p3), (9, .pointer (some ⟨b1, 0, none⟩)), (10, .bool false), (29, .bool x3)] a ∧ Stw ⟨Y, [], w0⟩ [(b1, [.int .i64 p4.1, .int .i64 p4.2.1, .int .i64 p4.2.2.1, .int .i64 p4.2.2.2])] [] w) ?_ ?_
 ·
  have H := G1
  clear G1 K1
  refine Ae ?_
  iterate 3 refine ls F W Aa (Ah F Aa).q fun a w F W => ?_
  obtain ⟨x4, h4, H⟩ := Ao H
  refine ls F W Aa (AQ (v := Value.bool x4) F Pp Aa (fun w W => Ix any w (v1) p0 p1 p2 _ h4 (((AU Bd h1 (Aq h_v1)) : CB _ _ _ _ _ _) w W).nx)) fun a w F W => ?_
  iterate 3 refine ls F W Aa (Ah F Aa).q fun a w F W => ?_
  obtain ⟨x5, h5, H⟩ := Ao H
  refine ls F W Aa (AQ (v := Value.bool x5) F Oa Aa (fun w W => Ho any w (v1) p0 p1 p2 _ h5 (((AU Bd h1 (Aq h_v1)) : CB _ _ _ _ _ _) w W).nx)) fun a w F W => ?_
  refine ls F W Aa (Ni O4 F Aa Aa).q fun a w F W => ?_
  refine ls F W Aa (Ah F Aa).q fun a w F W => ?_
  rcases Bool.eq_false_or_eq_true (decide (x4 ≠ x5)) with hb | hb
  ·
   have H := AM (Ba hb) H
   rw [hb] at F
   clear hb
   iterate 4 refine Cx F Aa Aa Aa Aa Aa Aa Aa fun a F => ?_
   refine ls F W Aa (Az F Aa Aa Aa).q fun a w F W => ?_
   refine Af (Ad ?_)
   exact ⟨_, H, F.re ⟨rfl, Aa, Aa, Aa, Aa, Aa, Aa, trivial⟩, W⟩
  have H := AL (A8 hb) H
  rw [hb] at F
  clear hb
  iterate 2 refine AK F W (Aj F Aa Aa Aa Aa) Aa (Ap Aa) (Ah F Aa).q fun a w F W => ?_
  refine F8 (Aj F Aa Aa Aa Aa) ?_
  obtain ⟨x6, h6, H⟩ := Ao H
  refine ls F W Aa (AQ (v := Value.bool x6) F Pf Aa (fun w W => Ji any w (v1) (v1) p0 p0 _ h6 (((AU Bd h1 (Aq h_v1)) : CB _ _ _ _ _ _) w W).nx (((AU Bd h1 (Aq h_v1)) : CB _ _ _ _ _ _) w W).nx)) fun a w F W => ?_
  refine AK F W (Aj F Aa Aa Aa Aa) Aa (Ap Aa) (Fm F Aa).q fun a w F W => ?_
  refine ls F W Aa (Au F Aa Aa Aa).q fun a w F W => ?_
  refine Af (Ad ?_)
  exact ⟨_, H, F.re ⟨rfl, Aa, Aa, Aa, Aa, Aa, Aa, trivial⟩, W⟩
 rintro a w ⟨x3, hj, F, W⟩
 have hj := AG hj
 subst hj
 have H := K1
 clear G1 K1
 refine AA F Aa (fun hb => ?_) fun hb => ?_
 ·
  have H := AM hb H
  rw [hb] at F
  clear hb
  refine Ak (Ae ?_)
  refine ls F W Aa (Ag F Aa).q fun a w F W => ?_
  refine Af (Ad (Aw (AD ?_)))
  have H := AG H
  subst H
  refine AE (.inl Aa) F W Aa (Av F Aa) ?_
  exact ⟨rfl, W.done⟩
 have H := AL (by rw [hb]; decide) H
 rw [hb] at F
 clear hb
 refine Ax (Ad (Ak ?_))
 obtain ⟨o2, G2, K2⟩ := Ao H
 refine AF (fun a w => ∃ x7 : Bool, some (x7) = some o2 ∧ Fr 64 [] [(0, v1), (3, .int .i64 p3), (9, .pointer (some ⟨b1, 0, none⟩)), (10, .bool false), (39, .bool x7)] a ∧ Stw ⟨Y, [], w0⟩ [(b1, [.int .i64 p4.1, .int .i64 p4.2.1, .int .i64 p4.2.2.1, .int .i64 p4.2.2.2])] [] w) ?_ ?_
 ·
  have H := G2
  clear G2 K2
  refine Ae ?_
  iterate 3 refine ls F W Aa (Ah F Aa).q fun a w F W => ?_
  obtain ⟨x8, h7, H⟩ := Ao H
  refine ls F W Aa (AQ (v := Value.bool x8) F Oa Aa (fun w W => Ho any w (v1) p0 p1 p2 _ h7 (((AU Bd h1 (Aq h_v1)) : CB _ _ _ _ _ _) w W).nx)) fun a w F W => ?_
  refine ls F W Aa (Fm F Aa).q fun a w F W => ?_
  refine ls F W Aa (Ah F Aa).q fun a w F W => ?_
  rcases Bool.eq_false_or_eq_true (!x8) with hb | hb
  ·
   have H := AM hb H
   rw [hb] at F
   clear hb
   iterate 3 refine Cx F Aa Aa Aa Aa Aa Aa Aa fun a F => ?_
   refine ls F W Aa (Az F Aa Aa Aa).q fun a w F W => ?_
   refine Af (Ad ?_)
   exact ⟨_, H, F.re ⟨rfl, Aa, Aa, Aa, Aa, trivial⟩, W⟩
  have H := AL (by rw [hb]; decide) H
  rw [hb] at F
  clear hb
  refine AK F W (Aj F Aa Aa Aa Aa) Aa (Ap Aa) (As (v := Value.agg #[.int .i64 p4.1, .int .i64 p4.2.1, .int .i64 p4.2.2.1, .int .i64 p4.2.2.2]) 0 F Aa Aa GD Aa).q fun a w F W => ?_
  refine F8 (Aj F Aa Aa Aa Aa) ?_
  obtain ⟨x9, h8, H⟩ := Ao H
  refine ls F W Aa (AQ (v := Value.bool x9) F Oz Aa (fun w W => Jo any w p4 _ h8)) fun a w F W => ?_
  refine AK F W (Aj F Aa Aa Aa Aa) Aa (Ap Aa) (Fm F Aa).q fun a w F W => ?_
  refine ls F W Aa (Au F Aa Aa Aa).q fun a w F W => ?_
  refine Af (Ad ?_)
  exact ⟨_, H, F.re ⟨rfl, Aa, Aa, Aa, Aa, trivial⟩, W⟩
 rintro a w ⟨x7, hj, F, W⟩
 have hj := AG hj
 subst hj
 have H := K2
 clear G2 K2
 refine AA F Aa (fun hb => ?_) fun hb => ?_
 ·
  have H := AM hb H
  rw [hb] at F
  clear hb
  refine Ak (Ae ?_)
  obtain ⟨x10, h9, H⟩ := Ao H
  refine ls F W Aa (AQ (v := Value.bool x10) F H9 Aa (fun w W => Gm any w _ h9)) fun a w F W => ?_
  refine ls F W Aa (Ag F Aa).q fun a w F W => ?_
  refine Af (Ad (Aw (AD ?_)))
  have H := AG H
  subst H
  refine AE (.inl Aa) F W Aa (Av F Aa) ?_
  exact ⟨rfl, W.done⟩
 have H := AL (by rw [hb]; decide) H
 rw [hb] at F
 clear hb
 refine Ax (Ad ?_)
 obtain ⟨o3, G3, K3⟩ := Ao H
 refine AF (fun a w => ∃ x11 : Bool, some (x11) = some o3 ∧ Fr 64 [] [(10, .bool x11)] a ∧ Stw ⟨Y, [], w0⟩ [(b1, [.int .i64 p4.1, .int .i64 p4.2.1, .int .i64 p4.2.2.1, .int .i64 p4.2.2.2])] [] w) ?_ ?_
 ·
  have H := G3
  clear G3 K3
  refine FN [(true, 0), (true, 1), (true, 2), (true, 4), (true, 5), (true, 6), (false, 3), (false, 7), (true, 8), (true, 9), (true, 10), (true, 11), (true, 12), (true, 14), (true, 15), (true, 16), (false, 13), (false, 17), (false, 18), (true, 19), (true, 20), (false, 21), (true, 22), (false, 23)] (CN ⟨Y, [], w0⟩ [(some 3, b1, [.int .i64 p4.1, .int .i64 p4.2.1, .int .i64 p4.2.2.1, .int .i64 p4.2.2.2]), (some 7, b1, [.int .i64 p4.1, .int .i64 p4.2.1, .int .i64 p4.2.2.1, .int .i64 p4.2.2.2])] []) (fun ch a d v w h => by cases d <;> exact h) MO (by kernel_rfl) W (fun w W => ⟨_, _, W, (all_cons (fun _ => (.head _)) (all_cons (fun _ => (.head _)) AB)), AB⟩) fun w W => ?_
  iterate 2 refine CO (R := []) F Aa Aa (yC fun M Z hN hZ => Ah F Aa) Aa Aa fun a F => ?_
  refine CO (R := [3]) F Aa Aa (yC fun M Z hN hZ => Dv (cs := [.int .i64 p4.1, .int .i64 p4.2.1, .int .i64 p4.2.2.1, .int .i64 p4.2.2.2]) (v := Value.agg #[.int .i64 p4.1, .int .i64 p4.2.1, .int .i64 p4.2.2.1, .int .i64 p4.2.2.2]) F Aa (hN ((some 3), b1, [.int .i64 p4.1, .int .i64 p4.2.1, .int .i64 p4.2.2.1, .int .i64 p4.2.2.2]) (.head _) Aa) GD Aa) (by kernel_rfl) Aa fun a F => ?_
  iterate 2 refine CO (R := []) F Aa Aa (yC fun M Z hN hZ => Ah F Aa) Aa Aa fun a F => ?_
  refine CO (R := [7]) F Aa Aa (yC fun M Z hN hZ => Dv (cs := [.int .i64 p4.1, .int .i64 p4.2.1, .int .i64 p4.2.2.1, .int .i64 p4.2.2.2]) (v := Value.agg #[.int .i64 p4.1, .int .i64 p4.2.1, .int .i64 p4.2.2.1, .int .i64 p4.2.2.2]) F Aa (hN ((some 7), b1, [.int .i64 p4.1, .int .i64 p4.2.1, .int .i64 p4.2.2.1, .int .i64 p4.2.2.2]) (.tail _ (.head _)) Aa) GD Aa) (by kernel_rfl) Aa fun a F => ?_
  refine Ds Aa ?_
  obtain ⟨x12, h10, H⟩ := Ao H
  refine ls F W Aa (AQ (v := Value.int .i64 x12) F NP Aa (fun w W => FT any w (v1) p0 p3 p4 _ h10 (((AU Bd h1 (Aq h_v1)) : CB _ _ _ _ _ _) w W).nx)) fun a w F W => ?_
  refine Bp (N2 := []) (NZ2 := []) (N3 := [(some 3, b1, [.int .i64 p4.1, .int .i64 p4.2.1, .int .i64 p4.2.2.1, .int .i64 p4.2.2.2]), (some 7, b1, [.int .i64 p4.1, .int .i64 p4.2.1, .int .i64 p4.2.2.1, .int .i64 p4.2.2.2])]) (NZ3 := []) W Aa Aa (all_cons (fun h => Ay (by kernel_rfl) h) (all_cons (fun _ => (.head _)) AB)) AB ?_
  refine Ds Aa ?_
  obtain ⟨x13, h11, H⟩ := Ao H
  refine ls F W Aa (AQ (v := Value.int .i64 x13) F Of Aa (fun w W => HS any w (v1) p0 p3 p4 _ h11 (((AU Bd h1 (Aq h_v1)) : CB _ _ _ _ _ _) w W).nx)) fun a w F W => ?_
  refine Bp (N2 := [(some 13, b1, [.int .i64 p4.1, .int .i64 p4.2.1, .int .i64 p4.2.2.1, .int .i64 p4.2.2.2]), (some 17, b1, [.int .i64 p4.1, .int .i64 p4.2.1, .int .i64 p4.2.2.1, .int .i64 p4.2.2.2])]) (NZ2 := []) (N3 := [(some 3, b1, [.int .i64 p4.1, .int .i64 p4.2.1, .int .i64 p4.2.2.1, .int .i64 p4.2.2.2]), (some 7, b1, [.int .i64 p4.1, .int .i64 p4.2.1, .int .i64 p4.2.2.1, .int .i64 p4.2.2.2]), (some 13, b1, [.int .i64 p4.1, .int .i64 p4.2.1, .int .i64 p4.2.2.1, .int .i64 p4.2.2.2]), (some 17, b1, [.int .i64 p4.1, .int .i64 p4.2.1, .int .i64 p4.2.2.1, .int .i64 p4.2.2.2])]) (NZ3 := []) W Aa Aa (all_cons (fun h => Ay (by kernel_rfl) h) (all_cons (fun h => Ay (by kernel_rfl) h) (all_cons (fun _ => (.head _)) (all_cons (fun _ => (.head _)) AB)))) AB ?_
  refine CO (R := []) F Aa Aa (yC fun M Z hN hZ => BL F Aa Aa) Aa Aa fun a F => ?_
  refine CO (R := []) F Aa Aa (yC fun M Z hN hZ => Ah F Aa) Aa Aa fun a F => ?_
  rcases Bool.eq_false_or_eq_true (decide (x12 = x13)) with hb | hb
  ·
   have H := AM (Ba hb) H
   rw [hb] at F
   clear hb
   iterate 2 refine L7 (R := []) F Aa (Aj F Aa Aa Aa Aa) Aa Aa (yC fun M Z hN hZ => Ah F Aa) Aa Aa fun a F => ?_
   refine L7 (R := [13]) F Aa (Aj F Aa Aa Aa Aa) Aa Aa (yC fun M Z hN hZ => Dv (cs := [.int .i64 p4.1, .int .i64 p4.2.1, .int .i64 p4.2.2.1, .int .i64 p4.2.2.2]) (v := Value.agg #[.int .i64 p4.1, .int .i64 p4.2.1, .int .i64 p4.2.2.1, .int .i64 p4.2.2.2]) F Aa (hN ((some 13), b1, [.int .i64 p4.1, .int .i64 p4.2.1, .int .i64 p4.2.2.1, .int .i64 p4.2.2.2]) (.tail _ (.tail _ (.head _))) Aa) GD Aa) (by kernel_rfl) Aa fun a F => ?_
   iterate 2 refine L7 (R := []) F Aa (Aj F Aa Aa Aa Aa) Aa Aa (yC fun M Z hN hZ => Ah F Aa) Aa Aa fun a F => ?_
   refine L7 (R := [17]) F Aa (Aj F Aa Aa Aa Aa) Aa Aa (yC fun M Z hN hZ => Dv (cs := [.int .i64 p4.1, .int .i64 p4.2.1, .int .i64 p4.2.2.1, .int .i64 p4.2.2.2]) (v := Value.agg #[.int .i64 p4.1, .int .i64 p4.2.1, .int .i64 p4.2.2.1, .int .i64 p4.2.2.2]) F Aa (hN ((some 17), b1, [.int .i64 p4.1, .int .i64 p4.2.1, .int .i64 p4.2.2.1, .int .i64 p4.2.2.2]) (.tail _ (.tail _ (.tail _ (.head _)))) Aa) GD Aa) (by kernel_rfl) Aa fun a F => ?_
   refine Ds Aa ?_
   refine F8 (Aj F Aa Aa Aa Aa) ?_
   obtain ⟨x14, h12, H⟩ := Ao H
   refine BE (Ml := []) (Zl := []) (M := [(b1, [.int .i64 p4.1, .int .i64 p4.2.1, .int .i64 p4.2.2.1, .int .i64 p4.2.2.2])]) (Z := []) (β := Value) (rv := fun x => x) (MM := fun x => []) (ZZ := fun x => [row x 64 DY x14]) F W Od Aa Aa (fun hL => Hp _ w (v1) p0 p3 p4 _ h12 ((AU Bd h1 (Aq h_v1)) w W).nx) fun x a w F W => ?_
   obtain ⟨v3, rfl⟩ : ∃ y, y = x := ⟨x, rfl⟩
   have W : Stw ⟨Y, [], w0⟩ [(b1, [.int .i64 p4.1, .int .i64 p4.2.1, .int .i64 p4.2.2.1, .int .i64 p4.2.2.2])] [row v3 64 DY x14] w := W
   refine Bp (N2 := []) (NZ2 := []) (N3 := [(some 3, b1, [.int .i64 p4.1, .int .i64 p4.2.1, .int .i64 p4.2.2.1, .int .i64 p4.2.2.2]), (some 7, b1, [.int .i64 p4.1, .int .i64 p4.2.1, .int .i64 p4.2.2.1, .int .i64 p4.2.2.2]), (some 13, b1, [.int .i64 p4.1, .int .i64 p4.2.1, .int .i64 p4.2.2.1, .int .i64 p4.2.2.2]), (some 17, b1, [.int .i64 p4.1, .int .i64 p4.2.1, .int .i64 p4.2.2.1, .int .i64 p4.2.2.2])]) (NZ3 := []) W Aa Aa (all_cons (fun h => Ay (by kernel_rfl) h) (all_cons (fun h => Ay (by kernel_rfl) h) (all_cons (fun h => Ay (by kernel_rfl) h) (all_cons (fun _ => (.head _)) AB)))) AB ?_
   refine Ds Aa ?_
   refine F8 (Aj F Aa Aa Aa Aa) ?_
   obtain ⟨x15, h13, H⟩ := Ao H
   refine BE (Ml := []) (Zl := []) (M := [(b1, [.int .i64 p4.1, .int .i64 p4.2.1, .int .i64 p4.2.2.1, .int .i64 p4.2.2.2])]) (Z := [row v3 64 DY x14]) (β := Value) (rv := fun x => x) (MM := fun x => []) (ZZ := fun x => [row x 64 DY x15]) F W Pu Aa Aa (fun hL => Kv _ w (v1) p0 p3 p4 _ h13 ((AU Bd h1 (Aq h_v1)) w W).nx) fun x a w F W => ?_
   obtain ⟨v4, rfl⟩ : ∃ y, y = x := ⟨x, rfl⟩
   have W : Stw ⟨Y, [], w0⟩ [(b1, [.int .i64 p4.1, .int .i64 p4.2.1, .int .i64 p4.2.2.1, .int .i64 p4.2.2.2])] [row v4 64 DY x15, row v3 64 DY x14] w := W
   refine Bp (N2 := []) (NZ2 := []) (N3 := [(some 3, b1, [.int .i64 p4.1, .int .i64 p4.2.1, .int .i64 p4.2.2.1, .int .i64 p4.2.2.2]), (some 7, b1, [.int .i64 p4.1, .int .i64 p4.2.1, .int .i64 p4.2.2.1, .int .i64 p4.2.2.2]), (some 13, b1, [.int .i64 p4.1, .int .i64 p4.2.1, .int .i64 p4.2.2.1, .int .i64 p4.2.2.2]), (some 17, b1, [.int .i64 p4.1, .int .i64 p4.2.1, .int .i64 p4.2.2.1, .int .i64 p4.2.2.2])]) (NZ3 := []) W Aa Aa (all_cons (fun h => Ay (by kernel_rfl) h) (all_cons (fun h => Ay (by kernel_rfl) h) (all_cons (fun h => Ay (by kernel_rfl) h) (all_cons (fun h => Ay (by kernel_rfl) h) AB)))) AB ?_
   refine Ds Aa ?_
   refine F8 (Aj F Aa Aa Aa Aa) ?_
   obtain ⟨x16, h14, H⟩ := Ao H
   refine ls F W Aa (AQ (v := Value.bool x16) F Pk Aa (fun w W => JX any w (v3) (v4) x14 x15 _ h14 (((A7 1 Aa) : CB _ _ _ _ _ _) w W).nx (((A7 0 Aa) : CB _ _ _ _ _ _) w W).nx)) fun a w F W => ?_
   refine Bp (N2 := []) (NZ2 := []) (N3 := [(some 3, b1, [.int .i64 p4.1, .int .i64 p4.2.1, .int .i64 p4.2.2.1, .int .i64 p4.2.2.2]), (some 7, b1, [.int .i64 p4.1, .int .i64 p4.2.1, .int .i64 p4.2.2.1, .int .i64 p4.2.2.2]), (some 13, b1, [.int .i64 p4.1, .int .i64 p4.2.1, .int .i64 p4.2.2.1, .int .i64 p4.2.2.2]), (some 17, b1, [.int .i64 p4.1, .int .i64 p4.2.1, .int .i64 p4.2.2.1, .int .i64 p4.2.2.2])]) (NZ3 := []) W Aa Aa (all_cons (fun h => Ay (by kernel_rfl) h) (all_cons (fun h => Ay (by kernel_rfl) h) (all_cons (fun h => Ay (by kernel_rfl) h) (all_cons (fun h => Ay (by kernel_rfl) h) AB)))) AB ?_
   refine CO (R := []) F Aa Aa (yC fun M Z hN hZ => Az F Aa Aa Aa) Aa Aa fun a F => ?_
   refine CO (R := []) F Aa Aa (yC fun M Z hN hZ => Ah F Aa) Aa Aa fun a F => ?_
   rcases Bool.eq_false_or_eq_true x16 with hb | hb
   ·
    have H := AM hb H
    rw [hb] at F
    clear hb
    refine Ds Aa ?_
    refine F8 (Aj F Aa Aa Aa Aa) ?_
    obtain ⟨x17, h15, H⟩ := Ao H
    refine ls F W Aa (AQ (v := Value.bool x17) F H9 Aa (fun w W => Gm any w _ h15)) fun a w F W => ?_
    refine Bp (N2 := []) (NZ2 := []) (N3 := [(some 3, b1, [.int .i64 p4.1, .int .i64 p4.2.1, .int .i64 p4.2.2.1, .int .i64 p4.2.2.2]), (some 7, b1, [.int .i64 p4.1, .int .i64 p4.2.1, .int .i64 p4.2.2.1, .int .i64 p4.2.2.2]), (some 13, b1, [.int .i64 p4.1, .int .i64 p4.2.1, .int .i64 p4.2.2.1, .int .i64 p4.2.2.2]), (some 17, b1, [.int .i64 p4.1, .int .i64 p4.2.1, .int .i64 p4.2.2.1, .int .i64 p4.2.2.2])]) (NZ3 := []) W Aa Aa (all_cons (fun h => Ay (by kernel_rfl) h) (all_cons (fun h => Ay (by kernel_rfl) h) (all_cons (fun h => Ay (by kernel_rfl) h) (all_cons (fun h => Ay (by kernel_rfl) h) AB)))) AB ?_
    refine CO (R := []) F Aa Aa (yC fun M Z hN hZ => Az F Aa Aa Aa) Aa Aa fun a F => ?_
    refine Ds Aa ?_
    refine ls F W Aa (Ag F Aa).q fun a w F W => ?_
    refine Bp (N2 := []) (NZ2 := []) (N3 := [(some 3, b1, [.int .i64 p4.1, .int .i64 p4.2.1, .int .i64 p4.2.2.1, .int .i64 p4.2.2.2]), (some 7, b1, [.int .i64 p4.1, .int .i64 p4.2.1, .int .i64 p4.2.2.1, .int .i64 p4.2.2.2]), (some 13, b1, [.int .i64 p4.1, .int .i64 p4.2.1, .int .i64 p4.2.2.1, .int .i64 p4.2.2.2]), (some 17, b1, [.int .i64 p4.1, .int .i64 p4.2.1, .int .i64 p4.2.2.1, .int .i64 p4.2.2.2])]) (NZ3 := []) W Aa Aa (all_cons (fun h => Ay (by kernel_rfl) h) (all_cons (fun h => Ay (by kernel_rfl) h) (all_cons (fun h => Ay (by kernel_rfl) h) (all_cons (fun h => Ay (by kernel_rfl) h) AB)))) AB ?_
    refine Gt (Ad ?_)
    have W := W.sub (M' := [(b1, [.int .i64 p4.1, .int .i64 p4.2.1, .int .i64 p4.2.2.1, .int .i64 p4.2.2.2])]) (Z' := []) (List.Sublist.refl _) (List.nil_sublist _)
    exact ⟨_, H, F.re ⟨rfl, trivial⟩, W⟩
   have H := AL (by rw [hb]; decide) H
   rw [hb] at F
   clear hb
   refine Ds Aa ?_
   refine Cx F Aa Aa Aa Aa Aa Aa Aa fun a F => ?_
   refine Bp (N2 := []) (NZ2 := []) (N3 := [(some 3, b1, [.int .i64 p4.1, .int .i64 p4.2.1, .int .i64 p4.2.2.1, .int .i64 p4.2.2.2]), (some 7, b1, [.int .i64 p4.1, .int .i64 p4.2.1, .int .i64 p4.2.2.1, .int .i64 p4.2.2.2]), (some 13, b1, [.int .i64 p4.1, .int .i64 p4.2.1, .int .i64 p4.2.2.1, .int .i64 p4.2.2.2]), (some 17, b1, [.int .i64 p4.1, .int .i64 p4.2.1, .int .i64 p4.2.2.1, .int .i64 p4.2.2.2])]) (NZ3 := []) W Aa Aa (all_cons (fun h => Ay (by kernel_rfl) h) (all_cons (fun h => Ay (by kernel_rfl) h) (all_cons (fun h => Ay (by kernel_rfl) h) (all_cons (fun h => Ay (by kernel_rfl) h) AB)))) AB ?_
   refine CO (R := []) F Aa Aa (yC fun M Z hN hZ => Au F Aa Aa Aa) Aa Aa fun a F => ?_
   refine Ds Aa ?_
   refine ls F W Aa (Ag F Aa).q fun a w F W => ?_
   refine Bp (N2 := []) (NZ2 := []) (N3 := [(some 3, b1, [.int .i64 p4.1, .int .i64 p4.2.1, .int .i64 p4.2.2.1, .int .i64 p4.2.2.2]), (some 7, b1, [.int .i64 p4.1, .int .i64 p4.2.1, .int .i64 p4.2.2.1, .int .i64 p4.2.2.2]), (some 13, b1, [.int .i64 p4.1, .int .i64 p4.2.1, .int .i64 p4.2.2.1, .int .i64 p4.2.2.2]), (some 17, b1, [.int .i64 p4.1, .int .i64 p4.2.1, .int .i64 p4.2.2.1, .int .i64 p4.2.2.2])]) (NZ3 := []) W Aa Aa (all_cons (fun h => Ay (by kernel_rfl) h) (all_cons (fun h => Ay (by kernel_rfl) h) (all_cons (fun h => Ay (by kernel_rfl) h) (all_cons (fun h => Ay (by kernel_rfl) h) AB)))) AB ?_
   refine Gt (Ad ?_)
   have W := W.sub (M' := [(b1, [.int .i64 p4.1, .int .i64 p4.2.1, .int .i64 p4.2.2.1, .int .i64 p4.2.2.2])]) (Z' := []) (List.Sublist.refl _) (List.nil_sublist _)
   exact ⟨_, H, F.re ⟨rfl, trivial⟩, W⟩
  have H := AL (A8 hb) H
  rw [hb] at F
  clear hb
  iterate 6 refine L9 F Aa (BC F Aa Aa Aa Aa Aa) Aa Aa Aa fun a F => ?_
  refine Ds Aa ?_
  refine Cx F Aa Aa Aa Aa Aa Aa Aa fun a F => ?_
  refine Bp (N2 := []) (NZ2 := []) (N3 := [(some 3, b1, [.int .i64 p4.1, .int .i64 p4.2.1, .int .i64 p4.2.2.1, .int .i64 p4.2.2.2]), (some 7, b1, [.int .i64 p4.1, .int .i64 p4.2.1, .int .i64 p4.2.2.1, .int .i64 p4.2.2.2]), (some 13, b1, [.int .i64 p4.1, .int .i64 p4.2.1, .int .i64 p4.2.2.1, .int .i64 p4.2.2.2]), (some 17, b1, [.int .i64 p4.1, .int .i64 p4.2.1, .int .i64 p4.2.2.1, .int .i64 p4.2.2.2])]) (NZ3 := []) W Aa Aa (all_cons (fun h => Ay (by kernel_rfl) h) (all_cons (fun h => Ay (by kernel_rfl) h) (all_cons (fun h => Ay (by kernel_rfl) h) (all_cons (fun _ => (.head _)) AB)))) AB ?_
  refine Ds Aa ?_
  refine Cx F Aa Aa Aa Aa Aa Aa Aa fun a F => ?_
  refine Bp (N2 := []) (NZ2 := []) (N3 := [(some 3, b1, [.int .i64 p4.1, .int .i64 p4.2.1, .int .i64 p4.2.2.1, .int .i64 p4.2.2.2]), (some 7, b1, [.int .i64 p4.1, .int .i64 p4.2.1, .int .i64 p4.2.2.1, .int .i64 p4.2.2.2]), (some 13, b1, [.int .i64 p4.1, .int .i64 p4.2.1, .int .i64 p4.2.2.1, .int .i64 p4.2.2.2]), (some 17, b1, [.int .i64 p4.1, .int .i64 p4.2.1, .int .i64 p4.2.2.1, .int .i64 p4.2.2.2])]) (NZ3 := []) W Aa Aa (all_cons (fun h => Ay (by kernel_rfl) h) (all_cons (fun h => Ay (by kernel_rfl) h) (all_cons (fun h => Ay (by kernel_rfl) h) (all_cons (fun h => Ay (by kernel_rfl) h) AB)))) AB ?_
  refine Ds Aa ?_
  refine Cx F Aa Aa Aa Aa Aa Aa Aa fun a F => ?_
  refine Bp (N2 := []) (NZ2 := []) (N3 := [(some 3, b1, [.int .i64 p4.1, .int .i64 p4.2.1, .int .i64 p4.2.2.1, .int .i64 p4.2.2.2]), (some 7, b1, [.int .i64 p4.1, .int .i64 p4.2.1, .int .i64 p4.2.2.1, .int .i64 p4.2.2.2]), (some 13, b1, [.int .i64 p4.1, .int .i64 p4.2.1, .int .i64 p4.2.2.1, .int .i64 p4.2.2.2]), (some 17, b1, [.int .i64 p4.1, .int .i64 p4.2.1, .int .i64 p4.2.2.1, .int .i64 p4.2.2.2])]) (NZ3 := []) W Aa Aa (all_cons (fun h => Ay (by kernel_rfl) h) (all_cons (fun h => Ay (by kernel_rfl) h) (all_cons (fun h => Ay (by kernel_rfl) h) (all_cons (fun h => Ay (by kernel_rfl) h) AB)))) AB ?_
  refine CO (R := []) F Aa Aa (yC fun M Z hN hZ => Au F Aa Aa Aa) Aa Aa fun a F => ?_
  refine CO (R := []) F Aa Aa (yC fun M Z hN hZ => Ah F Aa) Aa Aa fun a F => ?_
  refine Ds Aa ?_
  refine Cx F Aa Aa Aa Aa Aa Aa Aa fun a F => ?_
  refine Bp (N2 := []) (NZ2 := []) (N3 := [(some 3, b1, [.int .i64 p4.1, .int .i64 p4.2.1, .int .i64 p4.2.2.1, .int .i64 p4.2.2.2]), (some 7, b1, [.int .i64 p4.1, .int .i64 p4.2.1, .int .i64 p4.2.2.1, .int .i64 p4.2.2.2]), (some 13, b1, [.int .i64 p4.1, .int .i64 p4.2.1, .int .i64 p4.2.2.1, .int .i64 p4.2.2.2]), (some 17, b1, [.int .i64 p4.1, .int .i64 p4.2.1, .int .i64 p4.2.2.1, .int .i64 p4.2.2.2])]) (NZ3 := []) W Aa Aa (all_cons (fun h => Ay (by kernel_rfl) h) (all_cons (fun h => Ay (by kernel_rfl) h) (all_cons (fun h => Ay (by kernel_rfl) h) (all_cons (fun h => Ay (by kernel_rfl) h) AB)))) AB ?_
  refine CO (R := []) F Aa Aa (yC fun M Z hN hZ => Au F Aa Aa Aa) Aa Aa fun a F => ?_
  refine Ds Aa ?_
  refine ls F W Aa (Ag F Aa).q fun a w F W => ?_
  refine Bp (N2 := []) (NZ2 := []) (N3 := [(some 3, b1, [.int .i64 p4.1, .int .i64 p4.2.1, .int .i64 p4.2.2.1, .int .i64 p4.2.2.2]), (some 7, b1, [.int .i64 p4.1, .int .i64 p4.2.1, .int .i64 p4.2.2.1, .int .i64 p4.2.2.2]), (some 13, b1, [.int .i64 p4.1, .int .i64 p4.2.1, .int .i64 p4.2.2.1, .int .i64 p4.2.2.2]), (some 17, b1, [.int .i64 p4.1, .int .i64 p4.2.1, .int .i64 p4.2.2.1, .int .i64 p4.2.2.2])]) (NZ3 := []) W Aa Aa (all_cons (fun h => Ay (by kernel_rfl) h) (all_cons (fun h => Ay (by kernel_rfl) h) (all_cons (fun h => Ay (by kernel_rfl) h) (all_cons (fun h => Ay (by kernel_rfl) h) AB)))) AB ?_
  refine Gt (Ad ?_)
  exact ⟨_, H, F.re ⟨rfl, trivial⟩, W⟩
 rintro a w ⟨x11, hj, F, W⟩
 have hj := AG hj
 subst hj
 have H := K3
 clear G3 K3
 refine Aw ?_
 have H := AG H
 subst H
 refine AE (.inl Aa) F W Aa (Av F Aa) ?_
 exact ⟨rfl, W.done⟩
end Go.Proofs.Ytkjjioigbpkifaa
