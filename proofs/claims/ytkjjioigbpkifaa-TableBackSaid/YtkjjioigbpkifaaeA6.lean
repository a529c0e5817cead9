/- The functions of layer 11, En. Conditions: none. -/
import Derived.Test.YtkjjioigbpkifaaeA5
namespace Go.Proofs.Ytkjjioigbpkifaa
open Go Go.RowKit
set_option linter.unusedVariables false
set_option linter.unusedSimpArgs false
set_option maxRecDepth 20000
theorem PX : Has Try.prog 13 := ⟨fun args w => Am Try.func13 rfl (by decide) args w⟩
noncomputable def Fq (p0 : Int × (Int × Int × Int × Int) × (Int × Int × Int × Int)) (p2 : Int × Int × Int × Int) (x1 : Int) : Int → Option (Int ⊕ (Unit ⊕ (Int ⊕ (Unit ⊕ Bool))))
  | x2 => (if x2 < 8 then ((ix ([p0.2.2.1, p0.2.2.2.1, p0.2.2.2.2.1, p0.2.2.2.2.2] : List Int) x1).bind fun x4 => (E0 x4 x2).bind fun x5 => (if x5 = 1 then (ix ([p0.2.1.1, p0.2.1.2.1, p0.2.1.2.2.1, p0.2.1.2.2.2] : List Int) x1).bind fun x6 => (E0 x6 x2).bind fun x7 => (ix ([p2.1, p2.2.1, p2.2.2.1, p2.2.2.2] : List Int) x1).bind fun x8 => (E0 x8 x2).bind fun x9 => some (decide (x7 ≠ x9)) else some false)).bind fun x3 => (if x3 = true then some (.inr (.inr (.inr (.inr false)))) else some (.inl (CA (x2 + 1)))) else some (.inr (.inl ())))
noncomputable def Fs (p0 : Int × (Int × Int × Int × Int) × (Int × Int × Int × Int)) (p2 : Int × Int × Int × Int) : Int → Option (Int ⊕ (Unit ⊕ Bool))
  | x1 => (if x1 < 4 then Fp (Bk (Fq p0 p2 x1) 0) fun _ => some (.inl (CA (x1 + 1))) else some (.inr (.inl ())))
noncomputable def Gt (p0 : Int × (Int × Int × Int × Int) × (Int × Int × Int × Int)) (p1 : Int) (p2 : Int × Int × Int × Int) : Option Bool := (if (decide (p0.1 ≠ (-1)) && decide (p0.1 ≠ p1)) = true then some false else Fp (Bk (Fs p0 p2) 0) fun _ => some true)
theorem Kd (Y : Nat → Prop) (w0 : World)  (p0 : Int × (Int × Int × Int × Int) × (Int × Int × Int × Int)) (p1 : Int) (p2 : Int × Int × Int × Int) (r : Bool) (H : Gt p0 p1 p2 = some r)  :
    Calls Try.prog 38 #[.agg #[.int .i64 p0.1, .int .i64 p0.2.1.1, .int .i64 p0.2.1.2.1, .int .i64 p0.2.1.2.2.1, .int .i64 p0.2.1.2.2.2, .int .i64 p0.2.2.1, .int .i64 p0.2.2.2.1, .int .i64 p0.2.2.2.2.1, .int .i64 p0.2.2.2.2.2], .int .i64 p1, .agg #[.int .i64 p2.1, .int .i64 p2.2.1, .int .i64 p2.2.2.1, .int .i64 p2.2.2.2]] w0 fun e w' => e = .returned (.bool r) ∧ Below w0.heap.size w0 w' := by
 refine enter Try.func38 Aa Try.ntmps38 Aa fun a F => ?_
 have W := Stw.start Y w0
 unfold Gt at H
 refine Ak (Ae ?_)
 refine BS (cs := [.int .i64 p0.1, .int .i64 p0.2.1.1, .int .i64 p0.2.1.2.1, .int .i64 p0.2.1.2.2.1, .int .i64 p0.2.1.2.2.2, .int .i64 p0.2.2.1, .int .i64 p0.2.2.2.1, .int .i64 p0.2.2.2.2.1, .int .i64 p0.2.2.2.2.2]) F W Aa Aa Aa fun b1 a w F W => ?_
 refine BS (cs := [.int .i64 p2.1, .int .i64 p2.2.1, .int .i64 p2.2.2.1, .int .i64 p2.2.2.2]) F W Aa Aa Aa fun b2 a w F W => ?_
 refine ls F W Aa (Ag F Aa).q fun a w F W => ?_
 refine Af (Ad (Ak ?_))
 refine AH (fun a w => Fr 47 [] [(3, .pointer (some ⟨b1, 0, none⟩)), (5, .pointer (some ⟨b2, 0, none⟩)), (6, .bool false), (17, .bool (decide (p0.1 ≠ (-1)) && decide (p0.1 ≠ p1)))] a ∧ Stw ⟨Y, [], w0⟩ [(b2, [.int .i64 p2.1, .int .i64 p2.2.1, .int .i64 p2.2.2.1, .int .i64 p2.2.2.2]), (b1, [.int .i64 p0.1, .int .i64 p0.2.1.1, .int .i64 p0.2.1.2.1, .int .i64 p0.2.1.2.2.1, .int .i64 p0.2.1.2.2.2, .int .i64 p0.2.2.1, .int .i64 p0.2.2.2.1, .int .i64 p0.2.2.2.2.1, .int .i64 p0.2.2.2.2.2])] [] w) ?_ ?_
 ·
  refine Ae ?_
  refine ls F W Aa (Al CL Aa Aa Aa T3 F Aa 0 Aa).q fun a w F W => ?_
  refine ls F W Aa (As (v := Value.int .i64 p0.1) 1 F Aa Aa T3 Aa).q fun a w F W => ?_
  refine ls F W Aa (Eh F Aa Aa).q fun a w F W => ?_
  refine ls F W Aa (Ah F Aa).q fun a w F W => ?_
  rcases Bool.eq_false_or_eq_true (decide (p0.1 ≠ (-1))) with hb0 | hb0
  ·
   rw [hb0] at F
   refine AG F W (Ai F Aa Aa Aa Aa) Aa (Ao Aa) (Al CL Aa Aa Aa T3 F Aa 0 Aa).q fun a w F W => ?_
   refine AG F W (Ai F Aa Aa Aa Aa) Aa (Ao Aa) (As (v := Value.int .i64 p0.1) 1 F Aa Aa T3 Aa).q fun a w F W => ?_
   refine AG F W (Ai F Aa Aa Aa Aa) Aa (Ao Aa) (Ah F Aa).q fun a w F W => ?_
   refine AG F W (Ai F Aa Aa Aa Aa) Aa (Ao Aa) (Eh F Aa Aa).q fun a w F W => ?_
   refine ls F W Aa (Aw F Aa Aa Aa).q fun a w F W => ?_
   refine Af (Ad ?_)
   exact ⟨F.re ⟨rfl, Aa, Aa, (by show some (Value.bool (decide (p0.1 ≠ p1))) = some (Value.bool (decide (p0.1 ≠ (-1)) && decide (p0.1 ≠ p1))); try rw [hb0]; all_goals simp only [Bool.not_true, Bool.not_false, Bool.true_and, Bool.false_and, Bool.true_or, Bool.false_or, Bool.and_true, Bool.or_false, cond_true, cond_false]), trivial⟩, W⟩
  rw [hb0] at F
  iterate 4 refine Cs F Aa Aa Aa Aa Aa Aa Aa fun a F => ?_
  refine ls F W Aa (Aq F Aa Aa Aa).q fun a w F W => ?_
  refine Af (Ad ?_)
  exact ⟨F.re ⟨rfl, Aa, Aa, (by show some (Value.bool false) = some (Value.bool (decide (p0.1 ≠ (-1)) && decide (p0.1 ≠ p1))); try rw [hb0]; all_goals simp only [Bool.not_true, Bool.not_false, Bool.true_and, Bool.false_and, Bool.true_or, Bool.false_or, Bool.and_true, Bool.or_false, cond_true, cond_false]), trivial⟩, W⟩
 rintro a w ⟨F, W⟩
 refine AA F Aa (fun hb => ?_) fun hb => ?_
 ·
  have H := AK hb H
  rw [hb] at F
  clear hb
  refine Ak (Ae ?_)
  refine ls F W Aa (Ag F Aa).q fun a w F W => ?_
  refine Af (Ad (Ax (AD ?_)))
  have H := AL H
  subst H
  refine AF (.inl Aa) F W Aa (Av F Aa) ?_
  exact ⟨rfl, W.done⟩
 have H := AJ (by rw [hb]; decide) H
 rw [hb] at F
 clear hb
 refine Ay (Ad ?_)
 obtain ⟨o1, G1, K1, L1⟩ := HZ H
 refine AH (fun a w => some (Sum.inl ()) = some o1 ∧ Fr 47 [] [(6, .bool false)] a ∧ Stw ⟨Y, [], w0⟩ [(b2, [.int .i64 p2.1, .int .i64 p2.2.1, .int .i64 p2.2.2.1, .int .i64 p2.2.2.2]), (b1, [.int .i64 p0.1, .int .i64 p0.2.1.1, .int .i64 p0.2.1.2.1, .int .i64 p0.2.1.2.2.1, .int .i64 p0.2.1.2.2.2, .int .i64 p0.2.2.1, .int .i64 p0.2.2.2.1, .int .i64 p0.2.2.2.2.1, .int .i64 p0.2.2.2.2.2])] [] w) ?_ ?_
 ·
  have H := G1
  clear G1 K1
  refine Ak (Ae ?_)
  refine ls F W Aa (Ag F Aa).q fun a w F W => ?_
  refine Af (Ad (AC ?_))
  have W := W.frontM (i := 1) Aa Aa
  have W := W.frontM (i := 1) Aa Aa
  refine Bz H (fun s a w => Fr 47 [] [(3, .pointer (some ⟨b1, 0, none⟩)), (5, .pointer (some ⟨b2, 0, none⟩)), (6, .bool false), (7, .int .i64 s)] a ∧ Stw ⟨Y, [], w0⟩ [(b2, [.int .i64 p2.1, .int .i64 p2.2.1, .int .i64 p2.2.2.1, .int .i64 p2.2.2.2]), (b1, [.int .i64 p0.1, .int .i64 p0.2.1.1, .int .i64 p0.2.1.2.1, .int .i64 p0.2.1.2.2.1, .int .i64 p0.2.1.2.2.2, .int .i64 p0.2.2.1, .int .i64 p0.2.2.2.1, .int .i64 p0.2.2.2.2.1, .int .i64 p0.2.2.2.2.2])] [] w) ⟨F.re ⟨rfl, Aa, Aa, Aa, trivial⟩, W⟩ fun s o a w H L2 hR => ?_
  obtain ⟨x1, rfl⟩ : ∃ x, x = s := ⟨s, rfl⟩
  obtain ⟨F, W⟩ := hR
  have F : Fr 47 [] [(3, .pointer (some ⟨b1, 0, none⟩)), (5, .pointer (some ⟨b2, 0, none⟩)), (6, .bool false), (7, .int .i64 x1)] a := F
  have W : Stw ⟨Y, [], w0⟩ [(b2, [.int .i64 p2.1, .int .i64 p2.2.1, .int .i64 p2.2.2.1, .int .i64 p2.2.2.2]), (b1, [.int .i64 p0.1, .int .i64 p0.2.1.1, .int .i64 p0.2.1.2.1, .int .i64 p0.2.1.2.2.1, .int .i64 p0.2.1.2.2.2, .int .i64 p0.2.2.1, .int .i64 p0.2.2.2.1, .int .i64 p0.2.2.2.2.1, .int .i64 p0.2.2.2.2.2])] [] w := W
  rw [Fs] at H
  refine Ak (Ak (Ae ?_))
  refine ls F W Aa (Ah F Aa).q fun a w F W => ?_
  refine ls F W Aa (BN F Aa Aa).q fun a w F W => ?_
  refine Af (Ad ?_)
  refine AA F Aa (fun hb => ?_) fun hb => ?_
  ·
   have H := AK (Bi hb) H
   rw [hb] at F
   clear hb
   refine Ay (Ad ?_)
   obtain ⟨o3, G3, K3, L3⟩ := HZ H
   refine AH (fun a w => some (Sum.inl ()) = some o3 ∧ Fr 47 [] [(3, .pointer (some ⟨b1, 0, none⟩)), (5, .pointer (some ⟨b2, 0, none⟩)), (6, .bool false), (7, .int .i64 x1)] a ∧ Stw ⟨Y, [], w0⟩ [(b2, [.int .i64 p2.1, .int .i64 p2.2.1, .int .i64 p2.2.2.1, .int .i64 p2.2.2.2]), (b1, [.int .i64 p0.1, .int .i64 p0.2.1.1, .int .i64 p0.2.1.2.1, .int .i64 p0.2.1.2.2.1, .int .i64 p0.2.1.2.2.2, .int .i64 p0.2.2.1, .int .i64 p0.2.2.2.1, .int .i64 p0.2.2.2.2.1, .int .i64 p0.2.2.2.2.2])] [] w) ?_ ?_
   ·
    have H := G3
    clear G3 K3
    refine AC (Ak (Ae ?_))
    refine ls F W Aa (Ag F Aa).q fun a w F W => ?_
    refine Af (Ad (AC ?_))
    have W := W.frontM (i := 1) Aa Aa
    have W := W.frontM (i := 1) Aa Aa
    refine Bz H (fun s a w => Fr 47 [] [(3, .pointer (some ⟨b1, 0, none⟩)), (5, .pointer (some ⟨b2, 0, none⟩)), (6, .bool false), (7, .int .i64 x1), (8, .int .i64 s)] a ∧ Stw ⟨Y, [], w0⟩ [(b2, [.int .i64 p2.1, .int .i64 p2.2.1, .int .i64 p2.2.2.1, .int .i64 p2.2.2.2]), (b1, [.int .i64 p0.1, .int .i64 p0.2.1.1, .int .i64 p0.2.1.2.1, .int .i64 p0.2.1.2.2.1, .int .i64 p0.2.1.2.2.2, .int .i64 p0.2.2.1, .int .i64 p0.2.2.2.1, .int .i64 p0.2.2.2.2.1, .int .i64 p0.2.2.2.2.2])] [] w) ⟨F.re ⟨rfl, Aa, Aa, Aa, Aa, trivial⟩, W⟩ fun s o a w H L4 hR => ?_
    obtain ⟨x2, rfl⟩ : ∃ x, x = s := ⟨s, rfl⟩
    obtain ⟨F, W⟩ := hR
    have F : Fr 47 [] [(3, .pointer (some ⟨b1, 0, none⟩)), (5, .pointer (some ⟨b2, 0, none⟩)), (6, .bool false), (7, .int .i64 x1), (8, .int .i64 x2)] a := F
    have W : Stw ⟨Y, [], w0⟩ [(b2, [.int .i64 p2.1, .int .i64 p2.2.1, .int .i64 p2.2.2.1, .int .i64 p2.2.2.2]), (b1, [.int .i64 p0.1, .int .i64 p0.2.1.1, .int .i64 p0.2.1.2.1, .int .i64 p0.2.1.2.2.1, .int .i64 p0.2.1.2.2.2, .int .i64 p0.2.2.1, .int .i64 p0.2.2.2.1, .int .i64 p0.2.2.2.2.1, .int .i64 p0.2.2.2.2.2])] [] w := W
    rw [Fq] at H
    refine Ak (Ak (Ae ?_))
    refine ls F W Aa (Ah F Aa).q fun a w F W => ?_
    refine ls F W Aa (BN F Aa Aa).q fun a w F W => ?_
    refine Af (Ad ?_)
    refine AA F Aa (fun hb => ?_) fun hb => ?_
    ·
     have H := AK (Bi hb) H
     rw [hb] at F
     clear hb
     refine Ay (Ad (Ak (AC ?_)))
     obtain ⟨o5, G5, K5⟩ := Ap H
     refine AH (fun a w => ∃ x3 : Bool, some (x3) = some o5 ∧ Fr 47 [] [(3, .pointer (some ⟨b1, 0, none⟩)), (5, .pointer (some ⟨b2, 0, none⟩)), (6, .bool false), (7, .int .i64 x1), (8, .int .i64 x2), (46, .bool x3)] a ∧ Stw ⟨Y, [], w0⟩ [(b2, [.int .i64 p2.1, .int .i64 p2.2.1, .int .i64 p2.2.2.1, .int .i64 p2.2.2.2]), (b1, [.int .i64 p0.1, .int .i64 p0.2.1.1, .int .i64 p0.2.1.2.1, .int .i64 p0.2.1.2.2.1, .int .i64 p0.2.1.2.2.2, .int .i64 p0.2.2.1, .int .i64 p0.2.2.2.1, .int .i64 p0.2.2.2.2.1, .int .i64 p0.2.2.2.2.2])] [] w) ?_ ?_
     ·
      have H := G5
      clear G5 K5
      refine Ci W MO (by kernel_rfl) ?_
      refine qs F Aa (Ah F Aa).q fun a F => ?_
      refine qs F Aa (Al CL Aa Aa Aa Hd F Aa 5 Aa).q fun a F => ?_
      obtain ⟨x4, h1, H⟩ := Ap H
      refine qs F Aa (Bo (5 + (x1).toNat * 1) EE F Aa Aa Aa h1 Aa).q fun a F => ?_
      refine qs F Aa (As (v := Value.int .i64 x4) 1 F Aa Aa T3 (Cb (base := 5) (m := 4) (l := [p0.2.2.1, p0.2.2.2.1, p0.2.2.2.2.1, p0.2.2.2.2.2]) (enc := Value.int .i64) Aa h1)).q fun a F => ?_
      refine qs F Aa (Ah F Aa).q fun a F => ?_
      obtain ⟨x5, h2, H⟩ := Ap H
      refine qs F Aa (AY (v := Value.int .i64 x5) F N5 Aa (fun w W => FS any w x4 x2 _ h2)) fun a F => ?_
      refine qs F Aa (BJ F Aa Aa).q fun a F => ?_
      refine qs F Aa (Ah F Aa).q fun a F => ?_
      rcases Bool.eq_false_or_eq_true (decide (x5 = 1)) with hb | hb
      ·
       have H := AK (Bi hb) H
       rw [hb] at F
       clear hb
       refine BA F (Ai F Aa Aa Aa Aa) Aa (Ao Aa) (Ah F Aa).q fun a F => ?_
       refine BA F (Ai F Aa Aa Aa Aa) Aa (Ao Aa) (Al CL Aa Aa Aa Hd F Aa 1 Aa).q fun a F => ?_
       obtain ⟨x6, h3, H⟩ := Ap H
       refine BA F (Ai F Aa Aa Aa Aa) Aa (Ao Aa) (Bo (1 + (x1).toNat * 1) EE F Aa Aa Aa h3 Aa).q fun a F => ?_
       refine BA F (Ai F Aa Aa Aa Aa) Aa (Ao Aa) (As (v := Value.int .i64 x6) 1 F Aa Aa T3 (Cb (base := 1) (m := 4) (l := [p0.2.1.1, p0.2.1.2.1, p0.2.1.2.2.1, p0.2.1.2.2.2]) (enc := Value.int .i64) Aa h3)).q fun a F => ?_
       refine BA F (Ai F Aa Aa Aa Aa) Aa (Ao Aa) (Ah F Aa).q fun a F => ?_
       obtain ⟨x7, h4, H⟩ := Ap H
       refine BA F (Ai F Aa Aa Aa Aa) Aa (Ao Aa) (AY (v := Value.int .i64 x7) F N5 Aa (fun w W => FS any w x6 x2 _ h4)) fun a F => ?_
       refine BA F (Ai F Aa Aa Aa Aa) Aa (Ao Aa) (Ah F Aa).q fun a F => ?_
       obtain ⟨x8, h5, H⟩ := Ap H
       refine BA F (Ai F Aa Aa Aa Aa) Aa (Ao Aa) (Bo (0 + (x1).toNat * 1) Jg F Aa Aa Aa h5 Aa).q fun a F => ?_
       refine BA F (Ai F Aa Aa Aa Aa) Aa (Ao Aa) (As (v := Value.int .i64 x8) 0 F Aa Aa T3 (Cb (base := 0) (m := 4) (l := [p2.1, p2.2.1, p2.2.2.1, p2.2.2.2]) (enc := Value.int .i64) Aa h5)).q fun a F => ?_
       refine BA F (Ai F Aa Aa Aa Aa) Aa (Ao Aa) (Ah F Aa).q fun a F => ?_
       obtain ⟨x9, h6, H⟩ := Ap H
       refine BA F (Ai F Aa Aa Aa Aa) Aa (Ao Aa) (AY (v := Value.int .i64 x9) F N5 Aa (fun w W => FS any w x8 x2 _ h6)) fun a F => ?_
       refine BA F (Ai F Aa Aa Aa Aa) Aa (Ao Aa) (Eh F Aa Aa).q fun a F => ?_
       refine qs F Aa (Aw F Aa Aa Aa).q fun a F => ?_
       refine A9 fun w W => ?_
       refine Ad ?_
       have W := W.frontM (i := 1) Aa Aa
       have W := W.frontM (i := 1) Aa Aa
       exact ⟨_, H, F.re ⟨rfl, Aa, Aa, Aa, Aa, Aa, trivial⟩, W⟩
      have H := AJ (Bh hb) H
      rw [hb] at F
      clear hb
      iterate 12 refine B4 F (BK F Aa Aa Aa Aa Aa) Aa Aa fun a F => ?_
      refine qs F Aa (Aq F Aa Aa Aa).q fun a F => ?_
      refine A9 fun w W => ?_
      refine Ad ?_
      have W := W.frontM (i := 1) Aa Aa
      have W := W.frontM (i := 1) Aa Aa
      exact ⟨_, H, F.re ⟨rfl, Aa, Aa, Aa, Aa, Aa, trivial⟩, W⟩
     rintro a w ⟨x3, hj, F, W⟩
     have hj := AL hj
     subst hj
     have H := K5
     clear G5 K5
     refine AA F Aa (fun hb => ?_) fun hb => ?_
     ·
      have H := AK hb H
      rw [hb] at F
      clear hb
      refine Ak (Ae ?_)
      refine ls F W Aa (Ag F Aa).q fun a w F W => ?_
      refine Af (Ad (Ax (AO ?_)))
      iterate 2 refine AD ?_
      iterate 2 refine AO ?_
      iterate 2 refine AD ?_
      refine AO (AD ?_)
      have H := L4 _ H
      have H := L3 _ H
      have H := L2 _ H
      have H := L1 _ H
      have H := AL H
      subst H
      refine AF (.inl Aa) F W Aa (Av F Aa) ?_
      exact ⟨rfl, W.done⟩
     have H := AJ (by rw [hb]; decide) H
     rw [hb] at F
     clear hb
     refine Ay (A5 (Ad (Ae ?_)))
     refine ls F W Aa (Ah F Aa).q fun a w F W => ?_
     refine ls F W Aa (B7 F Aa Aa Aa).q fun a w F W => ?_
     refine ls F W Aa (Ag F Aa).q fun a w F W => ?_
     refine Af (Ad ?_)
     have W := W.frontM (i := 1) Aa Aa
     have W := W.frontM (i := 1) Aa Aa
     exact ⟨_, H, F.re ⟨rfl, Aa, Aa, Aa, Aa, trivial⟩, W⟩
    have H := AJ (Bh hb) H
    rw [hb] at F
    clear hb
    refine Bw ?_
    iterate 2 refine B3 ?_
    refine Bx (A5 (Ad ?_))
    have W := W.frontM (i := 1) Aa Aa
    have W := W.frontM (i := 1) Aa Aa
    have H := L4 _ H
    exact ⟨H, F.re ⟨rfl, Aa, Aa, Aa, trivial⟩, W⟩
   rintro a w ⟨hj, F, W⟩
   have H := K3 _ hj
   clear hj G3 K3 L3
   refine Ae ?_
   refine ls F W Aa (Ah F Aa).q fun a w F W => ?_
   refine ls F W Aa (B7 F Aa Aa Aa).q fun a w F W => ?_
   refine ls F W Aa (Ag F Aa).q fun a w F W => ?_
   refine Af (Ad ?_)
   have W := W.frontM (i := 1) Aa Aa
   have W := W.frontM (i := 1) Aa Aa
   exact ⟨_, H, F.re ⟨rfl, Aa, Aa, Aa, trivial⟩, W⟩
  have H := AJ (Bh hb) H
  rw [hb] at F
  clear hb
  refine Bw ?_
  iterate 2 refine B3 ?_
  refine Bx (Ad ?_)
  have W := W.frontM (i := 1) Aa Aa
  have W := W.frontM (i := 1) Aa Aa
  have H := L2 _ H
  exact ⟨H, F.re ⟨rfl, trivial⟩, W⟩
 rintro a w ⟨hj, F, W⟩
 have H := K1 _ hj
 clear hj G1 K1 L1
 refine Ak (Ae ?_)
 refine ls F W Aa (Ag F Aa).q fun a w F W => ?_
 refine Af (Ad (Ax ?_))
 have H := AL H
 subst H
 refine AF (.inl Aa) F W Aa (Av F Aa) ?_
 exact ⟨rfl, W.done⟩
theorem PR : Has Try.prog 38 := ⟨fun args w => Am Try.func38 rfl (by decide) args w⟩
noncomputable def EB (p0 : List (Int × (Int × (Int × Int × Int × Int) × (Int × Int × Int × Int)) × (List (Int × Int × Int)))) (p1 : Int) (p2 : Int × Int × Int × Int) : Int → Option (Int ⊕ (Unit ⊕ Int))
  | x1 => (if x1 < (p0.length : Int) then (ix p0 x1).bind fun x2 => (Gt x2.2.1 p1 p2).bind fun x3 => (if x3 = true then some (.inr (.inr x1)) else some (.inl (CA (x1 + 1)))) else some (.inr (.inl ())))
noncomputable def FT (p0 : List (Int × (Int × (Int × Int × Int × Int) × (Int × Int × Int × Int)) × (List (Int × Int × Int)))) (p1 : Int) (p2 : Int × Int × Int × Int) : Option Int := Fp (Bk (EB p0 p1 p2) 0) fun _ => some (-1)
theorem H6 (Y : Nat → Prop) (w0 : World) (v1 : Value) (p0 : List (Int × (Int × (Int × Int × Int × Int) × (Int × Int × Int × Int)) × (List (Int × Int × Int)))) (p1 : Int) (p2 : Int × Int × Int × Int) (r : Int) (H : FT p0 p1 p2 = some r) (h_v1 : Sl w0 (NX []) Bc v1 p0) :
    Calls Try.prog 15 #[v1, .int .i64 p1, .agg #[.int .i64 p2.1, .int .i64 p2.2.1, .int .i64 p2.2.2.1, .int .i64 p2.2.2.2]] w0 fun e w' => e = .returned (.int .i64 r) ∧ Below w0.heap.size w0 w' := by
 refine enter Try.func15 Aa Try.ntmps15 Aa fun a F => ?_
 have W := Stw.start Y w0
 obtain ⟨v2, h1, h_v1⟩ := h_v1.ex Bl
 unfold FT at H
 refine Ak (Ae ?_)
 refine BS (cs := [.int .i64 p2.1, .int .i64 p2.2.1, .int .i64 p2.2.2.1, .int .i64 p2.2.2.2]) F W Aa Aa Aa fun b1 a w F W => ?_
 refine ls F W Aa (Ag F Aa).q fun a w F W => ?_
 refine Af (Ad ?_)
 obtain ⟨o1, G1, K1, L1⟩ := HZ H
 refine AH (fun a w => some (Sum.inl ()) = some o1 ∧ Fr 23 [] [(6, .int .i64 0)] a ∧ Stw ⟨Y, [], w0⟩ [(b1, [.int .i64 p2.1, .int .i64 p2.2.1, .int .i64 p2.2.2.1, .int .i64 p2.2.2.2])] [] w) ?_ ?_
 ·
  have H := G1
  clear G1 K1
  refine Ak (Ae ?_)
  refine ls F W Aa (Ag F Aa).q fun a w F W => ?_
  refine Af (Ad (AC ?_))
  refine Bz H (fun s a w => Fr 23 [] [(0, v1), (1, .int .i64 p1), (5, .pointer (some ⟨b1, 0, none⟩)), (6, .int .i64 0), (7, .int .i64 s)] a ∧ Stw ⟨Y, [], w0⟩ [(b1, [.int .i64 p2.1, .int .i64 p2.2.1, .int .i64 p2.2.2.1, .int .i64 p2.2.2.2])] [] w) ⟨F.re ⟨rfl, Aa, Aa, Aa, Aa, trivial⟩, W⟩ fun s o a w H L2 hR => ?_
  obtain ⟨x1, rfl⟩ : ∃ x, x = s := ⟨s, rfl⟩
  obtain ⟨F, W⟩ := hR
  have F : Fr 23 [] [(0, v1), (1, .int .i64 p1), (5, .pointer (some ⟨b1, 0, none⟩)), (6, .int .i64 0), (7, .int .i64 x1)] a := F
  have W : Stw ⟨Y, [], w0⟩ [(b1, [.int .i64 p2.1, .int .i64 p2.2.1, .int .i64 p2.2.2.1, .int .i64 p2.2.2.2])] [] w := W
  rw [EB] at H
  refine Ak (Ak (Ae ?_))
  iterate 2 refine ls F W Aa (Ah F Aa).q fun a w F W => ?_
  refine ls F W Aa (B1 (r := Bc) (l := p0) DZ Aa F Aa (Be Bl h1 (Au h_v1))).q fun a w F W => ?_
  refine ls F W Aa (BN F Aa Aa).q fun a w F W => ?_
  refine Af (Ad ?_)
  refine AA F Aa (fun hb => ?_) fun hb => ?_
  ·
   have H := AK (Bi hb) H
   rw [hb] at F
   clear hb
   refine Ay (Ad (Ak (AC (Ak ?_))))
   refine Ci W MO (by kernel_rfl) ?_
   iterate 2 refine qs F Aa (Ah F Aa).q fun a F => ?_
   obtain ⟨x2, h2, H⟩ := Ap H
   obtain ⟨v3, h3, h4⟩ := CE h1 h2
   have h5 : B9 v3 = [.int .i64 x2.1, .int .i64 x2.2.1.1, .int .i64 x2.2.1.2.1.1, .int .i64 x2.2.1.2.1.2.1, .int .i64 x2.2.1.2.1.2.2.1, .int .i64 x2.2.1.2.1.2.2.2, .int .i64 x2.2.1.2.2.1, .int .i64 x2.2.1.2.2.2.1, .int .i64 x2.2.1.2.2.2.2.1, .int .i64 x2.2.1.2.2.2.2.2, (v3.2.2.1)] := congrArg (fun q : Int × (Int × (Int × Int × Int × Int) × (Int × Int × Int × Int)) × (List (Int × Int × Int)) => ([.int .i64 q.1, .int .i64 q.2.1.1, .int .i64 q.2.1.2.1.1, .int .i64 q.2.1.2.1.2.1, .int .i64 q.2.1.2.1.2.2.1, .int .i64 q.2.1.2.1.2.2.2, .int .i64 q.2.1.2.2.1, .int .i64 q.2.1.2.2.2.1, .int .i64 q.2.1.2.2.2.2.1, .int .i64 q.2.1.2.2.2.2.2, (v3.2.2.1)] : List Value)) h4
   refine qs F Aa (Bd (r := CM) Fh F Aa Aa (Au h_v1) h3).q fun a F => ?_
   refine qs F Aa (Al Ct Aa Aa Aa Ef F Aa (DS v1 + (x1).toNat * 11 + 1) Aa).q fun a F => ?_
   refine qs F Aa (A1 (y := Value.agg #[.int .i64 x2.2.1.1, .int .i64 x2.2.1.2.1.1, .int .i64 x2.2.1.2.1.2.1, .int .i64 x2.2.1.2.1.2.2.1, .int .i64 x2.2.1.2.1.2.2.2, .int .i64 x2.2.1.2.2.1, .int .i64 x2.2.1.2.2.2.1, .int .i64 x2.2.1.2.2.2.2.1, .int .i64 x2.2.1.2.2.2.2.2]) (j := 1) (i := x1) (enc := B9) F Aa Aa (Au h_v1) h3 D8 Ef (by rw [h5]; rfl)).q fun a F => ?_
   refine qs F Aa (Ah F Aa).q fun a F => ?_
   refine qs F Aa (As (v := Value.agg #[.int .i64 p2.1, .int .i64 p2.2.1, .int .i64 p2.2.2.1, .int .i64 p2.2.2.2]) 0 F Aa Aa GD Aa).q fun a F => ?_
   obtain ⟨x3, h6, H⟩ := Ap H
   refine qs F Aa (AY (v := Value.bool x3) F PR Aa (fun w W => Kd any w x2.2.1 p1 p2 _ h6)) fun a F => ?_
   refine A9 fun w W => ?_
   refine Ad ?_
   refine AA F Aa (fun hb => ?_) fun hb => ?_
   ·
    have H := AK hb H
    rw [hb] at F
    clear hb
    refine Ak (Ae ?_)
    refine ls F W Aa (Ah F Aa).q fun a w F W => ?_
    refine ls F W Aa (Ag F Aa).q fun a w F W => ?_
    refine Af (Ad (Ax (AO ?_)))
    iterate 2 refine AD ?_
    refine AO (AD ?_)
    have H := L2 _ H
    have H := L1 _ H
    have H := AL H
    subst H
    refine AF (.inl Aa) F W Aa (Av F Aa) ?_
    exact ⟨rfl, W.done⟩
   have H := AJ (by rw [hb]; decide) H
   rw [hb] at F
   clear hb
   refine Ay (A5 (Ad (Ae ?_)))
   refine ls F W Aa (Ah F Aa).q fun a w F W => ?_
   refine ls F W Aa (B7 F Aa Aa Aa).q fun a w F W => ?_
   refine ls F W Aa (Ag F Aa).q fun a w F W => ?_
   refine Af (Ad ?_)
   exact ⟨_, H, F.re ⟨rfl, Aa, Aa, Aa, Aa, trivial⟩, W⟩
  have H := AJ (Bh hb) H
  rw [hb] at F
  clear hb
  refine Bw ?_
  iterate 2 refine B3 ?_
  refine Bx (Ad ?_)
  have H := L2 _ H
  exact ⟨H, F.re ⟨rfl, trivial⟩, W⟩
 rintro a w ⟨hj, F, W⟩
 have H := K1 _ hj
 clear hj G1 K1 L1
 refine Ak (Ae ?_)
 refine ls F W Aa (Ag F Aa).q fun a w F W => ?_
 refine Af (Ad (Ax ?_))
 have H := AL H
 subst H
 refine AF (.inl Aa) F W Aa (Av F Aa) ?_
 exact ⟨rfl, W.done⟩
theorem OW : Has Try.prog 15 := ⟨fun args w => Am Try.func15 rfl (by decide) args w⟩
noncomputable def Gi (p0 : Int × Int × Int × Int) (p1 : Int) (p2 : Int) : Option (Int × Int × Int × Int) := (if (decide (0 ≤ p1) && (decide (p1 < 4) && (decide (0 ≤ p2) && decide (p2 ≤ (A8 p1))))) = true then (ix ([p0.1, p0.2.1, p0.2.2.1, p0.2.2.2] : List Int) p1).bind fun x5 => some ((if p1 = 0 then p2 else p0.1), (if p1 = 1 then p2 else p0.2.1), (if p1 = 2 then p2 else p0.2.2.1), (if p1 = 3 then p2 else p0.2.2.2)) else some (p0.1, p0.2.1, p0.2.2.1, p0.2.2.2)).bind fun (x1, x2, x3, x4) => some (x1, x2, x3, x4)
theorem Kp (Y : Nat → Prop) (w0 : World)  (p0 : Int × Int × Int × Int) (p1 : Int) (p2 : Int) (r : (Int × Int × Int × Int)) (H : Gi p0 p1 p2 = some r)  :
    Calls Try.prog 52 #[.agg #[.int .i64 p0.1, .int .i64 p0.2.1, .int .i64 p0.2.2.1, .int .i64 p0.2.2.2], .int .i64 p1, .int .i64 p2] w0 fun e w' => e = .returned (.agg #[.int .i64 r.1, .int .i64 r.2.1, .int .i64 r.2.2.1, .int .i64 r.2.2.2]) ∧ Below w0.heap.size w0 w' := by
 refine enter Try.func52 Aa Try.ntmps52 Aa fun a F => ?_
 have W := Stw.start Y w0
 unfold Gi at H
 refine Ak (Ae ?_)
 refine BS (cs := [.int .i64 p0.1, .int .i64 p0.2.1, .int .i64 p0.2.2.1, .int .i64 p0.2.2.2]) F W Aa Aa Aa fun b1 a w F W => ?_
 refine Cp (cs := [.int .i64 0, .int .i64 0, .int .i64 0, .int .i64 0]) F W Aa Oo Aa fun b2 a w F W => ?_
 refine Af (Ad ?_)
 obtain ⟨o1, G1, K1⟩ := Ap H
 refine AH (fun a w => ∃ x1 : Int, ∃ x2 : Int, ∃ x3 : Int, ∃ x4 : Int, some ((x1, x2, x3, x4)) = some o1 ∧ Fr 27 [] [(3, .pointer (some ⟨b1, 0, none⟩)), (6, .pointer (some ⟨b2, 0, none⟩))] a ∧ Stw ⟨Y, [], w0⟩ [(b2, [.int .i64 0, .int .i64 0, .int .i64 0, .int .i64 0]), (b1, [.int .i64 x1, .int .i64 x2, .int .i64 x3, .int .i64 x4])] [] w) ?_ ?_
 ·
  have H := G1
  clear G1 K1
  refine AH (fun a w => Fr 27 [] [(1, .int .i64 p1), (2, .int .i64 p2), (3, .pointer (some ⟨b1, 0, none⟩)), (6, .pointer (some ⟨b2, 0, none⟩)), (22, .bool (decide (0 ≤ p1) && (decide (p1 < 4) && (decide (0 ≤ p2) && decide (p2 ≤ (A8 p1))))))] a ∧ Stw ⟨Y, [], w0⟩ [(b2, [.int .i64 0, .int .i64 0, .int .i64 0, .int .i64 0]), (b1, [.int .i64 p0.1, .int .i64 p0.2.1, .int .i64 p0.2.2.1, .int .i64 p0.2.2.2])] [] w) ?_ ?_
  ·
   refine Ae ?_
   refine ls F W Aa (Ah F Aa).q fun a w F W => ?_
   refine ls F W Aa (D7 F Aa Aa).q fun a w F W => ?_
   refine ls F W Aa (Ah F Aa).q fun a w F W => ?_
   rcases Bool.eq_false_or_eq_true (decide (0 ≤ p1)) with hb0 | hb0
   ·
    rw [hb0] at F
    refine AG F W (Ai F Aa Aa Aa Aa) Aa (Ao Aa) (Ah F Aa).q fun a w F W => ?_
    refine AG F W (Ai F Aa Aa Aa Aa) Aa (Ao Aa) (BN F Aa Aa).q fun a w F W => ?_
    refine ls F W Aa (Aw F Aa Aa Aa).q fun a w F W => ?_
    refine ls F W Aa (Ah F Aa).q fun a w F W => ?_
    rcases Bool.eq_false_or_eq_true (decide (p1 < 4)) with hb1 | hb1
    ·
     rw [hb1] at F
     refine AG F W (Ai F Aa Aa Aa Aa) Aa (Ao Aa) (Ah F Aa).q fun a w F W => ?_
     refine AG F W (Ai F Aa Aa Aa Aa) Aa (Ao Aa) (D7 F Aa Aa).q fun a w F W => ?_
     refine ls F W Aa (Aw F Aa Aa Aa).q fun a w F W => ?_
     refine ls F W Aa (Ah F Aa).q fun a w F W => ?_
     rcases Bool.eq_false_or_eq_true (decide (0 ≤ p2)) with hb2 | hb2
     ·
      rw [hb2] at F
      iterate 2 refine AG F W (Ai F Aa Aa Aa Aa) Aa (Ao Aa) (Ah F Aa).q fun a w F W => ?_
      refine FD (Ai F Aa Aa Aa Aa) ?_
      refine ls F W Aa (AY (v := Value.int .i64 (A8 p1)) F N8 Aa (fun w W => FO any w p1 _ Aa)) fun a w F W => ?_
      refine AG F W (Ai F Aa Aa Aa Aa) Aa (Ao Aa) (He F Aa Aa).q fun a w F W => ?_
      refine ls F W Aa (Aw F Aa Aa Aa).q fun a w F W => ?_
      refine Af (Ad ?_)
      exact ⟨F.re ⟨rfl, Aa, Aa, Aa, (by show some (Value.bool (decide (p2 ≤ (A8 p1)))) = some (Value.bool (decide (0 ≤ p1) && (decide (p1 < 4) && (decide (0 ≤ p2) && decide (p2 ≤ (A8 p1)))))); try rw [hb0]; try rw [hb1]; try rw [hb2]; all_goals simp only [Bool.not_true, Bool.not_false, Bool.true_and, Bool.false_and, Bool.true_or, Bool.false_or, Bool.and_true, Bool.or_false, cond_true, cond_false]), trivial⟩, W⟩
     rw [hb2] at F
     iterate 4 refine Cs F Aa Aa Aa Aa Aa Aa Aa fun a F => ?_
     refine ls F W Aa (Aq F Aa Aa Aa).q fun a w F W => ?_
     refine Af (Ad ?_)
     exact ⟨F.re ⟨rfl, Aa, Aa, Aa, (by show some (Value.bool false) = some (Value.bool (decide (0 ≤ p1) && (decide (p1 < 4) && (decide (0 ≤ p2) && decide (p2 ≤ (A8 p1)))))); try rw [hb0]; try rw [hb1]; try rw [hb2]; all_goals simp only [Bool.not_true, Bool.not_false, Bool.true_and, Bool.false_and, Bool.true_or, Bool.false_or, Bool.and_true, Bool.or_false, cond_true, cond_false]), trivial⟩, W⟩
    rw [hb1] at F
    iterate 2 refine Cs F Aa Aa Aa Aa Aa Aa Aa fun a F => ?_
    refine ls F W Aa (Aq F Aa Aa Aa).q fun a w F W => ?_
    refine ls F W Aa (Ah F Aa).q fun a w F W => ?_
    iterate 4 refine Cs F Aa Aa Aa Aa Aa Aa Aa fun a F => ?_
    refine ls F W Aa (Aq F Aa Aa Aa).q fun a w F W => ?_
    refine Af (Ad ?_)
    exact ⟨F.re ⟨rfl, Aa, Aa, Aa, (by show some (Value.bool false) = some (Value.bool (decide (0 ≤ p1) && (decide (p1 < 4) && (decide (0 ≤ p2) && decide (p2 ≤ (A8 p1)))))); try rw [hb0]; try rw [hb1]; all_goals simp only [Bool.not_true, Bool.not_false, Bool.true_and, Bool.false_and, Bool.true_or, Bool.false_or, Bool.and_true, Bool.or_false, cond_true, cond_false]), trivial⟩, W⟩
   rw [hb0] at F
   iterate 2 refine Cs F Aa Aa Aa Aa Aa Aa Aa fun a F => ?_
   refine ls F W Aa (Aq F Aa Aa Aa).q fun a w F W => ?_
   refine ls F W Aa (Ah F Aa).q fun a w F W => ?_
   iterate 2 refine Cs F Aa Aa Aa Aa Aa Aa Aa fun a F => ?_
   refine ls F W Aa (Aq F Aa Aa Aa).q fun a w F W => ?_
   refine ls F W Aa (Ah F Aa).q fun a w F W => ?_
   iterate 4 refine Cs F Aa Aa Aa Aa Aa Aa Aa fun a F => ?_
   refine ls F W Aa (Aq F Aa Aa Aa).q fun a w F W => ?_
   refine Af (Ad ?_)
   exact ⟨F.re ⟨rfl, Aa, Aa, Aa, (by show some (Value.bool false) = some (Value.bool (decide (0 ≤ p1) && (decide (p1 < 4) && (decide (0 ≤ p2) && decide (p2 ≤ (A8 p1)))))); try rw [hb0]; all_goals simp only [Bool.not_true, Bool.not_false, Bool.true_and, Bool.false_and, Bool.true_or, Bool.false_or, Bool.and_true, Bool.or_false, cond_true, cond_false]), trivial⟩, W⟩
  rintro a w ⟨F, W⟩
  refine AA F Aa (fun hb => ?_) fun hb => ?_
  ·
   have H := AK hb H
   rw [hb] at F
   clear hb
   refine Ae ?_
   iterate 2 refine ls F W Aa (Ah F Aa).q fun a w F W => ?_
   obtain ⟨x5, h1, H⟩ := Ap H
   refine ls F W Aa (Bo (0 + (p1).toNat * 1) Jg F Aa Aa Aa h1 Aa).q fun a w F W => ?_
   refine DY (o := 0) (m := 4) (i := p1) (l := ([p0.1, p0.2.1, p0.2.2.1, p0.2.2.2] : List Int)) (x := x5) (cs := [.int .i64 p0.1, .int .i64 p0.2.1, .int .i64 p0.2.2.1, .int .i64 p0.2.2.2]) (cs' := [.int .i64 (if p1 = 0 then p2 else p0.1), .int .i64 (if p1 = 1 then p2 else p0.2.1), .int .i64 (if p1 = 2 then p2 else p0.2.2.1), .int .i64 (if p1 = 3 then p2 else p0.2.2.2)]) 1 F W Aa Aa Aa T3 Aa Aa Aa Aa h1 (by intro k hk hn; rw [hk]; match k, hn with | 0, _ => rfl | 1, _ => rfl | 2, _ => rfl | 3, _ => rfl | (z + 4), h => exact absurd h (by omega)) fun w W => ?_
   have W : Stw ⟨Y, [], w0⟩ [(b2, [.int .i64 0, .int .i64 0, .int .i64 0, .int .i64 0]), (b1, [.int .i64 (if p1 = 0 then p2 else p0.1), .int .i64 (if p1 = 1 then p2 else p0.2.1), .int .i64 (if p1 = 2 then p2 else p0.2.2.1), .int .i64 (if p1 = 3 then p2 else p0.2.2.2)])] [] w := W
   refine Af (Ad ?_)
   have W := W.frontM (i := 1) Aa Aa
   have W := W.frontM (i := 1) Aa Aa
   exact ⟨_, _, _, _, H, F.re ⟨rfl, Aa, trivial⟩, W⟩
  have H := AJ (by rw [hb]; decide) H
  rw [hb] at F
  clear hb
  refine Ay (Ad ?_)
  have W := W.frontM (i := 1) Aa Aa
  have W := W.frontM (i := 1) Aa Aa
  exact ⟨_, _, _, _, H, F.re ⟨rfl, Aa, trivial⟩, W⟩
 rintro a w ⟨x1, x2, x3, x4, hj, F, W⟩
 have hj := AL hj
 subst hj
 have H := K1
 clear G1 K1
 refine Ak (Ae ?_)
 refine ls F W Aa (As (v := Value.agg #[.int .i64 x1, .int .i64 x2, .int .i64 x3, .int .i64 x4]) 1 F Aa Aa GD Aa).q fun a w F W => ?_
 refine BB (vs := [.int .i64 x1, .int .i64 x2, .int .i64 x3, .int .i64 x4]) (M' := [(b2, [.int .i64 x1, .int .i64 x2, .int .i64 x3, .int .i64 x4]), (b1, [.int .i64 x1, .int .i64 x2, .int .i64 x3, .int .i64 x4])]) 0 F W Aa Aa Aa GD Aa Aa Aa Aa Aa fun w W => ?_
 refine Af (Ad (Ax ?_))
 have H := AL H
 subst H
 refine AF (.inl Aa) F W Aa (Ey 0 F Aa Aa GD Aa) ?_
 exact ⟨rfl, W.done⟩
theorem P7 : Has Try.prog 52 := ⟨fun args w => Am Try.func52 rfl (by decide) args w⟩
noncomputable def Fc (p0 : List (Int × Int × Int)) (p1 : Int × Int × Int × Int) : ((List (Int × (Int × Int × Int × Int))) × Int × Int × Int × Int × Int) → Option (((List (Int × (Int × Int × Int × Int))) × Int × Int × Int × Int × Int) ⊕ ((List (Int × (Int × Int × Int × Int))) × Int × Int × Int × Int))
  | (x6, x7, x8, x9, x10, x11) => (if x7 < (p0.length : Int) then (((ix p0 x7).bind fun x21 => (if x21.1 = 3 then some (p1.1, p1.2.1, p1.2.2.1, p1.2.2.2) else some (x8, x9, x10, x11))).bind fun (x17, x18, x19, x20) => ((ix p0 x7).bind fun x26 => (if x26.1 = 1 then (ix p0 x7).bind fun x27 => (ix p0 x7).bind fun x28 => (Gi (x17, x18, x19, x20) x27.2.1 x28.2.2).bind fun x29 => some (x29.1, x29.2.1, x29.2.2.1, x29.2.2.2) else some (x17, x18, x19, x20))).bind fun (x22, x23, x24, x25) => (ix p0 x7).bind fun x30 => (if x30.1 = 2 then (ix p0 x7).bind fun x31 => (J0 x6 ([(x31.2.2, (x22, x23, x24, x25))] : List (Int × (Int × Int × Int × Int)))).bind fun x32 => some (x32, x22, x23, x24, x25) else some (x6, x22, x23, x24, x25))).bind fun (x12, x13, x14, x15, x16) => some (.inl (x12, CA (x7 + 1), x13, x14, x15, x16)) else some (.inr (x6, x8, x9, x10, x11)))
noncomputable def F0 (p0 : List (Int × Int × Int)) (p1 : Int × Int × Int × Int) : Option (List (Int × (Int × Int × Int × Int))) := (Bk (Fc p0 p1) ([], 0, p1.1, p1.2.1, p1.2.2.1, p1.2.2.2)).bind fun (x1, x2, x3, x4, x5) => some x1
theorem I9 (Y : Nat → Prop) (w0 : World) (v1 : Value) (p0 : List (Int × Int × Int)) (p1 : Int × Int × Int × Int) (r : (List (Int × (Int × Int × Int × Int)))) (H : F0 p0 p1 = some r) (h_v1 : Sl w0 (NX []) Bu v1 p0) :
    Calls Try.prog 27 #[v1, .agg #[.int .i64 p1.1, .int .i64 p1.2.1, .int .i64 p1.2.2.1, .int .i64 p1.2.2.2]] w0 fun e w' => ∃ x : Value, e = .returned (x) ∧ Stw ⟨Y, [], w0⟩ [] [row (x) 64 DN r] w' := by
 refine enter Try.func27 Aa Try.ntmps27 Aa fun a F => ?_
 have W := Stw.start Y w0
 unfold F0 at H
 refine Ak (Ae ?_)
 refine BS (cs := [.int .i64 p1.1, .int .i64 p1.2.1, .int .i64 p1.2.2.1, .int .i64 p1.2.2.2]) F W Aa Aa Aa fun b1 a w F W => ?_
 refine ls F W Aa (Ag F Aa).q fun a w F W => ?_
 refine Af (Ad (Ak (Ae ?_)))
 refine ls F W Aa (Ag F Aa).q fun a w F W => ?_
 refine Af (Ad (Ak (Ae ?_)))
 refine ls F W Aa (As (v := Value.agg #[.int .i64 p1.1, .int .i64 p1.2.1, .int .i64 p1.2.2.1, .int .i64 p1.2.2.2]) 0 F Aa Aa GD Aa).q fun a w F W => ?_
 refine Cp (cs := [.int .i64 0, .int .i64 0, .int .i64 0, .int .i64 0]) F W Aa Oo Aa fun b2 a w F W => ?_
 refine BB (vs := [.int .i64 p1.1, .int .i64 p1.2.1, .int .i64 p1.2.2.1, .int .i64 p1.2.2.2]) (M' := [(b2, [.int .i64 p1.1, .int .i64 p1.2.1, .int .i64 p1.2.2.1, .int .i64 p1.2.2.2]), (b1, [.int .i64 p1.1, .int .i64 p1.2.1, .int .i64 p1.2.2.1, .int .i64 p1.2.2.2])]) 0 F W Aa Aa Aa GD Aa Aa Aa Aa Aa fun w W => ?_
 refine Af (Ad ?_)
 obtain ⟨o1, G1, K1⟩ := Ap H
 refine AH (fun a w => ∃ x1 : List (Int × (Int × Int × Int × Int)), ∃ x2 : Int, ∃ x3 : Int, ∃ x4 : Int, ∃ x5 : Int, ∃ v2 : Value, some ((x1, x2, x3, x4, x5)) = some o1 ∧ Fr 57 [] [(4, .slice none 0 0), (5, v2)] a ∧ Stw ⟨Y, [], w0⟩ [(b2, [.int .i64 p1.1, .int .i64 p1.2.1, .int .i64 p1.2.2.1, .int .i64 p1.2.2.2]), (b1, [.int .i64 x2, .int .i64 x3, .int .i64 x4, .int .i64 x5])] [row v2 64 DN x1] w) ?_ ?_
 ·
  have H := G1
  clear G1 K1
  refine Ak (Ae ?_)
  refine ls F W Aa (Ag F Aa).q fun a w F W => ?_
  refine Af (Ad (AC ?_))
  have W := W.nilRow 64 DN
  have W := W.frontM (i := 1) Aa Aa
  have W := W.frontM (i := 1) Aa Aa
  refine Bz H (fun s a w => ∃ v3 : Value, Fr 57 [] [(0, v1), (3, .pointer (some ⟨b1, 0, none⟩)), (4, .slice none 0 0), (5, v3), (6, .pointer (some ⟨b2, 0, none⟩)), (7, .int .i64 s.2.1)] a ∧ Stw ⟨Y, [], w0⟩ [(b2, [.int .i64 p1.1, .int .i64 p1.2.1, .int .i64 p1.2.2.1, .int .i64 p1.2.2.2]), (b1, [.int .i64 s.2.2.1, .int .i64 s.2.2.2.1, .int .i64 s.2.2.2.2.1, .int .i64 s.2.2.2.2.2])] [row v3 64 DN s.1] w) ⟨(Value.slice none 0 0), F.re ⟨rfl, Aa, Aa, Aa, Aa, Aa, trivial⟩, W⟩ fun s o a w H L2 hR => ?_
  obtain ⟨x6, x7, x8, x9, x10, x11⟩ := s
  obtain ⟨v3, F, W⟩ := hR
  have F : Fr 57 [] [(0, v1), (3, .pointer (some ⟨b1, 0, none⟩)), (4, .slice none 0 0), (5, v3), (6, .pointer (some ⟨b2, 0, none⟩)), (7, .int .i64 x7)] a := F
  have W : Stw ⟨Y, [], w0⟩ [(b2, [.int .i64 p1.1, .int .i64 p1.2.1, .int .i64 p1.2.2.1, .int .i64 p1.2.2.2]), (b1, [.int .i64 x8, .int .i64 x9, .int .i64 x10, .int .i64 x11])] [row v3 64 DN x6] w := W
  rw [Fc] at H
  refine Ak (Ak (Ae ?_))
  iterate 2 refine ls F W Aa (Ah F Aa).q fun a w F W => ?_
  refine ls F W Aa (B1 (r := Bu) (l := p0) Hs Aa F Aa (Au h_v1)).q fun a w F W => ?_
  refine ls F W Aa (BN F Aa Aa).q fun a w F W => ?_
  refine Af (Ad ?_)
  refine AA F Aa (fun hb => ?_) fun hb => ?_
  ·
   have H := AK (Bi hb) H
   rw [hb] at F
   clear hb
   refine Ay (Ad ?_)
   obtain ⟨o3, G3, K3⟩ := Ap H
   refine AH (fun a w => ∃ x12 : List (Int × (Int × Int × Int × Int)), ∃ x13 : Int, ∃ x14 : Int, ∃ x15 : Int, ∃ x16 : Int, ∃ v4 : Value, some ((x12, x13, x14, x15, x16)) = some o3 ∧ Fr 57 [] [(0, v1), (3, .pointer (some ⟨b1, 0, none⟩)), (4, .slice none 0 0), (5, v4), (6, .pointer (some ⟨b2, 0, none⟩)), (7, .int .i64 x7)] a ∧ Stw ⟨Y, [], w0⟩ [(b2, [.int .i64 p1.1, .int .i64 p1.2.1, .int .i64 p1.2.2.1, .int .i64 p1.2.2.2]), (b1, [.int .i64 x13, .int .i64 x14, .int .i64 x15, .int .i64 x16])] [row v4 64 DN x12] w) ?_ ?_
   ·
    have H := G3
    clear G3 K3
    refine AC ?_
    obtain ⟨o4, G4, K4⟩ := Ap H
    refine AH (fun a w => ∃ x17 : Int, ∃ x18 : Int, ∃ x19 : Int, ∃ x20 : Int, some ((x17, x18, x19, x20)) = some o4 ∧ Fr 57 [] [(0, v1), (3, .pointer (some ⟨b1, 0, none⟩)), (4, .slice none 0 0), (5, v3), (6, .pointer (some ⟨b2, 0, none⟩)), (7, .int .i64 x7)] a ∧ Stw ⟨Y, [], w0⟩ [(b2, [.int .i64 p1.1, .int .i64 p1.2.1, .int .i64 p1.2.2.1, .int .i64 p1.2.2.2]), (b1, [.int .i64 x17, .int .i64 x18, .int .i64 x19, .int .i64 x20])] [row v3 64 DN x6] w) ?_ ?_
    ·
     have H := G4
     clear G4 K4
     refine Ak (Ae ?_)
     iterate 2 refine ls F W Aa (Ah F Aa).q fun a w F W => ?_
     obtain ⟨x21, h1, H⟩ := Ap H
     refine ls F W Aa (Bd (r := Bu) Ke F Aa Aa (Au h_v1) h1).q fun a w F W => ?_
     refine ls F W Aa (Al Dk Aa Aa Aa T3 F Aa (DS v1 + (x7).toNat * 3) Aa).q fun a w F W => ?_
     refine ls F W Aa (A1 (y := Value.int .i64 x21.1) (j := 0) (i := x7) F Aa Aa (Au h_v1) h1 KV.to T3 Aa).q fun a w F W => ?_
     refine ls F W Aa (BJ F Aa Aa).q fun a w F W => ?_
     refine Af (Ad ?_)
     refine AA F Aa (fun hb => ?_) fun hb => ?_
     ·
      have H := AK (Bi hb) H
      rw [hb] at F
      clear hb
      refine Ae ?_
      refine ls F W Aa (As (v := Value.agg #[.int .i64 p1.1, .int .i64 p1.2.1, .int .i64 p1.2.2.1, .int .i64 p1.2.2.2]) 0 F Aa Aa GD Aa).q fun a w F W => ?_
      refine BB (vs := [.int .i64 p1.1, .int .i64 p1.2.1, .int .i64 p1.2.2.1, .int .i64 p1.2.2.2]) (M' := [(b2, [.int .i64 p1.1, .int .i64 p1.2.1, .int .i64 p1.2.2.1, .int .i64 p1.2.2.2]), (b1, [.int .i64 p1.1, .int .i64 p1.2.1, .int .i64 p1.2.2.1, .int .i64 p1.2.2.2])]) 1 F W Aa Aa Aa GD Aa Aa Aa Aa Aa fun w W => ?_
      refine Af (Ad ?_)
      have W := W.frontM (i := 1) Aa Aa
      have W := W.frontM (i := 1) Aa Aa
      exact ⟨_, _, _, _, H, F.re ⟨rfl, Aa, Aa, Aa, Aa, Aa, trivial⟩, W⟩
     have H := AJ (Bh hb) H
     rw [hb] at F
     clear hb
     refine Ay (Ad ?_)
     have W := W.frontM (i := 1) Aa Aa
     have W := W.frontM (i := 1) Aa Aa
     exact ⟨_, _, _, _, H, F.re ⟨rfl, Aa, Aa, Aa, Aa, Aa, trivial⟩, W⟩
    rintro a w ⟨x17, x18, x19, x20, hj, F, W⟩
    have hj := AL hj
    subst hj
    have H := K4
    clear G4 K4
    obtain ⟨o5, G5, K5⟩ := Ap H
    refine AH (fun a w => ∃ x22 : Int, ∃ x23 : Int, ∃ x24 : Int, ∃ x25 : Int, some ((x22, x23, x24, x25)) = some o5 ∧ Fr 57 [] [(0, v1), (3, .pointer (some ⟨b1, 0, none⟩)), (4, .slice none 0 0), (5, v3), (6, .pointer (some ⟨b2, 0, none⟩)), (7, .int .i64 x7)] a ∧ Stw ⟨Y, [], w0⟩ [(b2, [.int .i64 p1.1, .int .i64 p1.2.1, .int .i64 p1.2.2.1, .int .i64 p1.2.2.2]), (b1, [.int .i64 x22, .int .i64 x23, .int .i64 x24, .int .i64 x25])] [row v3 64 DN x6] w) ?_ ?_
    ·
     have H := G5
     clear G5 K5
     refine Ak (Ae ?_)
     iterate 2 refine ls F W Aa (Ah F Aa).q fun a w F W => ?_
     obtain ⟨x26, h2, H⟩ := Ap H
     refine ls F W Aa (Bd (r := Bu) Ke F Aa Aa (Au h_v1) h2).q fun a w F W => ?_
     refine ls F W Aa (Al Dk Aa Aa Aa T3 F Aa (DS v1 + (x7).toNat * 3) Aa).q fun a w F W => ?_
     refine ls F W Aa (A1 (y := Value.int .i64 x26.1) (j := 0) (i := x7) F Aa Aa (Au h_v1) h2 KV.to T3 Aa).q fun a w F W => ?_
     refine ls F W Aa (BJ F Aa Aa).q fun a w F W => ?_
     refine Af (Ad ?_)
     refine AA F Aa (fun hb => ?_) fun hb => ?_
     ·
      have H := AK (Bi hb) H
      rw [hb] at F
      clear hb
      refine FN 12 W MO (by kernel_rfl) ?_
      refine qs F Aa (As (v := Value.agg #[.int .i64 x17, .int .i64 x18, .int .i64 x19, .int .i64 x20]) 1 F Aa Aa GD Aa).q fun a F => ?_
      iterate 2 refine qs F Aa (Ah F Aa).q fun a F => ?_
      obtain ⟨x27, h3, H⟩ := Ap H
      refine qs F Aa (Bd (r := Bu) Ke F Aa Aa (Au h_v1) h3).q fun a F => ?_
      refine qs F Aa (Al Dk Aa Aa Aa T3 F Aa (DS v1 + (x7).toNat * 3 + 1) Aa).q fun a F => ?_
      refine qs F Aa (A1 (y := Value.int .i64 x27.2.1) (j := 1) (i := x7) F Aa Aa (Au h_v1) h3 KV.to T3 Aa).q fun a F => ?_
      iterate 2 refine qs F Aa (Ah F Aa).q fun a F => ?_
      obtain ⟨x28, h4, H⟩ := Ap H
      refine qs F Aa (Bd (r := Bu) Ke F Aa Aa (Au h_v1) h4).q fun a F => ?_
      refine qs F Aa (Al Dk Aa Aa Aa T3 F Aa (DS v1 + (x7).toNat * 3 + 2) Aa).q fun a F => ?_
      refine qs F Aa (A1 (y := Value.int .i64 x28.2.2) (j := 2) (i := x7) F Aa Aa (Au h_v1) h4 KV.to T3 Aa).q fun a F => ?_
      obtain ⟨x29, h5, H⟩ := Ap H
      refine qs F Aa (AY (v := Value.agg #[.int .i64 x29.1, .int .i64 x29.2.1, .int .i64 x29.2.2.1, .int .i64 x29.2.2.2]) F P7 Aa (fun w W => Kp any w (x17, x18, x19, x20) x27.2.1 x28.2.2 _ h5)) fun a F => ?_
      refine A9 fun w W => ?_
      refine BB (vs := [.int .i64 x29.1, .int .i64 x29.2.1, .int .i64 x29.2.2.1, .int .i64 x29.2.2.2]) (M' := [(b2, [.int .i64 p1.1, .int .i64 p1.2.1, .int .i64 p1.2.2.1, .int .i64 p1.2.2.2]), (b1, [.int .i64 x29.1, .int .i64 x29.2.1, .int .i64 x29.2.2.1, .int .i64 x29.2.2.2])]) 1 F W Aa Aa Aa GD Aa Aa Aa Aa Aa fun w W => ?_
      refine Af (Ad ?_)
      have W := W.frontM (i := 1) Aa Aa
      have W := W.frontM (i := 1) Aa Aa
      exact ⟨_, _, _, _, H, F.re ⟨rfl, Aa, Aa, Aa, Aa, Aa, trivial⟩, W⟩
     have H := AJ (Bh hb) H
     rw [hb] at F
     clear hb
     refine Ay (Ad ?_)
     have W := W.frontM (i := 1) Aa Aa
     have W := W.frontM (i := 1) Aa Aa
     exact ⟨_, _, _, _, H, F.re ⟨rfl, Aa, Aa, Aa, Aa, Aa, trivial⟩, W⟩
    rintro a w ⟨x22, x23, x24, x25, hj, F, W⟩
    have hj := AL hj
    subst hj
    have H := K5
    clear G5 K5
    refine Ak (Ae ?_)
    iterate 2 refine ls F W Aa (Ah F Aa).q fun a w F W => ?_
    obtain ⟨x30, h6, H⟩ := Ap H
    refine ls F W Aa (Bd (r := Bu) Ke F Aa Aa (Au h_v1) h6).q fun a w F W => ?_
    refine ls F W Aa (Al Dk Aa Aa Aa T3 F Aa (DS v1 + (x7).toNat * 3) Aa).q fun a w F W => ?_
    refine ls F W Aa (A1 (y := Value.int .i64 x30.1) (j := 0) (i := x7) F Aa Aa (Au h_v1) h6 KV.to T3 Aa).q fun a w F W => ?_
    refine ls F W Aa (BJ F Aa Aa).q fun a w F W => ?_
    refine Af (Ad ?_)
    refine AA F Aa (fun hb => ?_) fun hb => ?_
    ·
     have H := AK (Bi hb) H
     rw [hb] at F
     clear hb
     refine M0 8 [0] [1, 2, 3, 4, 5, 6, 7] (fun ch a d v w h => by cases d <;> exact h) W MO (by kernel_rfl) ?_
     refine hm F Aa Aa Aa fun a F => ?_
     refine NH ?_
     iterate 2 refine hs F Aa Aa Aa (Ah F Aa).q fun a F => ?_
     obtain ⟨x31, h7, H⟩ := Ap H
     refine hs F Aa Aa Aa (Bd (r := Bu) Ke F Aa Aa (Au h_v1) h7).q fun a F => ?_
     refine hs F Aa Aa Aa (Al Dk Aa Aa Aa T3 F Aa (DS v1 + (x7).toNat * 3 + 2) Aa).q fun a F => ?_
     refine hs F Aa Aa Aa (A1 (y := Value.int .i64 x31.2.2) (j := 2) (i := x7) F Aa Aa (Au h_v1) h7 KV.to T3 Aa).q fun a F => ?_
     refine hs F Aa Aa Aa (As (v := Value.agg #[.int .i64 x22, .int .i64 x23, .int .i64 x24, .int .i64 x25]) 1 F Aa Aa GD Aa).q fun a F => ?_
     refine hs F Aa Aa Aa (DI (v := Value.agg #[.int .i64 x31.2.2, .int .i64 x22, .int .i64 x23, .int .i64 x24, .int .i64 x25]) OZ F Aa Aa Aa).q fun a F => ?_
     refine Oc fun w W => ?_
     have W : Stw ⟨Y, [], w0⟩ [(b2, [.int .i64 p1.1, .int .i64 p1.2.1, .int .i64 p1.2.2.1, .int .i64 p1.2.2.2]), (b1, [.int .i64 x22, .int .i64 x23, .int .i64 x24, .int .i64 x25])] [row v3 64 DN x6] w := W
     refine IA (z := Value.agg #[.int .i64 0, .int .i64 0, .int .i64 0, .int .i64 0, .int .i64 0]) (cs := [.int .i64 x31.2.2, .int .i64 x22, .int .i64 x23, .int .i64 x24, .int .i64 x25]) DN ([(x31.2.2, (x22, x23, x24, x25))] : List (Int × (Int × Int × Int × Int))) F W Aa Nj O0 Aa Aa Aa Aa Aa Aa (N7.repL _ _ ([(x31.2.2, (x22, x23, x24, x25))] : List (Int × (Int × Int × Int × Int)))) fun v5 a w F W => ?_
     obtain ⟨x32, h8, H⟩ := Ap H
     refine Io (r := DN) (i := 1) F W Aa Nj Aa Aa Aa Aa (Kv W 0 Aa) h8 Aa fun v6 a w F W => ?_
     have W : Stw ⟨Y, [], w0⟩ [(b2, [.int .i64 p1.1, .int .i64 p1.2.1, .int .i64 p1.2.2.1, .int .i64 p1.2.2.2]), (b1, [.int .i64 x22, .int .i64 x23, .int .i64 x24, .int .i64 x25])] [row v6 64 DN x32, row v5 64 DN ([(x31.2.2, (x22, x23, x24, x25))] : List (Int × (Int × Int × Int × Int)))] w := W
     refine ls F W Aa (Ag F Aa).q fun a w F W => ?_
     refine Af (A5 (Ad ?_))
     have W := W.frontM (i := 1) Aa Aa
     have W := W.frontM (i := 1) Aa Aa
     have W := W.sub (M' := [(b2, [.int .i64 p1.1, .int .i64 p1.2.1, .int .i64 p1.2.2.1, .int .i64 p1.2.2.2]), (b1, [.int .i64 x22, .int .i64 x23, .int .i64 x24, .int .i64 x25])]) (Z' := [row v6 64 DN x32]) (List.Sublist.refl _) (List.Sublist.cons_cons _ (List.nil_sublist _))
     exact ⟨_, _, _, _, _, (v6), H, F.re ⟨rfl, Aa, Aa, Aa, Aa, Aa, trivial⟩, W⟩
    have H := AJ (Bh hb) H
    rw [hb] at F
    clear hb
    refine Ay (A5 (Ad ?_))
    have W := W.frontM (i := 1) Aa Aa
    have W := W.frontM (i := 1) Aa Aa
    exact ⟨_, _, _, _, _, (v3), H, F.re ⟨rfl, Aa, Aa, Aa, Aa, Aa, trivial⟩, W⟩
   rintro a w ⟨x12, x13, x14, x15, x16, v4, hj, F, W⟩
   have hj := AL hj
   subst hj
   have H := K3
   clear G3 K3
   refine Ae ?_
   refine ls F W Aa (Ah F Aa).q fun a w F W => ?_
   refine ls F W Aa (B7 F Aa Aa Aa).q fun a w F W => ?_
   refine ls F W Aa (Ag F Aa).q fun a w F W => ?_
   refine Af (Ad ?_)
   have W := W.frontM (i := 1) Aa Aa
   have W := W.frontM (i := 1) Aa Aa
   exact ⟨_, H, (v4), F.re ⟨rfl, Aa, Aa, Aa, Aa, Aa, trivial⟩, W⟩
  have H := AJ (Bh hb) H
  rw [hb] at F
  clear hb
  refine Bw ?_
  iterate 2 refine B3 ?_
  refine Bx (Ad ?_)
  have W := W.frontM (i := 1) Aa Aa
  have W := W.frontM (i := 1) Aa Aa
  have H := L2 _ H
  exact ⟨_, _, _, _, _, (v3), H, F.re ⟨rfl, Aa, trivial⟩, W⟩
 rintro a w ⟨x1, x2, x3, x4, x5, v2, hj, F, W⟩
 have hj := AL hj
 subst hj
 have H := K1
 clear G1 K1
 refine Ak (Ae ?_)
 refine ls F W Aa (Ah F Aa).q fun a w F W => ?_
 refine ls F W Aa (Ag F Aa).q fun a w F W => ?_
 refine Af (Ad (Ax ?_))
 have H := AL H
 subst H
 refine AF (.inl Aa) F W Aa (Av F Aa) ?_
 have W := W.sub (M' := []) (Z' := [row v2 64 DN x1]) (List.nil_sublist _) (List.Sublist.refl _)
 exact ⟨(v2), Aa, W⟩
theorem O6 : Has Try.prog 27 := ⟨fun args w => Am Try.func27 rfl (by decide) args w⟩
noncomputable def GF (p0 : List (Int × (Int × (Int × Int × Int × Int) × (Int × Int × Int × Int)) × (List (Int × Int × Int)))) (p1 : Int) (p2 : Int × Int × Int × Int) : Option (List (Int × (Int × Int × Int × Int))) := (FT p0 p1 p2).bind fun x1 => (if x1 = (-1) then some ([] : List (Int × (Int × Int × Int × Int))) else (ix p0 x1).bind fun x2 => (F0 x2.2.2 p2).bind fun x3 => some x3)
theorem La (Y : Nat → Prop) (w0 : World) (v1 : Value) (p0 : List (Int × (Int × (Int × Int × Int × Int) × (Int × Int × Int × Int)) × (List (Int × Int × Int)))) (p1 : Int) (p2 : Int × Int × Int × Int) (r : (List (Int × (Int × Int × Int × Int)))) (H : GF p0 p1 p2 = some r) (h_v1 : Sl w0 (NX []) Bc v1 p0) :
    Calls Try.prog 18 #[v1, .int .i64 p1, .agg #[.int .i64 p2.1, .int .i64 p2.2.1, .int .i64 p2.2.2.1, .int .i64 p2.2.2.2]] w0 fun e w' => ∃ x : Value, e = .returned (x) ∧ Stw ⟨Y, [], w0⟩ [] [row (x) 64 DN r] w' := by
 refine enter Try.func18 Aa Try.ntmps18 Aa fun a F => ?_
 have W := Stw.start Y w0
 obtain ⟨v2, h1, h_v1⟩ := h_v1.ex Bl
 unfold GF at H
 refine Ak (Ae ?_)
 refine BS (cs := [.int .i64 p2.1, .int .i64 p2.2.1, .int .i64 p2.2.2.1, .int .i64 p2.2.2.2]) F W Aa Aa Aa fun b1 a w F W => ?_
 refine ls F W Aa (Ag F Aa).q fun a w F W => ?_
 refine Af (Ad (Ak (Ae ?_)))
 iterate 2 refine ls F W Aa (Ah F Aa).q fun a w F W => ?_
 refine ls F W Aa (As (v := Value.agg #[.int .i64 p2.1, .int .i64 p2.2.1, .int .i64 p2.2.2.1, .int .i64 p2.2.2.2]) 0 F Aa Aa GD Aa).q fun a w F W => ?_
 obtain ⟨x1, h2, H⟩ := Ap H
 refine ls F W Aa (AY (v := Value.int .i64 x1) F OW Aa (fun w W => H6 any w (v1) p0 p1 p2 _ h2 (((Be Bl h1 (Au h_v1)) : CV _ _ _ _ _ _) w W).nx)) fun a w F W => ?_
 refine ls F W Aa (Ag F Aa).q fun a w F W => ?_
 refine Af (Ad (Ak (Ak (Ae ?_))))
 refine ls F W Aa (Ah F Aa).q fun a w F W => ?_
 refine ls F W Aa (BJ F Aa Aa).q fun a w F W => ?_
 refine Af (Ad ?_)
 refine AA F Aa (fun hb => ?_) fun hb => ?_
 ·
  have H := AK (Bi hb) H
  rw [hb] at F
  clear hb
  refine Ak (Ae ?_)
  refine ls F W Aa (Ag F Aa).q fun a w F W => ?_
  refine Af (Ad (Ax (AD ?_)))
  have H := AL H
  subst H
  refine AF (.inl Aa) F W Aa (Av F Aa) ?_
  have W := W.nilRow 64 DN
  have W := W.sub (M' := []) (Z' := [row (Value.slice none 0 0) 64 DN ([])]) (List.nil_sublist _) (List.Sublist.refl _)
  exact ⟨(Value.slice none 0 0), Aa, W⟩
 have H := AJ (Bh hb) H
 rw [hb] at F
 clear hb
 refine Ay (Ad (Ak ?_))
 refine FN 6 W MO (by kernel_rfl) ?_
 iterate 2 refine qs F Aa (Ah F Aa).q fun a F => ?_
 obtain ⟨x2, h3, H⟩ := Ap H
 obtain ⟨v3, h4, h5⟩ := CE h1 h3
 have h6 : B9 v3 = [.int .i64 x2.1, .int .i64 x2.2.1.1, .int .i64 x2.2.1.2.1.1, .int .i64 x2.2.1.2.1.2.1, .int .i64 x2.2.1.2.1.2.2.1, .int .i64 x2.2.1.2.1.2.2.2, .int .i64 x2.2.1.2.2.1, .int .i64 x2.2.1.2.2.2.1, .int .i64 x2.2.1.2.2.2.2.1, .int .i64 x2.2.1.2.2.2.2.2, (v3.2.2.1)] := congrArg (fun q : Int × (Int × (Int × Int × Int × Int) × (Int × Int × Int × Int)) × (List (Int × Int × Int)) => ([.int .i64 q.1, .int .i64 q.2.1.1, .int .i64 q.2.1.2.1.1, .int .i64 q.2.1.2.1.2.1, .int .i64 q.2.1.2.1.2.2.1, .int .i64 q.2.1.2.1.2.2.2, .int .i64 q.2.1.2.2.1, .int .i64 q.2.1.2.2.2.1, .int .i64 q.2.1.2.2.2.2.1, .int .i64 q.2.1.2.2.2.2.2, (v3.2.2.1)] : List Value)) h5
 refine qs F Aa (Bd (r := CM) Fh F Aa Aa (Au h_v1) h4).q fun a F => ?_
 refine qs F Aa (Al Ct Aa Aa Aa Hr F Aa (DS v1 + (x1).toNat * 11 + 10) Aa).q fun a F => ?_
 refine qs F Aa (A1 (y := (v3.2.2.1)) (j := 10) (i := x1) (enc := B9) F Aa Aa (Au h_v1) h4 D8 Hr (by rw [h6]; rfl)).q fun a F => ?_
 refine qs F Aa (As (v := Value.agg #[.int .i64 p2.1, .int .i64 p2.2.1, .int .i64 p2.2.2.1, .int .i64 p2.2.2.2]) 0 F Aa Aa GD Aa).q fun a F => ?_
 refine A9 fun w W => ?_
 obtain ⟨x3, h7, H⟩ := Ap H
 refine Bp (Ml := []) (Zl := []) (M := [(b1, [.int .i64 p2.1, .int .i64 p2.2.1, .int .i64 p2.2.2.1, .int .i64 p2.2.2.2])]) (Z := []) (β := Value) (rv := fun x => x) (MM := fun x => []) (ZZ := fun x => [row x 64 DN x3]) F W O6 Aa Aa (fun hL => I9 _ w ((v3.2.2.1)) x2.2.2 p2 _ h7 ((DU (Au h_v1) h4 (BC.snd (BC.snd BC.here)) (congrArg (fun q : Int × (Int × (Int × Int × Int × Int) × (Int × Int × Int × Int)) × (List (Int × Int × Int)) => q.2.2) h5)) w W).nx) fun x a w F W => ?_
 obtain ⟨v4, rfl⟩ : ∃ y, y = x := ⟨x, rfl⟩
 have W : Stw ⟨Y, [], w0⟩ [(b1, [.int .i64 p2.1, .int .i64 p2.2.1, .int .i64 p2.2.2.1, .int .i64 p2.2.2.2])] [row v4 64 DN x3] w := W
 refine ls F W Aa (Ag F Aa).q fun a w F W => ?_
 refine Af (Ad (Ax ?_))
 have H := AL H
 subst H
 refine AF (.inl Aa) F W Aa (Av F Aa) ?_
 have W := W.sub (M' := []) (Z' := [row v4 64 DN x3]) (List.nil_sublist _) (List.Sublist.refl _)
 exact ⟨(v4), Aa, W⟩
theorem PL : Has Try.prog 18 := ⟨fun args w => Am Try.func18 rfl (by decide) args w⟩
theorem Pf : Ty Try.prog 64 true 5 := ⟨by kernel_rfl, by kernel_rfl⟩
theorem OQ (d : Nat) (x0 x1 x2 x3 y0 y1 y2 y3 : Int) (w : World) : (Op.equalIn (d + 2) 24 (.agg #[.int .i64 x0, .int .i64 x1, .int .i64 x2, .int .i64 x3]) (.agg #[.int .i64 y0, .int .i64 y1, .int .i64 y2, .int .i64 y3])).run Try.prog w = .ok (decide (x0 = y0 ∧ x1 = y1 ∧ x2 = y2 ∧ x3 = y3)) w :=
  (LH (d := d) (k := .i64) Jg M4 T3 [x0, x1, x2, x3] [y0, y1, y2, y3] rfl rfl w).trans (by congr 1; exact decide_eq_decide.2 (by simp))
theorem OL (dd : Nat) (x0 : Int) (x1 : Int) (x2 : Int) (x3 : Int) (x4 : Int) (y0 : Int) (y1 : Int) (y2 : Int) (y3 : Int) (y4 : Int) (w : World) : (Op.equalIn (dd + 3) 64 (.agg #[.int .i64 x0, .int .i64 x1, .int .i64 x2, .int .i64 x3, .int .i64 x4]) (.agg #[.int .i64 y0, .int .i64 y1, .int .i64 y2, .int .i64 y3, .int .i64 y4])).run Try.prog w = .ok (decide (x0 = y0 ∧ x1 = y1 ∧ x2 = y2 ∧ x3 = y3 ∧ x4 = y4)) w :=
  HA (d := dd + 2) (rs := [decide (x0 = y0), decide (x1 = y1 ∧ x2 = y2 ∧ x3 = y3 ∧ x4 = y4)]) Nu (by kernel_rfl) ⟨rfl, Hl (d := dd + 1) rfl rfl M4 T3 rfl rfl, rfl, Jd (d := dd + 2) (sz := 4) (xs' := [.int .i64 x1, .int .i64 x2, .int .i64 x3, .int .i64 x4]) (ys' := [.int .i64 y1, .int .i64 y2, .int .i64 y3, .int .i64 y4]) rfl rfl GD rfl rfl (fun w => OQ (dd + 0) x1 x2 x3 x4 y1 y2 y3 y4 w), trivial⟩ (by rw [Bool.eq_iff_iff]; simp [and_assoc]) w
theorem Pv : Try.prog.eqGuardType Try.prog.depth 64 = false := by kernel_rfl
theorem Py (x0 : Int) (x1 : Int) (x2 : Int) (x3 : Int) (x4 : Int) (y0 : Int) (y1 : Int) (y2 : Int) (y3 : Int) (y4 : Int) (w : World) : (Op.equalIn 10000 64 (.agg #[.int .i64 x0, .int .i64 x1, .int .i64 x2, .int .i64 x3, .int .i64 x4]) (.agg #[.int .i64 y0, .int .i64 y1, .int .i64 y2, .int .i64 y3, .int .i64 y4])).run Try.prog w = .ok (decide (x0 = y0 ∧ x1 = y1 ∧ x2 = y2 ∧ x3 = y3 ∧ x4 = y4)) w := OL 9997 x0 x1 x2 x3 x4 y0 y1 y2 y3 y4 w
noncomputable def EC (p0 : List (Int × (Int × Int × Int × Int))) (p1 : List (Int × (Int × Int × Int × Int))) : Int → Option (Int ⊕ (Unit ⊕ Bool))
  | x1 => (if x1 < (p0.length : Int) then (ix p0 x1).bind fun x2 => (ix p1 x1).bind fun x3 => (if (!(decide (x2.1 = x3.1 ∧ x2.2.1 = x3.2.1 ∧ x2.2.2.1 = x3.2.2.1 ∧ x2.2.2.2.1 = x3.2.2.2.1 ∧ x2.2.2.2.2 = x3.2.2.2.2))) = true then some (.inr (.inr false)) else some (.inl (CA (x1 + 1)))) else some (.inr (.inl ())))
noncomputable def EF (p0 : List (Int × (Int × Int × Int × Int))) (p1 : List (Int × (Int × Int × Int × Int))) : Option Bool := (if (p0.length : Int) ≠ (p1.length : Int) then some false else Fp (Bk (EC p0 p1) 0) fun _ => some true)
theorem H4 (Y : Nat → Prop) (w0 : World) (v1 : Value) (v2 : Value) (p0 : List (Int × (Int × Int × Int × Int))) (p1 : List (Int × (Int × Int × Int × Int))) (r : Bool) (H : EF p0 p1 = some r) (h_v1 : Sl w0 (NX []) DN v1 p0) (h_v2 : Sl w0 (NX []) DN v2 p1) :
    Calls Try.prog 16 #[v1, v2] w0 fun e w' => e = .returned (.bool r) ∧ Below w0.heap.size w0 w' := by
 refine enter Try.func16 Aa Try.ntmps16 Aa fun a F => ?_
 have W := Stw.start Y w0
 unfold EF at H
 refine Ak (Ae ?_)
 refine ls F W Aa (Ag F Aa).q fun a w F W => ?_
 refine Af (Ad (Ak (Ak (Ae ?_))))
 refine ls F W Aa (Ah F Aa).q fun a w F W => ?_
 refine ls F W Aa (B1 (r := DN) (l := p0) L9 Aa F Aa (Au h_v1)).q fun a w F W => ?_
 refine ls F W Aa (Ah F Aa).q fun a w F W => ?_
 refine ls F W Aa (B1 (r := DN) (l := p1) L9 Aa F Aa (Au h_v2)).q fun a w F W => ?_
 refine ls F W Aa (Eh F Aa Aa).q fun a w F W => ?_
 refine Af (Ad ?_)
 refine AA F Aa (fun hb => ?_) fun hb => ?_
 ·
  have H := AK (Bi hb) H
  rw [hb] at F
  clear hb
  refine Ak (Ae ?_)
  refine ls F W Aa (Ag F Aa).q fun a w F W => ?_
  refine Af (Ad (Ax (AD ?_)))
  have H := AL H
  subst H
  refine AF (.inl Aa) F W Aa (Av F Aa) ?_
  exact ⟨rfl, W.done⟩
 have H := AJ (Bh hb) H
 rw [hb] at F
 clear hb
 refine Ay (Ad ?_)
 obtain ⟨o1, G1, K1, L1⟩ := HZ H
 refine AH (fun a w => some (Sum.inl ()) = some o1 ∧ Fr 26 [] [(4, .bool false)] a ∧ Stw ⟨Y, [], w0⟩ [] [] w) ?_ ?_
 ·
  have H := G1
  clear G1 K1
  refine Ak (Ae ?_)
  refine ls F W Aa (Ag F Aa).q fun a w F W => ?_
  refine Af (Ad (AC ?_))
  refine Bz H (fun s a w => Fr 26 [] [(0, v1), (1, v2), (4, .bool false), (5, .int .i64 s)] a ∧ Stw ⟨Y, [], w0⟩ [] [] w) ⟨F.re ⟨rfl, Aa, Aa, Aa, trivial⟩, W⟩ fun s o a w H L2 hR => ?_
  obtain ⟨x1, rfl⟩ : ∃ x, x = s := ⟨s, rfl⟩
  obtain ⟨F, W⟩ := hR
  have F : Fr 26 [] [(0, v1), (1, v2), (4, .bool false), (5, .int .i64 x1)] a := F
  have W : Stw ⟨Y, [], w0⟩ [] [] w := W
  rw [EC] at H
  refine Ak (Ak (Ae ?_))
  iterate 2 refine ls F W Aa (Ah F Aa).q fun a w F W => ?_
  refine ls F W Aa (B1 (r := DN) (l := p0) L9 Aa F Aa (Au h_v1)).q fun a w F W => ?_
  refine ls F W Aa (BN F Aa Aa).q fun a w F W => ?_
  refine Af (Ad ?_)
  refine AA F Aa (fun hb => ?_) fun hb => ?_
  ·
   have H := AK (Bi hb) H
   rw [hb] at F
   clear hb
   refine Ay (Ad (Ak (AC (Ak ?_))))
   refine Ci W MO (by kernel_rfl) ?_
   iterate 2 refine qs F Aa (Ah F Aa).q fun a F => ?_
   obtain ⟨x2, h1, H⟩ := Ap H
   refine qs F Aa (Bd (r := DN) Nj F Aa Aa (Au h_v1) h1).q fun a F => ?_
   refine qs F Aa (A1 (y := Value.agg #[.int .i64 x2.1, .int .i64 x2.2.1, .int .i64 x2.2.2.1, .int .i64 x2.2.2.2.1, .int .i64 x2.2.2.2.2]) (j := 0) (i := x1) F Aa Aa (Au h_v1) h1 N7.to Pf Aa).q fun a F => ?_
   iterate 2 refine qs F Aa (Ah F Aa).q fun a F => ?_
   obtain ⟨x3, h2, H⟩ := Ap H
   refine qs F Aa (Bd (r := DN) Nj F Aa Aa (Au h_v2) h2).q fun a F => ?_
   refine qs F Aa (A1 (y := Value.agg #[.int .i64 x3.1, .int .i64 x3.2.1, .int .i64 x3.2.2.1, .int .i64 x3.2.2.2.1, .int .i64 x3.2.2.2.2]) (j := 0) (i := x1) F Aa Aa (Au h_v2) h2 N7.to Pf Aa).q fun a F => ?_
   refine qs F Aa (LR (t := decide (x2.1 = x3.1 ∧ x2.2.1 = x3.2.1 ∧ x2.2.2.1 = x3.2.2.1 ∧ x2.2.2.2.1 = x3.2.2.2.1 ∧ x2.2.2.2.2 = x3.2.2.2.2)) Pv (Py _ _ _ _ _ _ _ _ _ _) F Aa Aa).q fun a F => ?_
   refine A9 fun w W => ?_
   refine Ad ?_
   refine AA F Aa (fun hb => ?_) fun hb => ?_
   ·
    have H := AK hb H
    rw [hb] at F
    clear hb
    refine Ak (Ae ?_)
    refine ls F W Aa (Ag F Aa).q fun a w F W => ?_
    refine Af (Ad (Ax (AO ?_)))
    iterate 2 refine AD ?_
    refine AO (AD ?_)
    have H := L2 _ H
    have H := L1 _ H
    have H := AL H
    subst H
    refine AF (.inl Aa) F W Aa (Av F Aa) ?_
    exact ⟨rfl, W.done⟩
   have H := AJ (by rw [hb]; decide) H
   rw [hb] at F
   clear hb
   refine Ay (A5 (Ad (Ae ?_)))
   refine ls F W Aa (Ah F Aa).q fun a w F W => ?_
   refine ls F W Aa (B7 F Aa Aa Aa).q fun a w F W => ?_
   refine ls F W Aa (Ag F Aa).q fun a w F W => ?_
   refine Af (Ad ?_)
   exact ⟨_, H, F.re ⟨rfl, Aa, Aa, Aa, trivial⟩, W⟩
  have H := AJ (Bh hb) H
  rw [hb] at F
  clear hb
  refine Bw ?_
  iterate 2 refine B3 ?_
  refine Bx (Ad ?_)
  have H := L2 _ H
  exact ⟨H, F.re ⟨rfl, trivial⟩, W⟩
 rintro a w ⟨hj, F, W⟩
 have H := K1 _ hj
 clear hj G1 K1 L1
 refine Ak (Ae ?_)
 refine ls F W Aa (Ag F Aa).q fun a w F W => ?_
 refine Af (Ad (Ax ?_))
 have H := AL H
 subst H
 refine AF (.inl Aa) F W Aa (Av F Aa) ?_
 exact ⟨rfl, W.done⟩
theorem Pb : Has Try.prog 16 := ⟨fun args w => Am Try.func16 rfl (by decide) args w⟩
end Go.Proofs.Ytkjjioigbpkifaa
