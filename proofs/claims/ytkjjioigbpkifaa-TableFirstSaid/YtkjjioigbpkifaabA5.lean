/- The functions of layer 11, DP. Conditions: none. -/
import Derived.Test.YtkjjioigbpkifaabA4
namespace Go.Proofs.Ytkjjioigbpkifaa
open Go Go.RowKit
set_option linter.unusedVariables false
set_option linter.unusedSimpArgs false
set_option maxRecDepth 20000
theorem LX : Has Try.prog 57 := ⟨fun args w => An Try.func57 rfl (by decide) args w⟩
noncomputable def Eo (p0 : Int × (Int × Int × Int × Int) × (Int × Int × Int × Int)) (x1 : Int) : Int → Option (Int ⊕ (Unit ⊕ (Int ⊕ (Unit ⊕ Bool))))
  | x7 => (if x7 < 8 then (ix ([p0.2.1.1, p0.2.1.2.1, p0.2.1.2.2.1, p0.2.1.2.2.2] : List Int) x1).bind fun x8 => (FT x8 x7).bind fun x9 => (ix ([p0.2.2.1, p0.2.2.2.1, p0.2.2.2.2.1, p0.2.2.2.2.2] : List Int) x1).bind fun x10 => (FT x10 x7).bind fun x11 => (if x11 < x9 then some (.inr (.inr (.inr (.inr false)))) else some (.inl (C3 (x7 + 1)))) else some (.inr (.inl ())))
noncomputable def Eu (p0 : Int × (Int × Int × Int × Int) × (Int × Int × Int × Int)) : Int → Option (Int ⊕ (Unit ⊕ Bool))
  | x1 => (if x1 < 4 then FC (((ix ([p0.2.2.1, p0.2.2.2.1, p0.2.2.2.2.1, p0.2.2.2.2.2] : List Int) x1).bind fun x3 => (if x3 < 0 then some true else (ix ([p0.2.2.1, p0.2.2.2.1, p0.2.2.2.2.1, p0.2.2.2.2.2] : List Int) x1).bind fun x4 => (if (BC x1) < x4 then some true else (ix ([p0.2.1.1, p0.2.1.2.1, p0.2.1.2.2.1, p0.2.1.2.2.2] : List Int) x1).bind fun x5 => (if x5 < 0 then some true else (ix ([p0.2.1.1, p0.2.1.2.1, p0.2.1.2.2.1, p0.2.1.2.2.2] : List Int) x1).bind fun x6 => some (decide ((BC x1) < x6)))))).bind fun x2 => (if x2 = true then some (.inr (.inr (.inr false))) else BG (Eo p0 x1) 0)) fun _ => some (.inl (C3 (x1 + 1))) else some (.inr (.inl ())))
noncomputable def E2 (p0 : Int × (Int × Int × Int × Int) × (Int × Int × Int × Int)) : Option Bool := (if (decide (p0.1 < (-1)) || decide (7 < p0.1)) = true then some false else FC (BG (Eu p0) 0) fun _ => some true)
theorem Ie (Y : Nat → Prop) (w0 : World)  (p0 : Int × (Int × Int × Int × Int) × (Int × Int × Int × Int)) (r : Bool) (H : E2 p0 = some r)  :
    Calls Try.prog 50 #[.agg #[.int .i64 p0.1, .int .i64 p0.2.1.1, .int .i64 p0.2.1.2.1, .int .i64 p0.2.1.2.2.1, .int .i64 p0.2.1.2.2.2, .int .i64 p0.2.2.1, .int .i64 p0.2.2.2.1, .int .i64 p0.2.2.2.2.1, .int .i64 p0.2.2.2.2.2]] w0 fun e w' => e = .returned (.bool r) ∧ Below w0.heap.size w0 w' := by
 refine enter Try.func50 Aa Try.ntmps50 Aa fun a F => ?_
 have W := Stw.start Y w0
 unfold E2 at H
 refine Ak (Ae ?_)
 refine B1 (cs := [.int .i64 p0.1, .int .i64 p0.2.1.1, .int .i64 p0.2.1.2.1, .int .i64 p0.2.1.2.2.1, .int .i64 p0.2.1.2.2.2, .int .i64 p0.2.2.1, .int .i64 p0.2.2.2.1, .int .i64 p0.2.2.2.2.1, .int .i64 p0.2.2.2.2.2]) F W Aa Aa Aa fun b1 a w F W => ?_
 refine ls F W Aa (Af F Aa).q fun a w F W => ?_
 refine Ag (Ad (Ak ?_))
 refine AJ (fun a w => Fr 64 [] [(1, .pointer (some ⟨b1, 0, none⟩)), (2, .bool false), (12, .bool (decide (p0.1 < (-1)) || decide (7 < p0.1)))] a ∧ Stw ⟨Y, [], w0⟩ [(b1, [.int .i64 p0.1, .int .i64 p0.2.1.1, .int .i64 p0.2.1.2.1, .int .i64 p0.2.1.2.2.1, .int .i64 p0.2.1.2.2.2, .int .i64 p0.2.2.1, .int .i64 p0.2.2.2.1, .int .i64 p0.2.2.2.2.1, .int .i64 p0.2.2.2.2.2])] [] w) ?_ ?_
 ·
  refine Ae ?_
  refine ls F W Aa (Al CJ Aa Aa Aa T3 F Aa 0 Aa).q fun a w F W => ?_
  refine ls F W Aa (As (v := Value.int .i64 p0.1) 0 F Aa Aa T3 Aa).q fun a w F W => ?_
  refine ls F W Aa (BO F Aa Aa).q fun a w F W => ?_
  refine ls F W Aa (Ai F Aa).q fun a w F W => ?_
  rcases Bool.eq_false_or_eq_true (decide (p0.1 < (-1))) with hb0 | hb0
  ·
   rw [hb0] at F
   iterate 3 refine Cw F Aa Aa Aa Aa Aa Aa Aa fun a F => ?_
   refine ls F W Aa (Au F Aa Aa Aa).q fun a w F W => ?_
   refine Ag (Ad ?_)
   exact ⟨F.re ⟨rfl, Aa, (by show some (Value.bool true) = some (Value.bool (decide (p0.1 < (-1)) || decide (7 < p0.1))); try rw [hb0]; all_goals simp only [Bool.not_true, Bool.not_false, Bool.true_and, Bool.false_and, Bool.true_or, Bool.false_or, Bool.and_true, Bool.or_false, cond_true, cond_false]), trivial⟩, W⟩
  rw [hb0] at F
  refine AE F W (Aj F Aa Aa Aa Aa) Aa (Ao Aa) (Al CJ Aa Aa Aa T3 F Aa 0 Aa).q fun a w F W => ?_
  refine AE F W (Aj F Aa Aa Aa Aa) Aa (Ao Aa) (As (v := Value.int .i64 p0.1) 0 F Aa Aa T3 Aa).q fun a w F W => ?_
  refine AE F W (Aj F Aa Aa Aa Aa) Aa (Ao Aa) (Fw F Aa Aa).q fun a w F W => ?_
  refine ls F W Aa (Ap F Aa Aa Aa).q fun a w F W => ?_
  refine Ag (Ad ?_)
  exact ⟨F.re ⟨rfl, Aa, (by show some (Value.bool (decide (7 < p0.1))) = some (Value.bool (decide (p0.1 < (-1)) || decide (7 < p0.1))); try rw [hb0]; all_goals simp only [Bool.not_true, Bool.not_false, Bool.true_and, Bool.false_and, Bool.true_or, Bool.false_or, Bool.and_true, Bool.or_false, cond_true, cond_false]), trivial⟩, W⟩
 rintro a w ⟨F, W⟩
 refine Az F Aa (fun hb => ?_) fun hb => ?_
 ·
  have H := AL hb H
  rw [hb] at F
  clear hb
  refine Ak (Ae ?_)
  refine ls F W Aa (Af F Aa).q fun a w F W => ?_
  refine Ag (Ad (Aw (AB ?_)))
  have H := AO H
  subst H
  refine AF (.inl Aa) F W Aa (Av F Aa) ?_
  exact ⟨rfl, W.done⟩
 have H := AK (by rw [hb]; decide) H
 rw [hb] at F
 clear hb
 refine Ay (Ad ?_)
 obtain ⟨o1, G1, K1, L1⟩ := Ia H
 refine AJ (fun a w => some (Sum.inl ()) = some o1 ∧ Fr 64 [] [(2, .bool false)] a ∧ Stw ⟨Y, [], w0⟩ [(b1, [.int .i64 p0.1, .int .i64 p0.2.1.1, .int .i64 p0.2.1.2.1, .int .i64 p0.2.1.2.2.1, .int .i64 p0.2.1.2.2.2, .int .i64 p0.2.2.1, .int .i64 p0.2.2.2.1, .int .i64 p0.2.2.2.2.1, .int .i64 p0.2.2.2.2.2])] [] w) ?_ ?_
 ·
  have H := G1
  clear G1 K1
  refine Ak (Ae ?_)
  refine ls F W Aa (Af F Aa).q fun a w F W => ?_
  refine Ag (Ad (AA ?_))
  refine BW H (fun s a w => Fr 64 [] [(1, .pointer (some ⟨b1, 0, none⟩)), (2, .bool false), (3, .int .i64 s)] a ∧ Stw ⟨Y, [], w0⟩ [(b1, [.int .i64 p0.1, .int .i64 p0.2.1.1, .int .i64 p0.2.1.2.1, .int .i64 p0.2.1.2.2.1, .int .i64 p0.2.1.2.2.2, .int .i64 p0.2.2.1, .int .i64 p0.2.2.2.1, .int .i64 p0.2.2.2.2.1, .int .i64 p0.2.2.2.2.2])] [] w) ⟨F.re ⟨rfl, Aa, Aa, trivial⟩, W⟩ fun s o a w H L2 hR => ?_
  obtain ⟨x1, rfl⟩ : ∃ x, x = s := ⟨s, rfl⟩
  obtain ⟨F, W⟩ := hR
  have F : Fr 64 [] [(1, .pointer (some ⟨b1, 0, none⟩)), (2, .bool false), (3, .int .i64 x1)] a := F
  have W : Stw ⟨Y, [], w0⟩ [(b1, [.int .i64 p0.1, .int .i64 p0.2.1.1, .int .i64 p0.2.1.2.1, .int .i64 p0.2.1.2.2.1, .int .i64 p0.2.1.2.2.2, .int .i64 p0.2.2.1, .int .i64 p0.2.2.2.1, .int .i64 p0.2.2.2.2.1, .int .i64 p0.2.2.2.2.2])] [] w := W
  rw [Eu] at H
  refine Ak (Ak (Ae ?_))
  refine ls F W Aa (Ai F Aa).q fun a w F W => ?_
  refine ls F W Aa (BO F Aa Aa).q fun a w F W => ?_
  refine Ag (Ad ?_)
  refine Az F Aa (fun hb => ?_) fun hb => ?_
  ·
   have H := AL (Bd hb) H
   rw [hb] at F
   clear hb
   refine Ay (Ad ?_)
   obtain ⟨o3, G3, K3, L3⟩ := Ia H
   refine AJ (fun a w => some (Sum.inl ()) = some o3 ∧ Fr 64 [] [(1, .pointer (some ⟨b1, 0, none⟩)), (2, .bool false), (3, .int .i64 x1)] a ∧ Stw ⟨Y, [], w0⟩ [(b1, [.int .i64 p0.1, .int .i64 p0.2.1.1, .int .i64 p0.2.1.2.1, .int .i64 p0.2.1.2.2.1, .int .i64 p0.2.1.2.2.2, .int .i64 p0.2.2.1, .int .i64 p0.2.2.2.1, .int .i64 p0.2.2.2.2.1, .int .i64 p0.2.2.2.2.2])] [] w) ?_ ?_
   ·
    have H := G3
    clear G3 K3
    refine AA (Ak ?_)
    obtain ⟨o4, G4, K4⟩ := Aq H
    refine AJ (fun a w => ∃ x2 : Bool, some (x2) = some o4 ∧ Fr 64 [] [(1, .pointer (some ⟨b1, 0, none⟩)), (2, .bool false), (3, .int .i64 x1), (46, .bool x2)] a ∧ Stw ⟨Y, [], w0⟩ [(b1, [.int .i64 p0.1, .int .i64 p0.2.1.1, .int .i64 p0.2.1.2.1, .int .i64 p0.2.1.2.2.1, .int .i64 p0.2.1.2.2.2, .int .i64 p0.2.2.1, .int .i64 p0.2.2.2.1, .int .i64 p0.2.2.2.2.1, .int .i64 p0.2.2.2.2.2])] [] w) ?_ ?_
    ·
     have H := G4
     clear G4 K4
     refine CR W MO (by kernel_rfl) ?_
     refine qs F Aa (Ai F Aa).q fun a F => ?_
     refine qs F Aa (Al CJ Aa Aa Aa Gu F Aa 5 Aa).q fun a F => ?_
     obtain ⟨x3, h1, H⟩ := Aq H
     refine qs F Aa (Bq (5 + (x1).toNat * 1) Ep F Aa Aa Aa h1 Aa).q fun a F => ?_
     refine qs F Aa (As (v := Value.int .i64 x3) 0 F Aa Aa T3 (Cc (base := 5) (m := 4) (l := [p0.2.2.1, p0.2.2.2.1, p0.2.2.2.2.1, p0.2.2.2.2.2]) (enc := Value.int .i64) Aa h1)).q fun a F => ?_
     refine qs F Aa (BO F Aa Aa).q fun a F => ?_
     refine qs F Aa (Ai F Aa).q fun a F => ?_
     rcases Bool.eq_false_or_eq_true (decide (x3 < 0)) with hb | hb
     ·
      have H := AL (Bd hb) H
      rw [hb] at F
      clear hb
      iterate 7 refine AP F (AN F Aa Aa Aa Aa Aa) Aa Aa fun a F => ?_
      refine qs F Aa (Au F Aa Aa Aa).q fun a F => ?_
      refine qs F Aa (Ai F Aa).q fun a F => ?_
      iterate 5 refine AP F (AN F Aa Aa Aa Aa Aa) Aa Aa fun a F => ?_
      refine qs F Aa (Au F Aa Aa Aa).q fun a F => ?_
      refine qs F Aa (Ai F Aa).q fun a F => ?_
      iterate 7 refine AP F (AN F Aa Aa Aa Aa Aa) Aa Aa fun a F => ?_
      refine qs F Aa (Au F Aa Aa Aa).q fun a F => ?_
      refine AU fun w W => ?_
      refine Ad ?_
      exact ⟨_, H, F.re ⟨rfl, Aa, Aa, Aa, trivial⟩, W⟩
     have H := AK (Be hb) H
     rw [hb] at F
     clear hb
     refine A0 F (Aj F Aa Aa Aa Aa) Aa (Ao Aa) (Ai F Aa).q fun a F => ?_
     refine A0 F (Aj F Aa Aa Aa Aa) Aa (Ao Aa) (Al CJ Aa Aa Aa Gu F Aa 5 Aa).q fun a F => ?_
     obtain ⟨x4, h2, H⟩ := Aq H
     refine A0 F (Aj F Aa Aa Aa Aa) Aa (Ao Aa) (Bq (5 + (x1).toNat * 1) Ep F Aa Aa Aa h2 Aa).q fun a F => ?_
     refine A0 F (Aj F Aa Aa Aa Aa) Aa (Ao Aa) (As (v := Value.int .i64 x4) 0 F Aa Aa T3 (Cc (base := 5) (m := 4) (l := [p0.2.2.1, p0.2.2.2.1, p0.2.2.2.2.1, p0.2.2.2.2.2]) (enc := Value.int .i64) Aa h2)).q fun a F => ?_
     refine A0 F (Aj F Aa Aa Aa Aa) Aa (Ao Aa) (Ai F Aa).q fun a F => ?_
     refine A0 F (Aj F Aa Aa Aa Aa) Aa (Ao Aa) (AW (v := Value.int .i64 (BC x1)) F Lf Aa (fun w W => FV any w x1 _ Aa)) fun a F => ?_
     refine A0 F (Aj F Aa Aa Aa Aa) Aa (Ao Aa) (Fw F Aa Aa).q fun a F => ?_
     refine qs F Aa (Ap F Aa Aa Aa).q fun a F => ?_
     refine qs F Aa (Ai F Aa).q fun a F => ?_
     rcases Bool.eq_false_or_eq_true (decide ((BC x1) < x4)) with hb | hb
     ·
      have H := AL (Bd hb) H
      rw [hb] at F
      clear hb
      iterate 5 refine AP F (AN F Aa Aa Aa Aa Aa) Aa Aa fun a F => ?_
      refine qs F Aa (Au F Aa Aa Aa).q fun a F => ?_
      refine qs F Aa (Ai F Aa).q fun a F => ?_
      iterate 7 refine AP F (AN F Aa Aa Aa Aa Aa) Aa Aa fun a F => ?_
      refine qs F Aa (Au F Aa Aa Aa).q fun a F => ?_
      refine AU fun w W => ?_
      refine Ad ?_
      exact ⟨_, H, F.re ⟨rfl, Aa, Aa, Aa, trivial⟩, W⟩
     have H := AK (Be hb) H
     rw [hb] at F
     clear hb
     refine A0 F (Aj F Aa Aa Aa Aa) Aa (Ao Aa) (Ai F Aa).q fun a F => ?_
     refine A0 F (Aj F Aa Aa Aa Aa) Aa (Ao Aa) (Al CJ Aa Aa Aa Gu F Aa 1 Aa).q fun a F => ?_
     obtain ⟨x5, h3, H⟩ := Aq H
     refine A0 F (Aj F Aa Aa Aa Aa) Aa (Ao Aa) (Bq (1 + (x1).toNat * 1) Ep F Aa Aa Aa h3 Aa).q fun a F => ?_
     refine A0 F (Aj F Aa Aa Aa Aa) Aa (Ao Aa) (As (v := Value.int .i64 x5) 0 F Aa Aa T3 (Cc (base := 1) (m := 4) (l := [p0.2.1.1, p0.2.1.2.1, p0.2.1.2.2.1, p0.2.1.2.2.2]) (enc := Value.int .i64) Aa h3)).q fun a F => ?_
     refine A0 F (Aj F Aa Aa Aa Aa) Aa (Ao Aa) (BO F Aa Aa).q fun a F => ?_
     refine qs F Aa (Ap F Aa Aa Aa).q fun a F => ?_
     refine qs F Aa (Ai F Aa).q fun a F => ?_
     rcases Bool.eq_false_or_eq_true (decide (x5 < 0)) with hb | hb
     ·
      have H := AL (Bd hb) H
      rw [hb] at F
      clear hb
      iterate 7 refine AP F (AN F Aa Aa Aa Aa Aa) Aa Aa fun a F => ?_
      refine qs F Aa (Au F Aa Aa Aa).q fun a F => ?_
      refine AU fun w W => ?_
      refine Ad ?_
      exact ⟨_, H, F.re ⟨rfl, Aa, Aa, Aa, trivial⟩, W⟩
     have H := AK (Be hb) H
     rw [hb] at F
     clear hb
     refine A0 F (Aj F Aa Aa Aa Aa) Aa (Ao Aa) (Ai F Aa).q fun a F => ?_
     refine A0 F (Aj F Aa Aa Aa Aa) Aa (Ao Aa) (Al CJ Aa Aa Aa Gu F Aa 1 Aa).q fun a F => ?_
     obtain ⟨x6, h4, H⟩ := Aq H
     refine A0 F (Aj F Aa Aa Aa Aa) Aa (Ao Aa) (Bq (1 + (x1).toNat * 1) Ep F Aa Aa Aa h4 Aa).q fun a F => ?_
     refine A0 F (Aj F Aa Aa Aa Aa) Aa (Ao Aa) (As (v := Value.int .i64 x6) 0 F Aa Aa T3 (Cc (base := 1) (m := 4) (l := [p0.2.1.1, p0.2.1.2.1, p0.2.1.2.2.1, p0.2.1.2.2.2]) (enc := Value.int .i64) Aa h4)).q fun a F => ?_
     refine A0 F (Aj F Aa Aa Aa Aa) Aa (Ao Aa) (Ai F Aa).q fun a F => ?_
     refine A0 F (Aj F Aa Aa Aa Aa) Aa (Ao Aa) (AW (v := Value.int .i64 (BC x1)) F Lf Aa (fun w W => FV any w x1 _ Aa)) fun a F => ?_
     refine A0 F (Aj F Aa Aa Aa Aa) Aa (Ao Aa) (Fw F Aa Aa).q fun a F => ?_
     refine qs F Aa (Ap F Aa Aa Aa).q fun a F => ?_
     refine AU fun w W => ?_
     refine Ad ?_
     exact ⟨_, H, F.re ⟨rfl, Aa, Aa, Aa, trivial⟩, W⟩
    rintro a w ⟨x2, hj, F, W⟩
    have hj := AO hj
    subst hj
    have H := K4
    clear G4 K4
    refine Az F Aa (fun hb => ?_) fun hb => ?_
    ·
     have H := AL hb H
     rw [hb] at F
     clear hb
     refine Ak (Ae ?_)
     refine ls F W Aa (Af F Aa).q fun a w F W => ?_
     refine Ag (Ad (Aw (AB (AM ?_))))
     iterate 2 refine AB ?_
     refine AM (AB ?_)
     have H := L3 _ H
     have H := L2 _ H
     have H := L1 _ H
     have H := AO H
     subst H
     refine AF (.inl Aa) F W Aa (Av F Aa) ?_
     exact ⟨rfl, W.done⟩
    have H := AK (by rw [hb]; decide) H
    rw [hb] at F
    clear hb
    refine Ay (Ad (Ak (Ae ?_)))
    refine ls F W Aa (Af F Aa).q fun a w F W => ?_
    refine Ag (Ad (AA ?_))
    refine BW H (fun s a w => Fr 64 [] [(1, .pointer (some ⟨b1, 0, none⟩)), (2, .bool false), (3, .int .i64 x1), (4, .int .i64 s)] a ∧ Stw ⟨Y, [], w0⟩ [(b1, [.int .i64 p0.1, .int .i64 p0.2.1.1, .int .i64 p0.2.1.2.1, .int .i64 p0.2.1.2.2.1, .int .i64 p0.2.1.2.2.2, .int .i64 p0.2.2.1, .int .i64 p0.2.2.2.1, .int .i64 p0.2.2.2.2.1, .int .i64 p0.2.2.2.2.2])] [] w) ⟨F.re ⟨rfl, Aa, Aa, Aa, trivial⟩, W⟩ fun s o a w H L5 hR => ?_
    obtain ⟨x7, rfl⟩ : ∃ x, x = s := ⟨s, rfl⟩
    obtain ⟨F, W⟩ := hR
    have F : Fr 64 [] [(1, .pointer (some ⟨b1, 0, none⟩)), (2, .bool false), (3, .int .i64 x1), (4, .int .i64 x7)] a := F
    have W : Stw ⟨Y, [], w0⟩ [(b1, [.int .i64 p0.1, .int .i64 p0.2.1.1, .int .i64 p0.2.1.2.1, .int .i64 p0.2.1.2.2.1, .int .i64 p0.2.1.2.2.2, .int .i64 p0.2.2.1, .int .i64 p0.2.2.2.1, .int .i64 p0.2.2.2.2.1, .int .i64 p0.2.2.2.2.2])] [] w := W
    rw [Eo] at H
    refine Ak (Ak (Ae ?_))
    refine ls F W Aa (Ai F Aa).q fun a w F W => ?_
    refine ls F W Aa (BO F Aa Aa).q fun a w F W => ?_
    refine Ag (Ad ?_)
    refine Az F Aa (fun hb => ?_) fun hb => ?_
    ·
     have H := AL (Bd hb) H
     rw [hb] at F
     clear hb
     refine Ay (Ad (Ak (AA (Ak ?_))))
     refine CR W MO (by kernel_rfl) ?_
     refine qs F Aa (Ai F Aa).q fun a F => ?_
     refine qs F Aa (Al CJ Aa Aa Aa Gu F Aa 1 Aa).q fun a F => ?_
     obtain ⟨x8, h5, H⟩ := Aq H
     refine qs F Aa (Bq (1 + (x1).toNat * 1) Ep F Aa Aa Aa h5 Aa).q fun a F => ?_
     refine qs F Aa (As (v := Value.int .i64 x8) 0 F Aa Aa T3 (Cc (base := 1) (m := 4) (l := [p0.2.1.1, p0.2.1.2.1, p0.2.1.2.2.1, p0.2.1.2.2.2]) (enc := Value.int .i64) Aa h5)).q fun a F => ?_
     refine qs F Aa (Ai F Aa).q fun a F => ?_
     obtain ⟨x9, h6, H⟩ := Aq H
     refine qs F Aa (AW (v := Value.int .i64 x9) F LX Aa (fun w W => HL any w x8 x7 _ h6)) fun a F => ?_
     refine qs F Aa (Ai F Aa).q fun a F => ?_
     refine qs F Aa (Al CJ Aa Aa Aa Gu F Aa 5 Aa).q fun a F => ?_
     obtain ⟨x10, h7, H⟩ := Aq H
     refine qs F Aa (Bq (5 + (x1).toNat * 1) Ep F Aa Aa Aa h7 Aa).q fun a F => ?_
     refine qs F Aa (As (v := Value.int .i64 x10) 0 F Aa Aa T3 (Cc (base := 5) (m := 4) (l := [p0.2.2.1, p0.2.2.2.1, p0.2.2.2.2.1, p0.2.2.2.2.2]) (enc := Value.int .i64) Aa h7)).q fun a F => ?_
     refine qs F Aa (Ai F Aa).q fun a F => ?_
     obtain ⟨x11, h8, H⟩ := Aq H
     refine qs F Aa (AW (v := Value.int .i64 x11) F LX Aa (fun w W => HL any w x10 x7 _ h8)) fun a F => ?_
     refine qs F Aa (Fw F Aa Aa).q fun a F => ?_
     refine AU fun w W => ?_
     refine Ad ?_
     refine Az F Aa (fun hb => ?_) fun hb => ?_
     ·
      have H := AL (Bd hb) H
      rw [hb] at F
      clear hb
      refine Ak (Ae ?_)
      refine ls F W Aa (Af F Aa).q fun a w F W => ?_
      refine Ag (Ad (Aw (AM ?_)))
      iterate 2 refine AB ?_
      iterate 2 refine AM ?_
      iterate 2 refine AB ?_
      refine AM (AB ?_)
      have H := L5 _ H
      have H := L3 _ H
      have H := L2 _ H
      have H := L1 _ H
      have H := AO H
      subst H
      refine AF (.inl Aa) F W Aa (Av F Aa) ?_
      exact ⟨rfl, W.done⟩
     have H := AK (Be hb) H
     rw [hb] at F
     clear hb
     refine Ay (AV (Ad (Ae ?_)))
     refine ls F W Aa (Ai F Aa).q fun a w F W => ?_
     refine ls F W Aa (Cg F Aa Aa Aa).q fun a w F W => ?_
     refine ls F W Aa (Af F Aa).q fun a w F W => ?_
     refine Ag (Ad ?_)
     exact ⟨_, H, F.re ⟨rfl, Aa, Aa, Aa, trivial⟩, W⟩
    have H := AK (Be hb) H
    rw [hb] at F
    clear hb
    refine BV ?_
    iterate 2 refine Cd ?_
    refine BU (AV (Ad ?_))
    have H := L5 _ H
    exact ⟨H, F.re ⟨rfl, Aa, Aa, trivial⟩, W⟩
   rintro a w ⟨hj, F, W⟩
   have H := K3 _ hj
   clear hj G3 K3 L3
   refine Ae ?_
   refine ls F W Aa (Ai F Aa).q fun a w F W => ?_
   refine ls F W Aa (Cg F Aa Aa Aa).q fun a w F W => ?_
   refine ls F W Aa (Af F Aa).q fun a w F W => ?_
   refine Ag (Ad ?_)
   exact ⟨_, H, F.re ⟨rfl, Aa, Aa, trivial⟩, W⟩
  have H := AK (Be hb) H
  rw [hb] at F
  clear hb
  refine BV ?_
  iterate 2 refine Cd ?_
  refine BU (Ad ?_)
  have H := L2 _ H
  exact ⟨H, F.re ⟨rfl, trivial⟩, W⟩
 rintro a w ⟨hj, F, W⟩
 have H := K1 _ hj
 clear hj G1 K1 L1
 refine Ak (Ae ?_)
 refine ls F W Aa (Af F Aa).q fun a w F W => ?_
 refine Ag (Ad (Aw ?_))
 have H := AO H
 subst H
 refine AF (.inl Aa) F W Aa (Av F Aa) ?_
 exact ⟨rfl, W.done⟩
theorem MQ : Has Try.prog 50 := ⟨fun args w => An Try.func50 rfl (by decide) args w⟩
def FU (p0 : Int × Int × Int) (p1 : Int) : Bool := (if p0.1 = 1 then (decide (0 ≤ p0.2.1) && (decide (p0.2.1 ≤ 3) && (decide (0 ≤ p0.2.2) && decide (p0.2.2 ≤ (BC p0.2.1))))) else (if p0.1 = 3 then (decide (p0.2.1 = 0) && decide (p0.2.2 = 0)) else (decide (p0.1 = 2) && (decide (p0.2.1 = 0) && (decide (0 ≤ p0.2.2) && decide (p0.2.2 < p1))))))
theorem Jp (Y : Nat → Prop) (w0 : World)  (p0 : Int × Int × Int) (p1 : Int) (r : Bool) (H : FU p0 p1 = r)  :
    Calls Try.prog 72 #[.agg #[.int .i64 p0.1, .int .i64 p0.2.1, .int .i64 p0.2.2], .int .i64 p1] w0 fun e w' => e = .returned (.bool r) ∧ Below w0.heap.size w0 w' := by
 refine enter Try.func72 Aa Try.ntmps72 Aa fun a F => ?_
 have W := Stw.start Y w0
 unfold FU at H
 refine Ak (Ae ?_)
 refine B1 (cs := [.int .i64 p0.1, .int .i64 p0.2.1, .int .i64 p0.2.2]) F W Aa Aa Aa fun b1 a w F W => ?_
 refine ls F W Aa (Af F Aa).q fun a w F W => ?_
 refine Ag (Ad (Ak (Ak (Ae ?_))))
 refine ls F W Aa (Al DE Aa Aa Aa T3 F Aa 0 Aa).q fun a w F W => ?_
 refine ls F W Aa (As (v := Value.int .i64 p0.1) 0 F Aa Aa T3 Aa).q fun a w F W => ?_
 refine ls F W Aa (BP F Aa Aa).q fun a w F W => ?_
 refine Ag (Ad ?_)
 refine Az F Aa (fun hb => ?_) fun hb => ?_
 ·
  have H := AL (Bd hb) H
  rw [hb] at F
  clear hb
  refine AJ (fun a w => Fr 59 [] [(1, .int .i64 p1), (2, .pointer (some ⟨b1, 0, none⟩)), (4, .bool (decide (0 ≤ p0.2.1) && (decide (p0.2.1 ≤ 3) && (decide (0 ≤ p0.2.2) && decide (p0.2.2 ≤ (BC p0.2.1))))))] a ∧ Stw ⟨Y, [], w0⟩ [(b1, [.int .i64 p0.1, .int .i64 p0.2.1, .int .i64 p0.2.2])] [] w) ?_ ?_
  ·
   refine CR W MO (by kernel_rfl) ?_
   refine qs F Aa (Al DE Aa Aa Aa T3 F Aa 1 Aa).q fun a F => ?_
   refine qs F Aa (As (v := Value.int .i64 p0.2.1) 0 F Aa Aa T3 Aa).q fun a F => ?_
   refine qs F Aa (D3 F Aa Aa).q fun a F => ?_
   refine qs F Aa (Ai F Aa).q fun a F => ?_
   rcases Bool.eq_false_or_eq_true (decide (0 ≤ p0.2.1)) with hb0 | hb0
   ·
    rw [hb0] at F
    refine A0 F (Aj F Aa Aa Aa Aa) Aa (Ao Aa) (Al DE Aa Aa Aa T3 F Aa 1 Aa).q fun a F => ?_
    refine A0 F (Aj F Aa Aa Aa Aa) Aa (Ao Aa) (As (v := Value.int .i64 p0.2.1) 0 F Aa Aa T3 Aa).q fun a F => ?_
    refine A0 F (Aj F Aa Aa Aa Aa) Aa (Ao Aa) (GH F Aa Aa).q fun a F => ?_
    refine qs F Aa (Au F Aa Aa Aa).q fun a F => ?_
    refine qs F Aa (Ai F Aa).q fun a F => ?_
    rcases Bool.eq_false_or_eq_true (decide (p0.2.1 ≤ 3)) with hb1 | hb1
    ·
     rw [hb1] at F
     refine A0 F (Aj F Aa Aa Aa Aa) Aa (Ao Aa) (Al DE Aa Aa Aa T3 F Aa 2 Aa).q fun a F => ?_
     refine A0 F (Aj F Aa Aa Aa Aa) Aa (Ao Aa) (As (v := Value.int .i64 p0.2.2) 0 F Aa Aa T3 Aa).q fun a F => ?_
     refine A0 F (Aj F Aa Aa Aa Aa) Aa (Ao Aa) (D3 F Aa Aa).q fun a F => ?_
     refine qs F Aa (Au F Aa Aa Aa).q fun a F => ?_
     refine qs F Aa (Ai F Aa).q fun a F => ?_
     rcases Bool.eq_false_or_eq_true (decide (0 ≤ p0.2.2)) with hb2 | hb2
     ·
      rw [hb2] at F
      refine A0 F (Aj F Aa Aa Aa Aa) Aa (Ao Aa) (Al DE Aa Aa Aa T3 F Aa 2 Aa).q fun a F => ?_
      refine A0 F (Aj F Aa Aa Aa Aa) Aa (Ao Aa) (As (v := Value.int .i64 p0.2.2) 0 F Aa Aa T3 Aa).q fun a F => ?_
      refine A0 F (Aj F Aa Aa Aa Aa) Aa (Ao Aa) (Al DE Aa Aa Aa T3 F Aa 1 Aa).q fun a F => ?_
      refine A0 F (Aj F Aa Aa Aa Aa) Aa (Ao Aa) (As (v := Value.int .i64 p0.2.1) 0 F Aa Aa T3 Aa).q fun a F => ?_
      refine A0 F (Aj F Aa Aa Aa Aa) Aa (Ao Aa) (AW (v := Value.int .i64 (BC p0.2.1)) F Lf Aa (fun w W => FV any w p0.2.1 _ Aa)) fun a F => ?_
      refine A0 F (Aj F Aa Aa Aa Aa) Aa (Ao Aa) (GH F Aa Aa).q fun a F => ?_
      refine qs F Aa (Au F Aa Aa Aa).q fun a F => ?_
      refine qs F Aa (Af F Aa).q fun a F => ?_
      refine AU fun w W => ?_
      refine Ad ?_
      exact ⟨F.re ⟨rfl, Aa, (by show some (Value.bool (decide (p0.2.2 ≤ (BC p0.2.1)))) = some (Value.bool (decide (0 ≤ p0.2.1) && (decide (p0.2.1 ≤ 3) && (decide (0 ≤ p0.2.2) && decide (p0.2.2 ≤ (BC p0.2.1)))))); try rw [hb0]; try rw [hb1]; try rw [hb2]; all_goals simp only [Bool.not_true, Bool.not_false, Bool.true_and, Bool.false_and, Bool.true_or, Bool.false_or, Bool.and_true, Bool.or_false, cond_true, cond_false]), trivial⟩, W⟩
     rw [hb2] at F
     iterate 6 refine AP F (AN F Aa Aa Aa Aa Aa) Aa Aa fun a F => ?_
     refine qs F Aa (Ap F Aa Aa Aa).q fun a F => ?_
     refine qs F Aa (Af F Aa).q fun a F => ?_
     refine AU fun w W => ?_
     refine Ad ?_
     exact ⟨F.re ⟨rfl, Aa, (by show some (Value.bool false) = some (Value.bool (decide (0 ≤ p0.2.1) && (decide (p0.2.1 ≤ 3) && (decide (0 ≤ p0.2.2) && decide (p0.2.2 ≤ (BC p0.2.1)))))); try rw [hb0]; try rw [hb1]; try rw [hb2]; all_goals simp only [Bool.not_true, Bool.not_false, Bool.true_and, Bool.false_and, Bool.true_or, Bool.false_or, Bool.and_true, Bool.or_false, cond_true, cond_false]), trivial⟩, W⟩
    rw [hb1] at F
    iterate 3 refine AP F (AN F Aa Aa Aa Aa Aa) Aa Aa fun a F => ?_
    refine qs F Aa (Ap F Aa Aa Aa).q fun a F => ?_
    refine qs F Aa (Ai F Aa).q fun a F => ?_
    iterate 6 refine AP F (AN F Aa Aa Aa Aa Aa) Aa Aa fun a F => ?_
    refine qs F Aa (Ap F Aa Aa Aa).q fun a F => ?_
    refine qs F Aa (Af F Aa).q fun a F => ?_
    refine AU fun w W => ?_
    refine Ad ?_
    exact ⟨F.re ⟨rfl, Aa, (by show some (Value.bool false) = some (Value.bool (decide (0 ≤ p0.2.1) && (decide (p0.2.1 ≤ 3) && (decide (0 ≤ p0.2.2) && decide (p0.2.2 ≤ (BC p0.2.1)))))); try rw [hb0]; try rw [hb1]; all_goals simp only [Bool.not_true, Bool.not_false, Bool.true_and, Bool.false_and, Bool.true_or, Bool.false_or, Bool.and_true, Bool.or_false, cond_true, cond_false]), trivial⟩, W⟩
   rw [hb0] at F
   iterate 3 refine AP F (AN F Aa Aa Aa Aa Aa) Aa Aa fun a F => ?_
   refine qs F Aa (Ap F Aa Aa Aa).q fun a F => ?_
   refine qs F Aa (Ai F Aa).q fun a F => ?_
   iterate 3 refine AP F (AN F Aa Aa Aa Aa Aa) Aa Aa fun a F => ?_
   refine qs F Aa (Ap F Aa Aa Aa).q fun a F => ?_
   refine qs F Aa (Ai F Aa).q fun a F => ?_
   iterate 6 refine AP F (AN F Aa Aa Aa Aa Aa) Aa Aa fun a F => ?_
   refine qs F Aa (Ap F Aa Aa Aa).q fun a F => ?_
   refine qs F Aa (Af F Aa).q fun a F => ?_
   refine AU fun w W => ?_
   refine Ad ?_
   exact ⟨F.re ⟨rfl, Aa, (by show some (Value.bool false) = some (Value.bool (decide (0 ≤ p0.2.1) && (decide (p0.2.1 ≤ 3) && (decide (0 ≤ p0.2.2) && decide (p0.2.2 ≤ (BC p0.2.1)))))); try rw [hb0]; all_goals simp only [Bool.not_true, Bool.not_false, Bool.true_and, Bool.false_and, Bool.true_or, Bool.false_or, Bool.and_true, Bool.or_false, cond_true, cond_false]), trivial⟩, W⟩
  rintro a w ⟨F, W⟩
  refine Aw (AB ?_)
  subst H
  refine AF (.inl Aa) F W Aa (Av F Aa) ?_
  exact ⟨rfl, W.done⟩
 have H := AK (Be hb) H
 rw [hb] at F
 clear hb
 refine Ay (Ad (Ak (Ak (Ae ?_))))
 refine ls F W Aa (Al DE Aa Aa Aa T3 F Aa 0 Aa).q fun a w F W => ?_
 refine ls F W Aa (As (v := Value.int .i64 p0.1) 0 F Aa Aa T3 Aa).q fun a w F W => ?_
 refine ls F W Aa (BP F Aa Aa).q fun a w F W => ?_
 refine Ag (Ad ?_)
 refine Az F Aa (fun hb => ?_) fun hb => ?_
 ·
  have H := AL (Bd hb) H
  rw [hb] at F
  clear hb
  refine AJ (fun a w => Fr 59 [] [(1, .int .i64 p1), (2, .pointer (some ⟨b1, 0, none⟩)), (4, .bool (decide (p0.2.1 = 0) && decide (p0.2.2 = 0)))] a ∧ Stw ⟨Y, [], w0⟩ [(b1, [.int .i64 p0.1, .int .i64 p0.2.1, .int .i64 p0.2.2])] [] w) ?_ ?_
  ·
   refine Ae ?_
   refine ls F W Aa (Al DE Aa Aa Aa T3 F Aa 1 Aa).q fun a w F W => ?_
   refine ls F W Aa (As (v := Value.int .i64 p0.2.1) 0 F Aa Aa T3 Aa).q fun a w F W => ?_
   refine ls F W Aa (BP F Aa Aa).q fun a w F W => ?_
   refine ls F W Aa (Ai F Aa).q fun a w F W => ?_
   rcases Bool.eq_false_or_eq_true (decide (p0.2.1 = 0)) with hb0 | hb0
   ·
    rw [hb0] at F
    refine AE F W (Aj F Aa Aa Aa Aa) Aa (Ao Aa) (Al DE Aa Aa Aa T3 F Aa 2 Aa).q fun a w F W => ?_
    refine AE F W (Aj F Aa Aa Aa Aa) Aa (Ao Aa) (As (v := Value.int .i64 p0.2.2) 0 F Aa Aa T3 Aa).q fun a w F W => ?_
    refine AE F W (Aj F Aa Aa Aa Aa) Aa (Ao Aa) (BP F Aa Aa).q fun a w F W => ?_
    refine ls F W Aa (Au F Aa Aa Aa).q fun a w F W => ?_
    refine ls F W Aa (Af F Aa).q fun a w F W => ?_
    refine Ag (Ad ?_)
    exact ⟨F.re ⟨rfl, Aa, (by show some (Value.bool (decide (p0.2.2 = 0))) = some (Value.bool (decide (p0.2.1 = 0) && decide (p0.2.2 = 0))); try rw [hb0]; all_goals simp only [Bool.not_true, Bool.not_false, Bool.true_and, Bool.false_and, Bool.true_or, Bool.false_or, Bool.and_true, Bool.or_false, cond_true, cond_false]), trivial⟩, W⟩
   rw [hb0] at F
   iterate 3 refine Cw F Aa Aa Aa Aa Aa Aa Aa fun a F => ?_
   refine ls F W Aa (Ap F Aa Aa Aa).q fun a w F W => ?_
   refine ls F W Aa (Af F Aa).q fun a w F W => ?_
   refine Ag (Ad ?_)
   exact ⟨F.re ⟨rfl, Aa, (by show some (Value.bool false) = some (Value.bool (decide (p0.2.1 = 0) && decide (p0.2.2 = 0))); try rw [hb0]; all_goals simp only [Bool.not_true, Bool.not_false, Bool.true_and, Bool.false_and, Bool.true_or, Bool.false_or, Bool.and_true, Bool.or_false, cond_true, cond_false]), trivial⟩, W⟩
  rintro a w ⟨F, W⟩
  refine Aw (AB ?_)
  subst H
  refine AF (.inl Aa) F W Aa (Av F Aa) ?_
  exact ⟨rfl, W.done⟩
 have H := AK (Be hb) H
 rw [hb] at F
 clear hb
 refine Ay (Ad ?_)
 refine AJ (fun a w => Fr 59 [] [(4, .bool (decide (p0.1 = 2) && (decide (p0.2.1 = 0) && (decide (0 ≤ p0.2.2) && decide (p0.2.2 < p1)))))] a ∧ Stw ⟨Y, [], w0⟩ [(b1, [.int .i64 p0.1, .int .i64 p0.2.1, .int .i64 p0.2.2])] [] w) ?_ ?_
 ·
  refine Ae ?_
  refine ls F W Aa (Al DE Aa Aa Aa T3 F Aa 0 Aa).q fun a w F W => ?_
  refine ls F W Aa (As (v := Value.int .i64 p0.1) 0 F Aa Aa T3 Aa).q fun a w F W => ?_
  refine ls F W Aa (BP F Aa Aa).q fun a w F W => ?_
  refine ls F W Aa (Ai F Aa).q fun a w F W => ?_
  rcases Bool.eq_false_or_eq_true (decide (p0.1 = 2)) with hb0 | hb0
  ·
   rw [hb0] at F
   refine AE F W (Aj F Aa Aa Aa Aa) Aa (Ao Aa) (Al DE Aa Aa Aa T3 F Aa 1 Aa).q fun a w F W => ?_
   refine AE F W (Aj F Aa Aa Aa Aa) Aa (Ao Aa) (As (v := Value.int .i64 p0.2.1) 0 F Aa Aa T3 Aa).q fun a w F W => ?_
   refine AE F W (Aj F Aa Aa Aa Aa) Aa (Ao Aa) (BP F Aa Aa).q fun a w F W => ?_
   refine ls F W Aa (Au F Aa Aa Aa).q fun a w F W => ?_
   refine ls F W Aa (Ai F Aa).q fun a w F W => ?_
   rcases Bool.eq_false_or_eq_true (decide (p0.2.1 = 0)) with hb1 | hb1
   ·
    rw [hb1] at F
    refine AE F W (Aj F Aa Aa Aa Aa) Aa (Ao Aa) (Al DE Aa Aa Aa T3 F Aa 2 Aa).q fun a w F W => ?_
    refine AE F W (Aj F Aa Aa Aa Aa) Aa (Ao Aa) (As (v := Value.int .i64 p0.2.2) 0 F Aa Aa T3 Aa).q fun a w F W => ?_
    refine AE F W (Aj F Aa Aa Aa Aa) Aa (Ao Aa) (D3 F Aa Aa).q fun a w F W => ?_
    refine ls F W Aa (Au F Aa Aa Aa).q fun a w F W => ?_
    refine ls F W Aa (Ai F Aa).q fun a w F W => ?_
    rcases Bool.eq_false_or_eq_true (decide (0 ≤ p0.2.2)) with hb2 | hb2
    ·
     rw [hb2] at F
     refine AE F W (Aj F Aa Aa Aa Aa) Aa (Ao Aa) (Al DE Aa Aa Aa T3 F Aa 2 Aa).q fun a w F W => ?_
     refine AE F W (Aj F Aa Aa Aa Aa) Aa (Ao Aa) (As (v := Value.int .i64 p0.2.2) 0 F Aa Aa T3 Aa).q fun a w F W => ?_
     refine AE F W (Aj F Aa Aa Aa Aa) Aa (Ao Aa) (Ai F Aa).q fun a w F W => ?_
     refine AE F W (Aj F Aa Aa Aa Aa) Aa (Ao Aa) (BO F Aa Aa).q fun a w F W => ?_
     refine ls F W Aa (Au F Aa Aa Aa).q fun a w F W => ?_
     refine ls F W Aa (Af F Aa).q fun a w F W => ?_
     refine Ag (Ad ?_)
     exact ⟨F.re ⟨(by show some (Value.bool (decide (p0.2.2 < p1))) = some (Value.bool (decide (p0.1 = 2) && (decide (p0.2.1 = 0) && (decide (0 ≤ p0.2.2) && decide (p0.2.2 < p1))))); try rw [hb1]; try rw [hb2]; try rw [hb0]; all_goals simp only [Bool.not_true, Bool.not_false, Bool.true_and, Bool.false_and, Bool.true_or, Bool.false_or, Bool.and_true, Bool.or_false, cond_true, cond_false]), trivial⟩, W⟩
    rw [hb2] at F
    iterate 4 refine Cw F Aa Aa Aa Aa Aa Aa Aa fun a F => ?_
    refine ls F W Aa (Ap F Aa Aa Aa).q fun a w F W => ?_
    refine ls F W Aa (Af F Aa).q fun a w F W => ?_
    refine Ag (Ad ?_)
    exact ⟨F.re ⟨(by show some (Value.bool false) = some (Value.bool (decide (p0.1 = 2) && (decide (p0.2.1 = 0) && (decide (0 ≤ p0.2.2) && decide (p0.2.2 < p1))))); try rw [hb1]; try rw [hb2]; try rw [hb0]; all_goals simp only [Bool.not_true, Bool.not_false, Bool.true_and, Bool.false_and, Bool.true_or, Bool.false_or, Bool.and_true, Bool.or_false, cond_true, cond_false]), trivial⟩, W⟩
   rw [hb1] at F
   iterate 3 refine Cw F Aa Aa Aa Aa Aa Aa Aa fun a F => ?_
   refine ls F W Aa (Ap F Aa Aa Aa).q fun a w F W => ?_
   refine ls F W Aa (Ai F Aa).q fun a w F W => ?_
   iterate 4 refine Cw F Aa Aa Aa Aa Aa Aa Aa fun a F => ?_
   refine ls F W Aa (Ap F Aa Aa Aa).q fun a w F W => ?_
   refine ls F W Aa (Af F Aa).q fun a w F W => ?_
   refine Ag (Ad ?_)
   exact ⟨F.re ⟨(by show some (Value.bool false) = some (Value.bool (decide (p0.1 = 2) && (decide (p0.2.1 = 0) && (decide (0 ≤ p0.2.2) && decide (p0.2.2 < p1))))); try rw [hb1]; try rw [hb0]; all_goals simp only [Bool.not_true, Bool.not_false, Bool.true_and, Bool.false_and, Bool.true_or, Bool.false_or, Bool.and_true, Bool.or_false, cond_true, cond_false]), trivial⟩, W⟩
  rw [hb0] at F
  iterate 3 refine Cw F Aa Aa Aa Aa Aa Aa Aa fun a F => ?_
  refine ls F W Aa (Ap F Aa Aa Aa).q fun a w F W => ?_
  refine ls F W Aa (Ai F Aa).q fun a w F W => ?_
  iterate 3 refine Cw F Aa Aa Aa Aa Aa Aa Aa fun a F => ?_
  refine ls F W Aa (Ap F Aa Aa Aa).q fun a w F W => ?_
  refine ls F W Aa (Ai F Aa).q fun a w F W => ?_
  iterate 4 refine Cw F Aa Aa Aa Aa Aa Aa Aa fun a F => ?_
  refine ls F W Aa (Ap F Aa Aa Aa).q fun a w F W => ?_
  refine ls F W Aa (Af F Aa).q fun a w F W => ?_
  refine Ag (Ad ?_)
  exact ⟨F.re ⟨(by show some (Value.bool false) = some (Value.bool (decide (p0.1 = 2) && (decide (p0.2.1 = 0) && (decide (0 ≤ p0.2.2) && decide (p0.2.2 < p1))))); try rw [hb0]; all_goals simp only [Bool.not_true, Bool.not_false, Bool.true_and, Bool.false_and, Bool.true_or, Bool.false_or, Bool.and_true, Bool.or_false, cond_true, cond_false]), trivial⟩, W⟩
 rintro a w ⟨F, W⟩
 refine Aw ?_
 subst H
 refine AF (.inl Aa) F W Aa (Av F Aa) ?_
 exact ⟨rfl, W.done⟩
theorem Mm : Has Try.prog 72 := ⟨fun args w => An Try.func72 rfl (by decide) args w⟩
noncomputable def Es (p0 : List (Int × Int × Int)) (p1 : Int) : Int → Option (Int ⊕ (Unit ⊕ Bool))
  | x1 => (if x1 < (p0.length : Int) then (ix p0 x1).bind fun x2 => (if (!(FU x2 p1)) = true then some (.inr (.inr false)) else some (.inl (C3 (x1 + 1)))) else some (.inr (.inl ())))
noncomputable def E8 (p0 : List (Int × Int × Int)) (p1 : Int) : Option Bool := FC (BG (Es p0 p1) 0) fun _ => some (decide ((p0.length : Int) ≤ 16))
theorem Iu (Y : Nat → Prop) (w0 : World) (v1 : Value) (p0 : List (Int × Int × Int)) (p1 : Int) (r : Bool) (H : E8 p0 p1 = some r) (h_v1 : Sl w0 (NX []) BB v1 p0) :
    Calls Try.prog 51 #[v1, .int .i64 p1] w0 fun e w' => e = .returned (.bool r) ∧ Below w0.heap.size w0 w' := by
 refine enter Try.func51 Aa Try.ntmps51 Aa fun a F => ?_
 have W := Stw.start Y w0
 unfold E8 at H
 refine Ak (Ae ?_)
 refine ls F W Aa (Af F Aa).q fun a w F W => ?_
 refine Ag (Ad ?_)
 obtain ⟨o1, G1, K1, L1⟩ := Ia H
 refine AJ (fun a w => some (Sum.inl ()) = some o1 ∧ Fr 22 [] [(0, v1), (4, .bool false)] a ∧ Stw ⟨Y, [], w0⟩ [] [] w) ?_ ?_
 ·
  have H := G1
  clear G1 K1
  refine Ak (Ae ?_)
  refine ls F W Aa (Af F Aa).q fun a w F W => ?_
  refine Ag (Ad (AA ?_))
  refine BW H (fun s a w => Fr 22 [] [(0, v1), (1, .int .i64 p1), (4, .bool false), (5, .int .i64 s)] a ∧ Stw ⟨Y, [], w0⟩ [] [] w) ⟨F.re ⟨rfl, Aa, Aa, Aa, trivial⟩, W⟩ fun s o a w H L2 hR => ?_
  obtain ⟨x1, rfl⟩ : ∃ x, x = s := ⟨s, rfl⟩
  obtain ⟨F, W⟩ := hR
  have F : Fr 22 [] [(0, v1), (1, .int .i64 p1), (4, .bool false), (5, .int .i64 x1)] a := F
  have W : Stw ⟨Y, [], w0⟩ [] [] w := W
  rw [Es] at H
  refine Ak (Ak (Ae ?_))
  iterate 2 refine ls F W Aa (Ai F Aa).q fun a w F W => ?_
  refine ls F W Aa (Cl (r := BB) (l := p0) Iw Aa F Aa (Ax h_v1)).q fun a w F W => ?_
  refine ls F W Aa (BO F Aa Aa).q fun a w F W => ?_
  refine Ag (Ad ?_)
  refine Az F Aa (fun hb => ?_) fun hb => ?_
  ·
   have H := AL (Bd hb) H
   rw [hb] at F
   clear hb
   refine Ay (Ad (Ak (AA (Ak (Ae ?_)))))
   iterate 2 refine ls F W Aa (Ai F Aa).q fun a w F W => ?_
   obtain ⟨x2, h1, H⟩ := Aq H
   refine ls F W Aa (Bo (r := BB) Ks F Aa Aa (Ax h_v1) h1).q fun a w F W => ?_
   refine ls F W Aa (A9 (y := Value.agg #[.int .i64 x2.1, .int .i64 x2.2.1, .int .i64 x2.2.2]) (j := 0) (i := x1) F Aa Aa (Ax h_v1) h1 KK.to KM Aa).q fun a w F W => ?_
   refine ls F W Aa (Ai F Aa).q fun a w F W => ?_
   refine ls F W Aa (AW (v := Value.bool (FU x2 p1)) F Mm Aa (fun w W => Jp any w x2 p1 _ Aa)) fun a w F W => ?_
   refine ls F W Aa (E6 F Aa).q fun a w F W => ?_
   refine Ag (Ad ?_)
   refine Az F Aa (fun hb => ?_) fun hb => ?_
   ·
    have H := AL hb H
    rw [hb] at F
    clear hb
    refine Ak (Ae ?_)
    refine ls F W Aa (Af F Aa).q fun a w F W => ?_
    refine Ag (Ad (Aw (AM ?_)))
    iterate 2 refine AB ?_
    refine AM (AB ?_)
    have H := L2 _ H
    have H := L1 _ H
    have H := AO H
    subst H
    refine AF (.inl Aa) F W Aa (Av F Aa) ?_
    exact ⟨rfl, W.done⟩
   have H := AK (by rw [hb]; decide) H
   rw [hb] at F
   clear hb
   refine Ay (AV (Ad (Ae ?_)))
   refine ls F W Aa (Ai F Aa).q fun a w F W => ?_
   refine ls F W Aa (Cg F Aa Aa Aa).q fun a w F W => ?_
   refine ls F W Aa (Af F Aa).q fun a w F W => ?_
   refine Ag (Ad ?_)
   exact ⟨_, H, F.re ⟨rfl, Aa, Aa, Aa, trivial⟩, W⟩
  have H := AK (Be hb) H
  rw [hb] at F
  clear hb
  refine BV ?_
  iterate 2 refine Cd ?_
  refine BU (Ad ?_)
  have H := L2 _ H
  exact ⟨H, F.re ⟨rfl, Aa, trivial⟩, W⟩
 rintro a w ⟨hj, F, W⟩
 have H := K1 _ hj
 clear hj G1 K1 L1
 refine Ak (Ae ?_)
 refine ls F W Aa (Ai F Aa).q fun a w F W => ?_
 refine ls F W Aa (Cl (r := BB) (l := p0) Iw Aa F Aa (Ax h_v1)).q fun a w F W => ?_
 refine ls F W Aa (GH F Aa Aa).q fun a w F W => ?_
 refine ls F W Aa (Af F Aa).q fun a w F W => ?_
 refine Ag (Ad (Aw ?_))
 have H := AO H
 subst H
 refine AF (.inl Aa) F W Aa (Av F Aa) ?_
 exact ⟨rfl, W.done⟩
theorem MZ : Has Try.prog 51 := ⟨fun args w => An Try.func51 rfl (by decide) args w⟩
noncomputable def Fb (p0 : Int × (Int × (Int × Int × Int × Int) × (Int × Int × Int × Int)) × (List (Int × Int × Int))) (p1 : Int) : Option Bool := (if 0 ≤ p0.1 then (if p0.1 ≤ 65535 then (E2 p0.2.1).bind fun x2 => (if x2 = true then (E8 p0.2.2 p1).bind fun x3 => some x3 else some false) else some false) else some false).bind fun x1 => some x1
theorem Iq (Y : Nat → Prop) (w0 : World) (v1 : Value) (p0 : Int × (Int × (Int × Int × Int × Int) × (Int × Int × Int × Int)) × (List (Int × Int × Int))) (p1 : Int) (r : Bool) (H : Fb p0 p1 = some r) (h_v1 : Sl w0 (NX []) BB v1 p0.2.2) :
    Calls Try.prog 24 #[.agg #[.int .i64 p0.1, .int .i64 p0.2.1.1, .int .i64 p0.2.1.2.1.1, .int .i64 p0.2.1.2.1.2.1, .int .i64 p0.2.1.2.1.2.2.1, .int .i64 p0.2.1.2.1.2.2.2, .int .i64 p0.2.1.2.2.1, .int .i64 p0.2.1.2.2.2.1, .int .i64 p0.2.1.2.2.2.2.1, .int .i64 p0.2.1.2.2.2.2.2, v1], .int .i64 p1] w0 fun e w' => e = .returned (.bool r) ∧ Below w0.heap.size w0 w' := by
 refine enter Try.func24 Aa Try.ntmps24 Aa fun a F => ?_
 have W := Stw.start Y w0
 unfold Fb at H
 refine Ak (Ae ?_)
 refine B1 (cs := [.int .i64 p0.1, .int .i64 p0.2.1.1, .int .i64 p0.2.1.2.1.1, .int .i64 p0.2.1.2.1.2.1, .int .i64 p0.2.1.2.1.2.2.1, .int .i64 p0.2.1.2.1.2.2.2, .int .i64 p0.2.1.2.2.1, .int .i64 p0.2.1.2.2.2.1, .int .i64 p0.2.1.2.2.2.2.1, .int .i64 p0.2.1.2.2.2.2.2, v1]) F W Aa Aa Aa fun b1 a w F W => ?_
 refine ls F W Aa (Af F Aa).q fun a w F W => ?_
 refine Ag (Ad ?_)
 obtain ⟨o1, G1, K1⟩ := Aq H
 refine AJ (fun a w => ∃ x1 : Bool, some (x1) = some o1 ∧ Fr 24 [] [(4, .bool x1)] a ∧ Stw ⟨Y, [], w0⟩ [(b1, [.int .i64 p0.1, .int .i64 p0.2.1.1, .int .i64 p0.2.1.2.1.1, .int .i64 p0.2.1.2.1.2.1, .int .i64 p0.2.1.2.1.2.2.1, .int .i64 p0.2.1.2.1.2.2.2, .int .i64 p0.2.1.2.2.1, .int .i64 p0.2.1.2.2.2.1, .int .i64 p0.2.1.2.2.2.2.1, .int .i64 p0.2.1.2.2.2.2.2, v1])] [] w) ?_ ?_
 ·
  have H := G1
  clear G1 K1
  refine Ae ?_
  refine ls F W Aa (Al Cp Aa Aa Aa T3 F Aa 0 Aa).q fun a w F W => ?_
  refine ls F W Aa (As (v := Value.int .i64 p0.1) 0 F Aa Aa T3 Aa).q fun a w F W => ?_
  refine ls F W Aa (D3 F Aa Aa).q fun a w F W => ?_
  refine ls F W Aa (Ai F Aa).q fun a w F W => ?_
  rcases Bool.eq_false_or_eq_true (decide (0 ≤ p0.1)) with hb | hb
  ·
   have H := AL (Bd hb) H
   rw [hb] at F
   clear hb
   refine AE F W (Aj F Aa Aa Aa Aa) Aa (Ao Aa) (Al Cp Aa Aa Aa T3 F Aa 0 Aa).q fun a w F W => ?_
   refine AE F W (Aj F Aa Aa Aa Aa) Aa (Ao Aa) (As (v := Value.int .i64 p0.1) 0 F Aa Aa T3 Aa).q fun a w F W => ?_
   refine AE F W (Aj F Aa Aa Aa Aa) Aa (Ao Aa) (GH F Aa Aa).q fun a w F W => ?_
   refine ls F W Aa (Au F Aa Aa Aa).q fun a w F W => ?_
   refine ls F W Aa (Ai F Aa).q fun a w F W => ?_
   rcases Bool.eq_false_or_eq_true (decide (p0.1 ≤ 65535)) with hb | hb
   ·
    have H := AL (Bd hb) H
    rw [hb] at F
    clear hb
    refine AE F W (Aj F Aa Aa Aa Aa) Aa (Ao Aa) (Al Cp Aa Aa Aa El F Aa 1 Aa).q fun a w F W => ?_
    refine AE F W (Aj F Aa Aa Aa Aa) Aa (Ao Aa) (As (v := Value.agg #[.int .i64 p0.2.1.1, .int .i64 p0.2.1.2.1.1, .int .i64 p0.2.1.2.1.2.1, .int .i64 p0.2.1.2.1.2.2.1, .int .i64 p0.2.1.2.1.2.2.2, .int .i64 p0.2.1.2.2.1, .int .i64 p0.2.1.2.2.2.1, .int .i64 p0.2.1.2.2.2.2.1, .int .i64 p0.2.1.2.2.2.2.2]) 0 F Aa Aa El Aa).q fun a w F W => ?_
    refine Gs (Aj F Aa Aa Aa Aa) ?_
    obtain ⟨x2, h1, H⟩ := Aq H
    refine ls F W Aa (AW (v := Value.bool x2) F MQ Aa (fun w W => Ie any w p0.2.1 _ h1)) fun a w F W => ?_
    refine ls F W Aa (Au F Aa Aa Aa).q fun a w F W => ?_
    refine ls F W Aa (Ai F Aa).q fun a w F W => ?_
    rcases Bool.eq_false_or_eq_true x2 with hb | hb
    ·
     have H := AL hb H
     rw [hb] at F
     clear hb
     refine AE F W (Aj F Aa Aa Aa Aa) Aa (Ao Aa) (Al Cp Aa Aa Aa Ib F Aa 10 Aa).q fun a w F W => ?_
     refine AE F W (Aj F Aa Aa Aa Aa) Aa (Ao Aa) (As (v := v1) 0 F Aa Aa Ib Aa).q fun a w F W => ?_
     refine AE F W (Aj F Aa Aa Aa Aa) Aa (Ao Aa) (Ai F Aa).q fun a w F W => ?_
     refine Gs (Aj F Aa Aa Aa Aa) ?_
     obtain ⟨x3, h2, H⟩ := Aq H
     refine ls F W Aa (AW (v := Value.bool x3) F MZ Aa (fun w W => Iu any w (v1) p0.2.2 p1 _ h2 (((Ax h_v1) : Dl _ _ _ _ _ _) w W).nx)) fun a w F W => ?_
     refine ls F W Aa (Au F Aa Aa Aa).q fun a w F W => ?_
     refine ls F W Aa (Af F Aa).q fun a w F W => ?_
     refine Ag (Ad ?_)
     exact ⟨_, H, F.re ⟨rfl, trivial⟩, W⟩
    have H := AK (by rw [hb]; decide) H
    rw [hb] at F
    clear hb
    iterate 4 refine Cw F Aa Aa Aa Aa Aa Aa Aa fun a F => ?_
    refine ls F W Aa (Ap F Aa Aa Aa).q fun a w F W => ?_
    refine ls F W Aa (Af F Aa).q fun a w F W => ?_
    refine Ag (Ad ?_)
    exact ⟨_, H, F.re ⟨rfl, trivial⟩, W⟩
   have H := AK (Be hb) H
   rw [hb] at F
   clear hb
   iterate 3 refine Cw F Aa Aa Aa Aa Aa Aa Aa fun a F => ?_
   refine ls F W Aa (Ap F Aa Aa Aa).q fun a w F W => ?_
   refine ls F W Aa (Ai F Aa).q fun a w F W => ?_
   iterate 4 refine Cw F Aa Aa Aa Aa Aa Aa Aa fun a F => ?_
   refine ls F W Aa (Ap F Aa Aa Aa).q fun a w F W => ?_
   refine ls F W Aa (Af F Aa).q fun a w F W => ?_
   refine Ag (Ad ?_)
   exact ⟨_, H, F.re ⟨rfl, trivial⟩, W⟩
  have H := AK (Be hb) H
  rw [hb] at F
  clear hb
  iterate 3 refine Cw F Aa Aa Aa Aa Aa Aa Aa fun a F => ?_
  refine ls F W Aa (Ap F Aa Aa Aa).q fun a w F W => ?_
  refine ls F W Aa (Ai F Aa).q fun a w F W => ?_
  iterate 3 refine Cw F Aa Aa Aa Aa Aa Aa Aa fun a F => ?_
  refine ls F W Aa (Ap F Aa Aa Aa).q fun a w F W => ?_
  refine ls F W Aa (Ai F Aa).q fun a w F W => ?_
  iterate 4 refine Cw F Aa Aa Aa Aa Aa Aa Aa fun a F => ?_
  refine ls F W Aa (Ap F Aa Aa Aa).q fun a w F W => ?_
  refine ls F W Aa (Af F Aa).q fun a w F W => ?_
  refine Ag (Ad ?_)
  exact ⟨_, H, F.re ⟨rfl, trivial⟩, W⟩
 rintro a w ⟨x1, hj, F, W⟩
 have hj := AO hj
 subst hj
 have H := K1
 clear G1 K1
 refine Aw ?_
 have H := AO H
 subst H
 refine AF (.inl Aa) F W Aa (Av F Aa) ?_
 exact ⟨rfl, W.done⟩
theorem Mw : Has Try.prog 24 := ⟨fun args w => An Try.func24 rfl (by decide) args w⟩
def Gf (p0 : Int × (Int × (Int × Int × Int × Int) × (Int × Int × Int × Int)) × (List (Int × Int × Int))) (p1 : Int × (Int × (Int × Int × Int × Int) × (Int × Int × Int × Int)) × (List (Int × Int × Int))) : Bool := (decide (p0.1 = p1.1) && decide (p0.2.1.1 = p1.2.1.1 ∧ p0.2.1.2.1.1 = p1.2.1.2.1.1 ∧ p0.2.1.2.1.2.1 = p1.2.1.2.1.2.1 ∧ p0.2.1.2.1.2.2.1 = p1.2.1.2.1.2.2.1 ∧ p0.2.1.2.1.2.2.2 = p1.2.1.2.1.2.2.2 ∧ p0.2.1.2.2.1 = p1.2.1.2.2.1 ∧ p0.2.1.2.2.2.1 = p1.2.1.2.2.2.1 ∧ p0.2.1.2.2.2.2.1 = p1.2.1.2.2.2.2.1 ∧ p0.2.1.2.2.2.2.2 = p1.2.1.2.2.2.2.2))
theorem Jb (Y : Nat → Prop) (w0 : World) (v1 : Value) (v2 : Value) (p0 : Int × (Int × (Int × Int × Int × Int) × (Int × Int × Int × Int)) × (List (Int × Int × Int))) (p1 : Int × (Int × (Int × Int × Int × Int) × (Int × Int × Int × Int)) × (List (Int × Int × Int))) (r : Bool) (H : Gf p0 p1 = r) (h_v1 : Sl w0 (NX []) BB v1 p0.2.2) (h_v2 : Sl w0 (NX []) BB v2 p1.2.2) :
    Calls Try.prog 32 #[.agg #[.int .i64 p0.1, .int .i64 p0.2.1.1, .int .i64 p0.2.1.2.1.1, .int .i64 p0.2.1.2.1.2.1, .int .i64 p0.2.1.2.1.2.2.1, .int .i64 p0.2.1.2.1.2.2.2, .int .i64 p0.2.1.2.2.1, .int .i64 p0.2.1.2.2.2.1, .int .i64 p0.2.1.2.2.2.2.1, .int .i64 p0.2.1.2.2.2.2.2, v1], .agg #[.int .i64 p1.1, .int .i64 p1.2.1.1, .int .i64 p1.2.1.2.1.1, .int .i64 p1.2.1.2.1.2.1, .int .i64 p1.2.1.2.1.2.2.1, .int .i64 p1.2.1.2.1.2.2.2, .int .i64 p1.2.1.2.2.1, .int .i64 p1.2.1.2.2.2.1, .int .i64 p1.2.1.2.2.2.2.1, .int .i64 p1.2.1.2.2.2.2.2, v2]] w0 fun e w' => e = .returned (.bool r) ∧ Below w0.heap.size w0 w' := by
 refine enter Try.func32 Aa Try.ntmps32 Aa fun a F => ?_
 have W := Stw.start Y w0
 unfold Gf at H
 refine Ak (Ae ?_)
 refine B1 (cs := [.int .i64 p0.1, .int .i64 p0.2.1.1, .int .i64 p0.2.1.2.1.1, .int .i64 p0.2.1.2.1.2.1, .int .i64 p0.2.1.2.1.2.2.1, .int .i64 p0.2.1.2.1.2.2.2, .int .i64 p0.2.1.2.2.1, .int .i64 p0.2.1.2.2.2.1, .int .i64 p0.2.1.2.2.2.2.1, .int .i64 p0.2.1.2.2.2.2.2, v1]) F W Aa Aa Aa fun b1 a w F W => ?_
 refine B1 (cs := [.int .i64 p1.1, .int .i64 p1.2.1.1, .int .i64 p1.2.1.2.1.1, .int .i64 p1.2.1.2.1.2.1, .int .i64 p1.2.1.2.1.2.2.1, .int .i64 p1.2.1.2.1.2.2.2, .int .i64 p1.2.1.2.2.1, .int .i64 p1.2.1.2.2.2.1, .int .i64 p1.2.1.2.2.2.2.1, .int .i64 p1.2.1.2.2.2.2.2, v2]) F W Aa Aa Aa fun b2 a w F W => ?_
 refine ls F W Aa (Af F Aa).q fun a w F W => ?_
 refine Ag (Ad ?_)
 refine AJ (fun a w => Fr 17 [] [(4, .bool (decide (p0.1 = p1.1) && decide (p0.2.1.1 = p1.2.1.1 ∧ p0.2.1.2.1.1 = p1.2.1.2.1.1 ∧ p0.2.1.2.1.2.1 = p1.2.1.2.1.2.1 ∧ p0.2.1.2.1.2.2.1 = p1.2.1.2.1.2.2.1 ∧ p0.2.1.2.1.2.2.2 = p1.2.1.2.1.2.2.2 ∧ p0.2.1.2.2.1 = p1.2.1.2.2.1 ∧ p0.2.1.2.2.2.1 = p1.2.1.2.2.2.1 ∧ p0.2.1.2.2.2.2.1 = p1.2.1.2.2.2.2.1 ∧ p0.2.1.2.2.2.2.2 = p1.2.1.2.2.2.2.2)))] a ∧ Stw ⟨Y, [], w0⟩ [(b2, [.int .i64 p1.1, .int .i64 p1.2.1.1, .int .i64 p1.2.1.2.1.1, .int .i64 p1.2.1.2.1.2.1, .int .i64 p1.2.1.2.1.2.2.1, .int .i64 p1.2.1.2.1.2.2.2, .int .i64 p1.2.1.2.2.1, .int .i64 p1.2.1.2.2.2.1, .int .i64 p1.2.1.2.2.2.2.1, .int .i64 p1.2.1.2.2.2.2.2, v2]), (b1, [.int .i64 p0.1, .int .i64 p0.2.1.1, .int .i64 p0.2.1.2.1.1, .int .i64 p0.2.1.2.1.2.1, .int .i64 p0.2.1.2.1.2.2.1, .int .i64 p0.2.1.2.1.2.2.2, .int .i64 p0.2.1.2.2.1, .int .i64 p0.2.1.2.2.2.1, .int .i64 p0.2.1.2.2.2.2.1, .int .i64 p0.2.1.2.2.2.2.2, v1])] [] w) ?_ ?_
 ·
  refine Ae ?_
  refine ls F W Aa (Al Cp Aa Aa Aa T3 F Aa 0 Aa).q fun a w F W => ?_
  refine ls F W Aa (As (v := Value.int .i64 p0.1) 1 F Aa Aa T3 Aa).q fun a w F W => ?_
  refine ls F W Aa (Al Cp Aa Aa Aa T3 F Aa 0 Aa).q fun a w F W => ?_
  refine ls F W Aa (As (v := Value.int .i64 p1.1) 0 F Aa Aa T3 Aa).q fun a w F W => ?_
  refine ls F W Aa (BP F Aa Aa).q fun a w F W => ?_
  refine ls F W Aa (Ai F Aa).q fun a w F W => ?_
  rcases Bool.eq_false_or_eq_true (decide (p0.1 = p1.1)) with hb0 | hb0
  ·
   rw [hb0] at F
   refine AE F W (Aj F Aa Aa Aa Aa) Aa (Ao Aa) (Al Cp Aa Aa Aa El F Aa 1 Aa).q fun a w F W => ?_
   refine AE F W (Aj F Aa Aa Aa Aa) Aa (Ao Aa) (As (v := Value.agg #[.int .i64 p0.2.1.1, .int .i64 p0.2.1.2.1.1, .int .i64 p0.2.1.2.1.2.1, .int .i64 p0.2.1.2.1.2.2.1, .int .i64 p0.2.1.2.1.2.2.2, .int .i64 p0.2.1.2.2.1, .int .i64 p0.2.1.2.2.2.1, .int .i64 p0.2.1.2.2.2.2.1, .int .i64 p0.2.1.2.2.2.2.2]) 1 F Aa Aa El Aa).q fun a w F W => ?_
   refine AE F W (Aj F Aa Aa Aa Aa) Aa (Ao Aa) (Al Cp Aa Aa Aa El F Aa 1 Aa).q fun a w F W => ?_
   refine AE F W (Aj F Aa Aa Aa Aa) Aa (Ao Aa) (As (v := Value.agg #[.int .i64 p1.2.1.1, .int .i64 p1.2.1.2.1.1, .int .i64 p1.2.1.2.1.2.1, .int .i64 p1.2.1.2.1.2.2.1, .int .i64 p1.2.1.2.1.2.2.2, .int .i64 p1.2.1.2.2.1, .int .i64 p1.2.1.2.2.2.1, .int .i64 p1.2.1.2.2.2.2.1, .int .i64 p1.2.1.2.2.2.2.2]) 0 F Aa Aa El Aa).q fun a w F W => ?_
   refine AE F W (Aj F Aa Aa Aa Aa) Aa (Ao Aa) (Jx (t := decide (p0.2.1.1 = p1.2.1.1 ∧ p0.2.1.2.1.1 = p1.2.1.2.1.1 ∧ p0.2.1.2.1.2.1 = p1.2.1.2.1.2.1 ∧ p0.2.1.2.1.2.2.1 = p1.2.1.2.1.2.2.1 ∧ p0.2.1.2.1.2.2.2 = p1.2.1.2.1.2.2.2 ∧ p0.2.1.2.2.1 = p1.2.1.2.2.1 ∧ p0.2.1.2.2.2.1 = p1.2.1.2.2.2.1 ∧ p0.2.1.2.2.2.2.1 = p1.2.1.2.2.2.2.1 ∧ p0.2.1.2.2.2.2.2 = p1.2.1.2.2.2.2.2)) Lh (Lr _ _ _ _ _ _ _ _ _ _ _ _ _ _ _ _ _ _) F Aa Aa).q fun a w F W => ?_
   refine ls F W Aa (Au F Aa Aa Aa).q fun a w F W => ?_
   refine ls F W Aa (Af F Aa).q fun a w F W => ?_
   refine Ag (Ad ?_)
   exact ⟨F.re ⟨(by show some (Value.bool (decide (p0.2.1.1 = p1.2.1.1 ∧ p0.2.1.2.1.1 = p1.2.1.2.1.1 ∧ p0.2.1.2.1.2.1 = p1.2.1.2.1.2.1 ∧ p0.2.1.2.1.2.2.1 = p1.2.1.2.1.2.2.1 ∧ p0.2.1.2.1.2.2.2 = p1.2.1.2.1.2.2.2 ∧ p0.2.1.2.2.1 = p1.2.1.2.2.1 ∧ p0.2.1.2.2.2.1 = p1.2.1.2.2.2.1 ∧ p0.2.1.2.2.2.2.1 = p1.2.1.2.2.2.2.1 ∧ p0.2.1.2.2.2.2.2 = p1.2.1.2.2.2.2.2))) = some (Value.bool (decide (p0.1 = p1.1) && decide (p0.2.1.1 = p1.2.1.1 ∧ p0.2.1.2.1.1 = p1.2.1.2.1.1 ∧ p0.2.1.2.1.2.1 = p1.2.1.2.1.2.1 ∧ p0.2.1.2.1.2.2.1 = p1.2.1.2.1.2.2.1 ∧ p0.2.1.2.1.2.2.2 = p1.2.1.2.1.2.2.2 ∧ p0.2.1.2.2.1 = p1.2.1.2.2.1 ∧ p0.2.1.2.2.2.1 = p1.2.1.2.2.2.1 ∧ p0.2.1.2.2.2.2.1 = p1.2.1.2.2.2.2.1 ∧ p0.2.1.2.2.2.2.2 = p1.2.1.2.2.2.2.2))); try rw [hb0]; all_goals simp only [Bool.not_true, Bool.not_false, Bool.true_and, Bool.false_and, Bool.true_or, Bool.false_or, Bool.and_true, Bool.or_false, cond_true, cond_false]), trivial⟩, W⟩
  rw [hb0] at F
  iterate 5 refine Cw F Aa Aa Aa Aa Aa Aa Aa fun a F => ?_
  refine ls F W Aa (Ap F Aa Aa Aa).q fun a w F W => ?_
  refine ls F W Aa (Af F Aa).q fun a w F W => ?_
  refine Ag (Ad ?_)
  exact ⟨F.re ⟨(by show some (Value.bool false) = some (Value.bool (decide (p0.1 = p1.1) && decide (p0.2.1.1 = p1.2.1.1 ∧ p0.2.1.2.1.1 = p1.2.1.2.1.1 ∧ p0.2.1.2.1.2.1 = p1.2.1.2.1.2.1 ∧ p0.2.1.2.1.2.2.1 = p1.2.1.2.1.2.2.1 ∧ p0.2.1.2.1.2.2.2 = p1.2.1.2.1.2.2.2 ∧ p0.2.1.2.2.1 = p1.2.1.2.2.1 ∧ p0.2.1.2.2.2.1 = p1.2.1.2.2.2.1 ∧ p0.2.1.2.2.2.2.1 = p1.2.1.2.2.2.2.1 ∧ p0.2.1.2.2.2.2.2 = p1.2.1.2.2.2.2.2))); try rw [hb0]; all_goals simp only [Bool.not_true, Bool.not_false, Bool.true_and, Bool.false_and, Bool.true_or, Bool.false_or, Bool.and_true, Bool.or_false, cond_true, cond_false]), trivial⟩, W⟩
 rintro a w ⟨F, W⟩
 refine Aw ?_
 subst H
 refine AF (.inl Aa) F W Aa (Av F Aa) ?_
 exact ⟨rfl, W.done⟩
theorem MG : Has Try.prog 32 := ⟨fun args w => An Try.func32 rfl (by decide) args w⟩
noncomputable def DG (p0 : List (Int × (Int × (Int × Int × Int × Int) × (Int × Int × Int × Int)) × (List (Int × Int × Int)))) (x1 : Int) : Int → Option (Int ⊕ (Unit ⊕ (Int ⊕ (Unit ⊕ Bool))))
  | x4 => (if x4 < x1 then ((ix p0 x4).bind fun x6 => (ix p0 x1).bind fun x7 => (if x6.1 < x7.1 then some true else (ix p0 x4).bind fun x8 => (ix p0 x1).bind fun x9 => some (Gf x8 x9))).bind fun x5 => (if x5 = true then some (.inr (.inr (.inr (.inr false)))) else some (.inl (C3 (x4 + 1)))) else some (.inr (.inl ())))
noncomputable def Dw (p0 : List (Int × (Int × (Int × Int × Int × Int) × (Int × Int × Int × Int)) × (List (Int × Int × Int)))) (p1 : Int) : Int → Option (Int ⊕ (Unit ⊕ Bool))
  | x1 => (if x1 < (p0.length : Int) then FC ((ix p0 x1).bind fun x2 => (Fb x2 p1).bind fun x3 => (if (!x3) = true then some (.inr (.inr (.inr false))) else BG (DG p0 x1) 0)) fun _ => some (.inl (C3 (x1 + 1))) else some (.inr (.inl ())))
noncomputable def Fe (p0 : List (Int × (Int × (Int × Int × Int × Int) × (Int × Int × Int × Int)) × (List (Int × Int × Int)))) (p1 : Int) (p2 : Int) : Option Bool := FC (BG (Dw p0 p1) 0) fun _ => some (decide ((p0.length : Int) ≤ p2))
theorem Io (Y : Nat → Prop) (w0 : World) (v1 : Value) (p0 : List (Int × (Int × (Int × Int × Int × Int) × (Int × Int × Int × Int)) × (List (Int × Int × Int)))) (p1 : Int) (p2 : Int) (r : Bool) (H : Fe p0 p1 p2 = some r) (h_v1 : Sl w0 (NX []) A4 v1 p0) :
    Calls Try.prog 11 #[v1, .int .i64 p1, .int .i64 p2] w0 fun e w' => e = .returned (.bool r) ∧ Below w0.heap.size w0 w' := by
 refine enter Try.func11 Aa Try.ntmps11 Aa fun a F => ?_
 have W := Stw.start Y w0
 obtain ⟨v2, h1, h_v1⟩ := h_v1.ex Bz
 unfold Fe at H
 refine Ak (Ae ?_)
 refine ls F W Aa (Af F Aa).q fun a w F W => ?_
 refine Ag (Ad ?_)
 obtain ⟨o1, G1, K1, L1⟩ := Ia H
 refine AJ (fun a w => some (Sum.inl ()) = some o1 ∧ Fr 53 [] [(0, v1), (2, .int .i64 p2), (6, .bool false)] a ∧ Stw ⟨Y, [], w0⟩ [] [] w) ?_ ?_
 ·
  have H := G1
  clear G1 K1
  refine Ak (Ae ?_)
  refine ls F W Aa (Af F Aa).q fun a w F W => ?_
  refine Ag (Ad (AA ?_))
  refine BW H (fun s a w => Fr 53 [] [(0, v1), (1, .int .i64 p1), (2, .int .i64 p2), (6, .bool false), (7, .int .i64 s)] a ∧ Stw ⟨Y, [], w0⟩ [] [] w) ⟨F.re ⟨rfl, Aa, Aa, Aa, Aa, trivial⟩, W⟩ fun s o a w H L2 hR => ?_
  obtain ⟨x1, rfl⟩ : ∃ x, x = s := ⟨s, rfl⟩
  obtain ⟨F, W⟩ := hR
  have F : Fr 53 [] [(0, v1), (1, .int .i64 p1), (2, .int .i64 p2), (6, .bool false), (7, .int .i64 x1)] a := F
  have W : Stw ⟨Y, [], w0⟩ [] [] w := W
  rw [Dw] at H
  refine Ak (Ak (Ae ?_))
  iterate 2 refine ls F W Aa (Ai F Aa).q fun a w F W => ?_
  refine ls F W Aa (Cl (r := A4) (l := p0) Ee Aa F Aa (Bk Bz h1 (Ax h_v1))).q fun a w F W => ?_
  refine ls F W Aa (BO F Aa Aa).q fun a w F W => ?_
  refine Ag (Ad ?_)
  refine Az F Aa (fun hb => ?_) fun hb => ?_
  ·
   have H := AL (Bd hb) H
   rw [hb] at F
   clear hb
   refine Ay (Ad ?_)
   obtain ⟨o3, G3, K3, L3⟩ := Ia H
   refine AJ (fun a w => some (Sum.inl ()) = some o3 ∧ Fr 53 [] [(0, v1), (1, .int .i64 p1), (2, .int .i64 p2), (6, .bool false), (7, .int .i64 x1)] a ∧ Stw ⟨Y, [], w0⟩ [] [] w) ?_ ?_
   ·
    have H := G3
    clear G3 K3
    refine AA (Ak (Ak (Ae ?_)))
    iterate 2 refine ls F W Aa (Ai F Aa).q fun a w F W => ?_
    obtain ⟨x2, h2, H⟩ := Aq H
    obtain ⟨v3, h3, h4⟩ := Cr h1 h2
    have h5 : B9 v3 = [.int .i64 x2.1, .int .i64 x2.2.1.1, .int .i64 x2.2.1.2.1.1, .int .i64 x2.2.1.2.1.2.1, .int .i64 x2.2.1.2.1.2.2.1, .int .i64 x2.2.1.2.1.2.2.2, .int .i64 x2.2.1.2.2.1, .int .i64 x2.2.1.2.2.2.1, .int .i64 x2.2.1.2.2.2.2.1, .int .i64 x2.2.1.2.2.2.2.2, (v3.2.2.1)] := congrArg (fun q : Int × (Int × (Int × Int × Int × Int) × (Int × Int × Int × Int)) × (List (Int × Int × Int)) => ([.int .i64 q.1, .int .i64 q.2.1.1, .int .i64 q.2.1.2.1.1, .int .i64 q.2.1.2.1.2.1, .int .i64 q.2.1.2.1.2.2.1, .int .i64 q.2.1.2.1.2.2.2, .int .i64 q.2.1.2.2.1, .int .i64 q.2.1.2.2.2.1, .int .i64 q.2.1.2.2.2.2.1, .int .i64 q.2.1.2.2.2.2.2, (v3.2.2.1)] : List Value)) h4
    refine ls F W Aa (Bo (r := Cz) EQ F Aa Aa (Ax h_v1) h3).q fun a w F W => ?_
    refine ls F W Aa (A9 (y := Value.agg #[.int .i64 x2.1, .int .i64 x2.2.1.1, .int .i64 x2.2.1.2.1.1, .int .i64 x2.2.1.2.1.2.1, .int .i64 x2.2.1.2.1.2.2.1, .int .i64 x2.2.1.2.1.2.2.2, .int .i64 x2.2.1.2.2.1, .int .i64 x2.2.1.2.2.2.1, .int .i64 x2.2.1.2.2.2.2.1, .int .i64 x2.2.1.2.2.2.2.2, (v3.2.2.1)]) (j := 0) (i := x1) (enc := B9) F Aa Aa (Ax h_v1) h3 DZ C6 (by rw [h5]; rfl)).q fun a w F W => ?_
    refine ls F W Aa (Ai F Aa).q fun a w F W => ?_
    obtain ⟨x3, h6, H⟩ := Aq H
    refine ls F W Aa (AW (v := Value.bool x3) F Mw Aa (fun w W => Iq any w ((v3.2.2.1)) x2 p1 _ h6 (((ED (Ax h_v1) h3 (BR.snd (BR.snd BR.here)) (congrArg (fun q : Int × (Int × (Int × Int × Int × Int) × (Int × Int × Int × Int)) × (List (Int × Int × Int)) => q.2.2) h4)) : Dl _ _ _ _ _ _) w W).nx)) fun a w F W => ?_
    refine ls F W Aa (E6 F Aa).q fun a w F W => ?_
    refine Ag (Ad ?_)
    refine Az F Aa (fun hb => ?_) fun hb => ?_
    ·
     have H := AL hb H
     rw [hb] at F
     clear hb
     refine Ak (Ae ?_)
     refine ls F W Aa (Af F Aa).q fun a w F W => ?_
     refine Ag (Ad (Aw (AB (AM ?_))))
     iterate 2 refine AB ?_
     refine AM (AB ?_)
     have H := L3 _ H
     have H := L2 _ H
     have H := L1 _ H
     have H := AO H
     subst H
     refine AF (.inl Aa) F W Aa (Av F Aa) ?_
     exact ⟨rfl, W.done⟩
    have H := AK (by rw [hb]; decide) H
    rw [hb] at F
    clear hb
    refine Ay (Ad (Ak (Ae ?_)))
    refine ls F W Aa (Af F Aa).q fun a w F W => ?_
    refine Ag (Ad (AA ?_))
    refine BW H (fun s a w => Fr 53 [] [(0, v1), (1, .int .i64 p1), (2, .int .i64 p2), (6, .bool false), (7, .int .i64 x1), (8, .int .i64 s)] a ∧ Stw ⟨Y, [], w0⟩ [] [] w) ⟨F.re ⟨rfl, Aa, Aa, Aa, Aa, Aa, trivial⟩, W⟩ fun s o a w H L4 hR => ?_
    obtain ⟨x4, rfl⟩ : ∃ x, x = s := ⟨s, rfl⟩
    obtain ⟨F, W⟩ := hR
    have F : Fr 53 [] [(0, v1), (1, .int .i64 p1), (2, .int .i64 p2), (6, .bool false), (7, .int .i64 x1), (8, .int .i64 x4)] a := F
    have W : Stw ⟨Y, [], w0⟩ [] [] w := W
    rw [DG] at H
    refine Ak (Ak (Ae ?_))
    iterate 2 refine ls F W Aa (Ai F Aa).q fun a w F W => ?_
    refine ls F W Aa (BO F Aa Aa).q fun a w F W => ?_
    refine Ag (Ad ?_)
    refine Az F Aa (fun hb => ?_) fun hb => ?_
    ·
     have H := AL (Bd hb) H
     rw [hb] at F
     clear hb
     refine Ay (Ad (Ak (AA ?_)))
     obtain ⟨o5, G5, K5⟩ := Aq H
     refine AJ (fun a w => ∃ x5 : Bool, some (x5) = some o5 ∧ Fr 53 [] [(0, v1), (1, .int .i64 p1), (2, .int .i64 p2), (6, .bool false), (7, .int .i64 x1), (8, .int .i64 x4), (48, .bool x5)] a ∧ Stw ⟨Y, [], w0⟩ [] [] w) ?_ ?_
     ·
      have H := G5
      clear G5 K5
      refine CR W MO (by kernel_rfl) ?_
      iterate 2 refine qs F Aa (Ai F Aa).q fun a F => ?_
      obtain ⟨x6, h7, H⟩ := Aq H
      obtain ⟨v4, h8, h9⟩ := Cr h1 h7
      have h10 : B9 v4 = [.int .i64 x6.1, .int .i64 x6.2.1.1, .int .i64 x6.2.1.2.1.1, .int .i64 x6.2.1.2.1.2.1, .int .i64 x6.2.1.2.1.2.2.1, .int .i64 x6.2.1.2.1.2.2.2, .int .i64 x6.2.1.2.2.1, .int .i64 x6.2.1.2.2.2.1, .int .i64 x6.2.1.2.2.2.2.1, .int .i64 x6.2.1.2.2.2.2.2, (v4.2.2.1)] := congrArg (fun q : Int × (Int × (Int × Int × Int × Int) × (Int × Int × Int × Int)) × (List (Int × Int × Int)) => ([.int .i64 q.1, .int .i64 q.2.1.1, .int .i64 q.2.1.2.1.1, .int .i64 q.2.1.2.1.2.1, .int .i64 q.2.1.2.1.2.2.1, .int .i64 q.2.1.2.1.2.2.2, .int .i64 q.2.1.2.2.1, .int .i64 q.2.1.2.2.2.1, .int .i64 q.2.1.2.2.2.2.1, .int .i64 q.2.1.2.2.2.2.2, (v4.2.2.1)] : List Value)) h9
      refine qs F Aa (Bo (r := Cz) EQ F Aa Aa (Ax h_v1) h8).q fun a F => ?_
      refine qs F Aa (Al Cp Aa Aa Aa T3 F Aa (Ei v1 + (x4).toNat * 11) Aa).q fun a F => ?_
      refine qs F Aa (A9 (y := Value.int .i64 x6.1) (j := 0) (i := x4) (enc := B9) F Aa Aa (Ax h_v1) h8 DZ T3 (by rw [h10]; rfl)).q fun a F => ?_
      iterate 2 refine qs F Aa (Ai F Aa).q fun a F => ?_
      obtain ⟨x7, h11, H⟩ := Aq H
      obtain ⟨v5, h12, h13⟩ := Cr h1 h11
      have h14 : B9 v5 = [.int .i64 x7.1, .int .i64 x7.2.1.1, .int .i64 x7.2.1.2.1.1, .int .i64 x7.2.1.2.1.2.1, .int .i64 x7.2.1.2.1.2.2.1, .int .i64 x7.2.1.2.1.2.2.2, .int .i64 x7.2.1.2.2.1, .int .i64 x7.2.1.2.2.2.1, .int .i64 x7.2.1.2.2.2.2.1, .int .i64 x7.2.1.2.2.2.2.2, (v5.2.2.1)] := congrArg (fun q : Int × (Int × (Int × Int × Int × Int) × (Int × Int × Int × Int)) × (List (Int × Int × Int)) => ([.int .i64 q.1, .int .i64 q.2.1.1, .int .i64 q.2.1.2.1.1, .int .i64 q.2.1.2.1.2.1, .int .i64 q.2.1.2.1.2.2.1, .int .i64 q.2.1.2.1.2.2.2, .int .i64 q.2.1.2.2.1, .int .i64 q.2.1.2.2.2.1, .int .i64 q.2.1.2.2.2.2.1, .int .i64 q.2.1.2.2.2.2.2, (v5.2.2.1)] : List Value)) h13
      refine qs F Aa (Bo (r := Cz) EQ F Aa Aa (Ax h_v1) h12).q fun a F => ?_
      refine qs F Aa (Al Cp Aa Aa Aa T3 F Aa (Ei v1 + (x1).toNat * 11) Aa).q fun a F => ?_
      refine qs F Aa (A9 (y := Value.int .i64 x7.1) (j := 0) (i := x1) (enc := B9) F Aa Aa (Ax h_v1) h12 DZ T3 (by rw [h14]; rfl)).q fun a F => ?_
      refine qs F Aa (BO F Aa Aa).q fun a F => ?_
      refine qs F Aa (Ai F Aa).q fun a F => ?_
      rcases Bool.eq_false_or_eq_true (decide (x6.1 < x7.1)) with hb | hb
      ·
       have H := AL (Bd hb) H
       rw [hb] at F
       clear hb
       iterate 9 refine AP F (AN F Aa Aa Aa Aa Aa) Aa Aa fun a F => ?_
       refine qs F Aa (Au F Aa Aa Aa).q fun a F => ?_
       refine AU fun w W => ?_
       refine Ad ?_
       exact ⟨_, H, F.re ⟨rfl, Aa, Aa, Aa, Aa, Aa, Aa, trivial⟩, W⟩
      have H := AK (Be hb) H
      rw [hb] at F
      clear hb
      iterate 2 refine A0 F (Aj F Aa Aa Aa Aa) Aa (Ao Aa) (Ai F Aa).q fun a F => ?_
      obtain ⟨x8, h15, H⟩ := Aq H
      obtain ⟨v6, h16, h17⟩ := Cr h1 h15
      have h18 : B9 v6 = [.int .i64 x8.1, .int .i64 x8.2.1.1, .int .i64 x8.2.1.2.1.1, .int .i64 x8.2.1.2.1.2.1, .int .i64 x8.2.1.2.1.2.2.1, .int .i64 x8.2.1.2.1.2.2.2, .int .i64 x8.2.1.2.2.1, .int .i64 x8.2.1.2.2.2.1, .int .i64 x8.2.1.2.2.2.2.1, .int .i64 x8.2.1.2.2.2.2.2, (v6.2.2.1)] := congrArg (fun q : Int × (Int × (Int × Int × Int × Int) × (Int × Int × Int × Int)) × (List (Int × Int × Int)) => ([.int .i64 q.1, .int .i64 q.2.1.1, .int .i64 q.2.1.2.1.1, .int .i64 q.2.1.2.1.2.1, .int .i64 q.2.1.2.1.2.2.1, .int .i64 q.2.1.2.1.2.2.2, .int .i64 q.2.1.2.2.1, .int .i64 q.2.1.2.2.2.1, .int .i64 q.2.1.2.2.2.2.1, .int .i64 q.2.1.2.2.2.2.2, (v6.2.2.1)] : List Value)) h17
      refine A0 F (Aj F Aa Aa Aa Aa) Aa (Ao Aa) (Bo (r := Cz) EQ F Aa Aa (Ax h_v1) h16).q fun a F => ?_
      refine A0 F (Aj F Aa Aa Aa Aa) Aa (Ao Aa) (A9 (y := Value.agg #[.int .i64 x8.1, .int .i64 x8.2.1.1, .int .i64 x8.2.1.2.1.1, .int .i64 x8.2.1.2.1.2.1, .int .i64 x8.2.1.2.1.2.2.1, .int .i64 x8.2.1.2.1.2.2.2, .int .i64 x8.2.1.2.2.1, .int .i64 x8.2.1.2.2.2.1, .int .i64 x8.2.1.2.2.2.2.1, .int .i64 x8.2.1.2.2.2.2.2, (v6.2.2.1)]) (j := 0) (i := x4) (enc := B9) F Aa Aa (Ax h_v1) h16 DZ C6 (by rw [h18]; rfl)).q fun a F => ?_
      iterate 2 refine A0 F (Aj F Aa Aa Aa Aa) Aa (Ao Aa) (Ai F Aa).q fun a F => ?_
      obtain ⟨x9, h19, H⟩ := Aq H
      obtain ⟨v7, h20, h21⟩ := Cr h1 h19
      have h22 : B9 v7 = [.int .i64 x9.1, .int .i64 x9.2.1.1, .int .i64 x9.2.1.2.1.1, .int .i64 x9.2.1.2.1.2.1, .int .i64 x9.2.1.2.1.2.2.1, .int .i64 x9.2.1.2.1.2.2.2, .int .i64 x9.2.1.2.2.1, .int .i64 x9.2.1.2.2.2.1, .int .i64 x9.2.1.2.2.2.2.1, .int .i64 x9.2.1.2.2.2.2.2, (v7.2.2.1)] := congrArg (fun q : Int × (Int × (Int × Int × Int × Int) × (Int × Int × Int × Int)) × (List (Int × Int × Int)) => ([.int .i64 q.1, .int .i64 q.2.1.1, .int .i64 q.2.1.2.1.1, .int .i64 q.2.1.2.1.2.1, .int .i64 q.2.1.2.1.2.2.1, .int .i64 q.2.1.2.1.2.2.2, .int .i64 q.2.1.2.2.1, .int .i64 q.2.1.2.2.2.1, .int .i64 q.2.1.2.2.2.2.1, .int .i64 q.2.1.2.2.2.2.2, (v7.2.2.1)] : List Value)) h21
      refine A0 F (Aj F Aa Aa Aa Aa) Aa (Ao Aa) (Bo (r := Cz) EQ F Aa Aa (Ax h_v1) h20).q fun a F => ?_
      refine A0 F (Aj F Aa Aa Aa Aa) Aa (Ao Aa) (A9 (y := Value.agg #[.int .i64 x9.1, .int .i64 x9.2.1.1, .int .i64 x9.2.1.2.1.1, .int .i64 x9.2.1.2.1.2.1, .int .i64 x9.2.1.2.1.2.2.1, .int .i64 x9.2.1.2.1.2.2.2, .int .i64 x9.2.1.2.2.1, .int .i64 x9.2.1.2.2.2.1, .int .i64 x9.2.1.2.2.2.2.1, .int .i64 x9.2.1.2.2.2.2.2, (v7.2.2.1)]) (j := 0) (i := x1) (enc := B9) F Aa Aa (Ax h_v1) h20 DZ C6 (by rw [h22]; rfl)).q fun a F => ?_
      refine A0 F (Aj F Aa Aa Aa Aa) Aa (Ao Aa) (AW (v := Value.bool (Gf x8 x9)) F MG Aa (fun w W => Jb any w ((v6.2.2.1)) ((v7.2.2.1)) x8 x9 _ Aa (((ED (Ax h_v1) h16 (BR.snd (BR.snd BR.here)) (congrArg (fun q : Int × (Int × (Int × Int × Int × Int) × (Int × Int × Int × Int)) × (List (Int × Int × Int)) => q.2.2) h17)) : Dl _ _ _ _ _ _) w W).nx (((ED (Ax h_v1) h20 (BR.snd (BR.snd BR.here)) (congrArg (fun q : Int × (Int × (Int × Int × Int × Int) × (Int × Int × Int × Int)) × (List (Int × Int × Int)) => q.2.2) h21)) : Dl _ _ _ _ _ _) w W).nx)) fun a F => ?_
      refine qs F Aa (Ap F Aa Aa Aa).q fun a F => ?_
      refine AU fun w W => ?_
      refine Ad ?_
      exact ⟨_, H, F.re ⟨rfl, Aa, Aa, Aa, Aa, Aa, Aa, trivial⟩, W⟩
     rintro a w ⟨x5, hj, F, W⟩
     have hj := AO hj
     subst hj
     have H := K5
     clear G5 K5
     refine Az F Aa (fun hb => ?_) fun hb => ?_
     ·
      have H := AL hb H
      rw [hb] at F
      clear hb
      refine Ak (Ae ?_)
      refine ls F W Aa (Af F Aa).q fun a w F W => ?_
      refine Ag (Ad (Aw (AM ?_)))
      iterate 2 refine AB ?_
      iterate 2 refine AM ?_
      iterate 2 refine AB ?_
      refine AM (AB ?_)
      have H := L4 _ H
      have H := L3 _ H
      have H := L2 _ H
      have H := L1 _ H
      have H := AO H
      subst H
      refine AF (.inl Aa) F W Aa (Av F Aa) ?_
      exact ⟨rfl, W.done⟩
     have H := AK (by rw [hb]; decide) H
     rw [hb] at F
     clear hb
     refine Ay (AV (Ad (Ae ?_)))
     refine ls F W Aa (Ai F Aa).q fun a w F W => ?_
     refine ls F W Aa (Cg F Aa Aa Aa).q fun a w F W => ?_
     refine ls F W Aa (Af F Aa).q fun a w F W => ?_
     refine Ag (Ad ?_)
     exact ⟨_, H, F.re ⟨rfl, Aa, Aa, Aa, Aa, Aa, trivial⟩, W⟩
    have H := AK (Be hb) H
    rw [hb] at F
    clear hb
    refine BV ?_
    iterate 2 refine Cd ?_
    refine BU (AV (Ad ?_))
    have H := L4 _ H
    exact ⟨H, F.re ⟨rfl, Aa, Aa, Aa, Aa, trivial⟩, W⟩
   rintro a w ⟨hj, F, W⟩
   have H := K3 _ hj
   clear hj G3 K3 L3
   refine Ae ?_
   refine ls F W Aa (Ai F Aa).q fun a w F W => ?_
   refine ls F W Aa (Cg F Aa Aa Aa).q fun a w F W => ?_
   refine ls F W Aa (Af F Aa).q fun a w F W => ?_
   refine Ag (Ad ?_)
   exact ⟨_, H, F.re ⟨rfl, Aa, Aa, Aa, Aa, trivial⟩, W⟩
  have H := AK (Be hb) H
  rw [hb] at F
  clear hb
  refine BV ?_
  iterate 2 refine Cd ?_
  refine BU (Ad ?_)
  have H := L2 _ H
  exact ⟨H, F.re ⟨rfl, Aa, Aa, trivial⟩, W⟩
 rintro a w ⟨hj, F, W⟩
 have H := K1 _ hj
 clear hj G1 K1 L1
 refine Ak (Ae ?_)
 refine ls F W Aa (Ai F Aa).q fun a w F W => ?_
 refine ls F W Aa (Cl (r := A4) (l := p0) Ee Aa F Aa (Bk Bz h1 (Ax h_v1))).q fun a w F W => ?_
 refine ls F W Aa (Ai F Aa).q fun a w F W => ?_
 refine ls F W Aa (GH F Aa Aa).q fun a w F W => ?_
 refine ls F W Aa (Af F Aa).q fun a w F W => ?_
 refine Ag (Ad (Aw ?_))
 have H := AO H
 subst H
 refine AF (.inl Aa) F W Aa (Av F Aa) ?_
 exact ⟨rfl, W.done⟩
theorem MX : Has Try.prog 11 := ⟨fun args w => An Try.func11 rfl (by decide) args w⟩
noncomputable def En (p0 : Int × Int × Int × Int) : Int → Option (Int ⊕ (Unit ⊕ Bool))
  | x1 => (if x1 < 4 then ((ix ([p0.1, p0.2.1, p0.2.2.1, p0.2.2.2] : List Int) x1).bind fun x3 => (if x3 < 0 then some true else (ix ([p0.1, p0.2.1, p0.2.2.1, p0.2.2.2] : List Int) x1).bind fun x4 => some (decide ((BC x1) < x4)))).bind fun x2 => (if x2 = true then some (.inr (.inr false)) else some (.inl (C3 (x1 + 1)))) else some (.inr (.inl ())))
noncomputable def E9 (p0 : Int × Int × Int × Int) : Option Bool := FC (BG (En p0) 0) fun _ => some true
theorem Is (Y : Nat → Prop) (w0 : World)  (p0 : Int × Int × Int × Int) (r : Bool) (H : E9 p0 = some r)  :
    Calls Try.prog 13 #[.agg #[.int .i64 p0.1, .int .i64 p0.2.1, .int .i64 p0.2.2.1, .int .i64 p0.2.2.2]] w0 fun e w' => e = .returned (.bool r) ∧ Below w0.heap.size w0 w' := by
 refine enter Try.func13 Aa Try.ntmps13 Aa fun a F => ?_
 have W := Stw.start Y w0
 unfold E9 at H
 refine Ak (Ae ?_)
 refine B1 (cs := [.int .i64 p0.1, .int .i64 p0.2.1, .int .i64 p0.2.2.1, .int .i64 p0.2.2.2]) F W Aa Aa Aa fun b1 a w F W => ?_
 refine ls F W Aa (Af F Aa).q fun a w F W => ?_
 refine Ag (Ad ?_)
 obtain ⟨o1, G1, K1, L1⟩ := Ia H
 refine AJ (fun a w => some (Sum.inl ()) = some o1 ∧ Fr 20 [] [(2, .bool false)] a ∧ Stw ⟨Y, [], w0⟩ [(b1, [.int .i64 p0.1, .int .i64 p0.2.1, .int .i64 p0.2.2.1, .int .i64 p0.2.2.2])] [] w) ?_ ?_
 ·
  have H := G1
  clear G1 K1
  refine Ak (Ae ?_)
  refine ls F W Aa (Af F Aa).q fun a w F W => ?_
  refine Ag (Ad (AA ?_))
  refine BW H (fun s a w => Fr 20 [] [(1, .pointer (some ⟨b1, 0, none⟩)), (2, .bool false), (3, .int .i64 s)] a ∧ Stw ⟨Y, [], w0⟩ [(b1, [.int .i64 p0.1, .int .i64 p0.2.1, .int .i64 p0.2.2.1, .int .i64 p0.2.2.2])] [] w) ⟨F.re ⟨rfl, Aa, Aa, trivial⟩, W⟩ fun s o a w H L2 hR => ?_
  obtain ⟨x1, rfl⟩ : ∃ x, x = s := ⟨s, rfl⟩
  obtain ⟨F, W⟩ := hR
  have F : Fr 20 [] [(1, .pointer (some ⟨b1, 0, none⟩)), (2, .bool false), (3, .int .i64 x1)] a := F
  have W : Stw ⟨Y, [], w0⟩ [(b1, [.int .i64 p0.1, .int .i64 p0.2.1, .int .i64 p0.2.2.1, .int .i64 p0.2.2.2])] [] w := W
  rw [En] at H
  refine Ak (Ak (Ae ?_))
  refine ls F W Aa (Ai F Aa).q fun a w F W => ?_
  refine ls F W Aa (BO F Aa Aa).q fun a w F W => ?_
  refine Ag (Ad ?_)
  refine Az F Aa (fun hb => ?_) fun hb => ?_
  ·
   have H := AL (Bd hb) H
   rw [hb] at F
   clear hb
   refine Ay (Ad (Ak (AA ?_)))
   obtain ⟨o3, G3, K3⟩ := Aq H
   refine AJ (fun a w => ∃ x2 : Bool, some (x2) = some o3 ∧ Fr 20 [] [(1, .pointer (some ⟨b1, 0, none⟩)), (2, .bool false), (3, .int .i64 x1), (19, .bool x2)] a ∧ Stw ⟨Y, [], w0⟩ [(b1, [.int .i64 p0.1, .int .i64 p0.2.1, .int .i64 p0.2.2.1, .int .i64 p0.2.2.2])] [] w) ?_ ?_
   ·
    have H := G3
    clear G3 K3
    refine CR W MO (by kernel_rfl) ?_
    refine qs F Aa (Ai F Aa).q fun a F => ?_
    obtain ⟨x3, h1, H⟩ := Aq H
    refine qs F Aa (Bq (0 + (x1).toNat * 1) Jl F Aa Aa Aa h1 Aa).q fun a F => ?_
    refine qs F Aa (As (v := Value.int .i64 x3) 0 F Aa Aa T3 (Cc (base := 0) (m := 4) (l := [p0.1, p0.2.1, p0.2.2.1, p0.2.2.2]) (enc := Value.int .i64) Aa h1)).q fun a F => ?_
    refine qs F Aa (BO F Aa Aa).q fun a F => ?_
    refine qs F Aa (Ai F Aa).q fun a F => ?_
    rcases Bool.eq_false_or_eq_true (decide (x3 < 0)) with hb | hb
    ·
     have H := AL (Bd hb) H
     rw [hb] at F
     clear hb
     iterate 6 refine AP F (AN F Aa Aa Aa Aa Aa) Aa Aa fun a F => ?_
     refine qs F Aa (Au F Aa Aa Aa).q fun a F => ?_
     refine AU fun w W => ?_
     refine Ad ?_
     exact ⟨_, H, F.re ⟨rfl, Aa, Aa, Aa, trivial⟩, W⟩
    have H := AK (Be hb) H
    rw [hb] at F
    clear hb
    refine A0 F (Aj F Aa Aa Aa Aa) Aa (Ao Aa) (Ai F Aa).q fun a F => ?_
    obtain ⟨x4, h2, H⟩ := Aq H
    refine A0 F (Aj F Aa Aa Aa Aa) Aa (Ao Aa) (Bq (0 + (x1).toNat * 1) Jl F Aa Aa Aa h2 Aa).q fun a F => ?_
    refine A0 F (Aj F Aa Aa Aa Aa) Aa (Ao Aa) (As (v := Value.int .i64 x4) 0 F Aa Aa T3 (Cc (base := 0) (m := 4) (l := [p0.1, p0.2.1, p0.2.2.1, p0.2.2.2]) (enc := Value.int .i64) Aa h2)).q fun a F => ?_
    refine A0 F (Aj F Aa Aa Aa Aa) Aa (Ao Aa) (Ai F Aa).q fun a F => ?_
    refine A0 F (Aj F Aa Aa Aa Aa) Aa (Ao Aa) (AW (v := Value.int .i64 (BC x1)) F Lf Aa (fun w W => FV any w x1 _ Aa)) fun a F => ?_
    refine A0 F (Aj F Aa Aa Aa Aa) Aa (Ao Aa) (Fw F Aa Aa).q fun a F => ?_
    refine qs F Aa (Ap F Aa Aa Aa).q fun a F => ?_
    refine AU fun w W => ?_
    refine Ad ?_
    exact ⟨_, H, F.re ⟨rfl, Aa, Aa, Aa, trivial⟩, W⟩
   rintro a w ⟨x2, hj, F, W⟩
   have hj := AO hj
   subst hj
   have H := K3
   clear G3 K3
   refine Az F Aa (fun hb => ?_) fun hb => ?_
   ·
    have H := AL hb H
    rw [hb] at F
    clear hb
    refine Ak (Ae ?_)
    refine ls F W Aa (Af F Aa).q fun a w F W => ?_
    refine Ag (Ad (Aw (AM ?_)))
    iterate 2 refine AB ?_
    refine AM (AB ?_)
    have H := L2 _ H
    have H := L1 _ H
    have H := AO H
    subst H
    refine AF (.inl Aa) F W Aa (Av F Aa) ?_
    exact ⟨rfl, W.done⟩
   have H := AK (by rw [hb]; decide) H
   rw [hb] at F
   clear hb
   refine Ay (AV (Ad (Ae ?_)))
   refine ls F W Aa (Ai F Aa).q fun a w F W => ?_
   refine ls F W Aa (Cg F Aa Aa Aa).q fun a w F W => ?_
   refine ls F W Aa (Af F Aa).q fun a w F W => ?_
   refine Ag (Ad ?_)
   exact ⟨_, H, F.re ⟨rfl, Aa, Aa, trivial⟩, W⟩
  have H := AK (Be hb) H
  rw [hb] at F
  clear hb
  refine BV ?_
  iterate 2 refine Cd ?_
  refine BU (Ad ?_)
  have H := L2 _ H
  exact ⟨H, F.re ⟨rfl, trivial⟩, W⟩
 rintro a w ⟨hj, F, W⟩
 have H := K1 _ hj
 clear hj G1 K1 L1
 refine Ak (Ae ?_)
 refine ls F W Aa (Af F Aa).q fun a w F W => ?_
 refine Ag (Ad (Aw ?_))
 have H := AO H
 subst H
 refine AF (.inl Aa) F W Aa (Av F Aa) ?_
 exact ⟨rfl, W.done⟩
end Go.Proofs.Ytkjjioigbpkifaa
