/- The functions of layer 11, D5. Conditions: none. -/
import Derived.Test.YtkjjioigbpkifaadA4
namespace Go.Proofs.Ytkjjioigbpkifaa
open Go Go.RowKit
set_option linter.unusedVariables false
set_option linter.unusedSimpArgs false
set_option maxRecDepth 20000
theorem NP : Has Try.prog 57 := ⟨fun args w => An Try.func57 rfl (by decide) args w⟩
noncomputable def EE (p0 : Int × (Int × Int × Int × Int) × (Int × Int × Int × Int)) (x1 : Int) : Int → Option (Int ⊕ (Unit ⊕ (Int ⊕ (Unit ⊕ Bool))))
  | x7 => (if x7 < 8 then (ix ([p0.2.1.1, p0.2.1.2.1, p0.2.1.2.2.1, p0.2.1.2.2.2] : List Int) x1).bind fun x8 => (Gc x8 x7).bind fun x9 => (ix ([p0.2.2.1, p0.2.2.2.1, p0.2.2.2.2.1, p0.2.2.2.2.2] : List Int) x1).bind fun x10 => (Gc x10 x7).bind fun x11 => (if x11 < x9 then some (.inr (.inr (.inr (.inr false)))) else some (.inl (CG (x7 + 1)))) else some (.inr (.inl ())))
noncomputable def EF (p0 : Int × (Int × Int × Int × Int) × (Int × Int × Int × Int)) : Int → Option (Int ⊕ (Unit ⊕ Bool))
  | x1 => (if x1 < 4 then FL (((ix ([p0.2.2.1, p0.2.2.2.1, p0.2.2.2.2.1, p0.2.2.2.2.2] : List Int) x1).bind fun x3 => (if x3 < 0 then some true else (ix ([p0.2.2.1, p0.2.2.2.1, p0.2.2.2.2.1, p0.2.2.2.2.2] : List Int) x1).bind fun x4 => (if (Bb x1) < x4 then some true else (ix ([p0.2.1.1, p0.2.1.2.1, p0.2.1.2.2.1, p0.2.1.2.2.2] : List Int) x1).bind fun x5 => (if x5 < 0 then some true else (ix ([p0.2.1.1, p0.2.1.2.1, p0.2.1.2.2.1, p0.2.1.2.2.2] : List Int) x1).bind fun x6 => some (decide ((Bb x1) < x6)))))).bind fun x2 => (if x2 = true then some (.inr (.inr (.inr false))) else Bh (EE p0 x1) 0)) fun _ => some (.inl (CG (x1 + 1))) else some (.inr (.inl ())))
noncomputable def Fo (p0 : Int × (Int × Int × Int × Int) × (Int × Int × Int × Int)) : Option Bool := (if (decide (p0.1 < (-1)) || decide (7 < p0.1)) = true then some false else FL (Bh (EF p0) 0) fun _ => some true)
theorem Jt (Y : Nat → Prop) (w0 : World)  (p0 : Int × (Int × Int × Int × Int) × (Int × Int × Int × Int)) (r : Bool) (H : Fo p0 = some r)  :
    Calls Try.prog 50 #[.agg #[.int .i64 p0.1, .int .i64 p0.2.1.1, .int .i64 p0.2.1.2.1, .int .i64 p0.2.1.2.2.1, .int .i64 p0.2.1.2.2.2, .int .i64 p0.2.2.1, .int .i64 p0.2.2.2.1, .int .i64 p0.2.2.2.2.1, .int .i64 p0.2.2.2.2.2]] w0 fun e w' => e = .returned (.bool r) ∧ Below w0.heap.size w0 w' := by
 refine enter Try.func50 Aa Try.ntmps50 Aa fun a F => ?_
 have W := Stw.start Y w0
 unfold Fo at H
 refine Ak (Ae ?_)
 refine B2 (cs := [.int .i64 p0.1, .int .i64 p0.2.1.1, .int .i64 p0.2.1.2.1, .int .i64 p0.2.1.2.2.1, .int .i64 p0.2.1.2.2.2, .int .i64 p0.2.2.1, .int .i64 p0.2.2.2.1, .int .i64 p0.2.2.2.2.1, .int .i64 p0.2.2.2.2.2]) F W Aa Aa Aa fun b1 a w F W => ?_
 refine ls F W Aa (Af F Aa).q fun a w F W => ?_
 refine Ag (Ad (Ak ?_))
 refine AY (fun a w => Fr 64 [] [(1, .pointer (some ⟨b1, 0, none⟩)), (2, .bool false), (12, .bool (decide (p0.1 < (-1)) || decide (7 < p0.1)))] a ∧ Stw ⟨Y, [], w0⟩ [(b1, [.int .i64 p0.1, .int .i64 p0.2.1.1, .int .i64 p0.2.1.2.1, .int .i64 p0.2.1.2.2.1, .int .i64 p0.2.1.2.2.2, .int .i64 p0.2.2.1, .int .i64 p0.2.2.2.1, .int .i64 p0.2.2.2.2.1, .int .i64 p0.2.2.2.2.2])] [] w) ?_ ?_
 ·
  refine Ae ?_
  refine ls F W Aa (Al C3 Aa Aa Aa T3 F Aa 0 Aa).q fun a w F W => ?_
  refine ls F W Aa (As (v := Value.int .i64 p0.1) 0 F Aa Aa T3 Aa).q fun a w F W => ?_
  refine ls F W Aa (BS F Aa Aa).q fun a w F W => ?_
  refine ls F W Aa (Ah F Aa).q fun a w F W => ?_
  rcases Bool.eq_false_or_eq_true (decide (p0.1 < (-1))) with hb0 | hb0
  ·
   rw [hb0] at F
   iterate 3 refine Ci F Aa Aa Aa Aa Aa Aa Aa fun a F => ?_
   refine ls F W Aa (Aw F Aa Aa Aa).q fun a w F W => ?_
   refine Ag (Ad ?_)
   exact ⟨F.re ⟨rfl, Aa, (by show some (Value.bool true) = some (Value.bool (decide (p0.1 < (-1)) || decide (7 < p0.1))); try rw [hb0]; all_goals simp only [Bool.not_true, Bool.not_false, Bool.true_and, Bool.false_and, Bool.true_or, Bool.false_or, Bool.and_true, Bool.or_false, cond_true, cond_false]), trivial⟩, W⟩
  rw [hb0] at F
  refine AD F W (Aj F Aa Aa Aa Aa) Aa (Ap Aa) (Al C3 Aa Aa Aa T3 F Aa 0 Aa).q fun a w F W => ?_
  refine AD F W (Aj F Aa Aa Aa Aa) Aa (Ap Aa) (As (v := Value.int .i64 p0.1) 0 F Aa Aa T3 Aa).q fun a w F W => ?_
  refine AD F W (Aj F Aa Aa Aa Aa) Aa (Ap Aa) (Fu F Aa Aa).q fun a w F W => ?_
  refine ls F W Aa (Ao F Aa Aa Aa).q fun a w F W => ?_
  refine Ag (Ad ?_)
  exact ⟨F.re ⟨rfl, Aa, (by show some (Value.bool (decide (7 < p0.1))) = some (Value.bool (decide (p0.1 < (-1)) || decide (7 < p0.1))); try rw [hb0]; all_goals simp only [Bool.not_true, Bool.not_false, Bool.true_and, Bool.false_and, Bool.true_or, Bool.false_or, Bool.and_true, Bool.or_false, cond_true, cond_false]), trivial⟩, W⟩
 rintro a w ⟨F, W⟩
 refine AA F Aa (fun hb => ?_) fun hb => ?_
 ·
  have H := AU hb H
  rw [hb] at F
  clear hb
  refine Ak (Ae ?_)
  refine ls F W Aa (Af F Aa).q fun a w F W => ?_
  refine Ag (Ad (Ay (AC ?_)))
  have H := AZ H
  subst H
  refine AO (.inl Aa) F W Aa (Au F Aa) ?_
  exact ⟨rfl, W.done⟩
 have H := AV (by rw [hb]; decide) H
 rw [hb] at F
 clear hb
 refine Az (Ad ?_)
 obtain ⟨o1, G1, K1, L1⟩ := IA H
 refine AY (fun a w => some (Sum.inl ()) = some o1 ∧ Fr 64 [] [(2, .bool false)] a ∧ Stw ⟨Y, [], w0⟩ [(b1, [.int .i64 p0.1, .int .i64 p0.2.1.1, .int .i64 p0.2.1.2.1, .int .i64 p0.2.1.2.2.1, .int .i64 p0.2.1.2.2.2, .int .i64 p0.2.2.1, .int .i64 p0.2.2.2.1, .int .i64 p0.2.2.2.2.1, .int .i64 p0.2.2.2.2.2])] [] w) ?_ ?_
 ·
  have H := G1
  clear G1 K1
  refine Ak (Ae ?_)
  refine ls F W Aa (Af F Aa).q fun a w F W => ?_
  refine Ag (Ad (AB ?_))
  refine BU H (fun s a w => Fr 64 [] [(1, .pointer (some ⟨b1, 0, none⟩)), (2, .bool false), (3, .int .i64 s)] a ∧ Stw ⟨Y, [], w0⟩ [(b1, [.int .i64 p0.1, .int .i64 p0.2.1.1, .int .i64 p0.2.1.2.1, .int .i64 p0.2.1.2.2.1, .int .i64 p0.2.1.2.2.2, .int .i64 p0.2.2.1, .int .i64 p0.2.2.2.1, .int .i64 p0.2.2.2.2.1, .int .i64 p0.2.2.2.2.2])] [] w) ⟨F.re ⟨rfl, Aa, Aa, trivial⟩, W⟩ fun s o a w H L2 hR => ?_
  obtain ⟨x1, rfl⟩ : ∃ x, x = s := ⟨s, rfl⟩
  obtain ⟨F, W⟩ := hR
  have F : Fr 64 [] [(1, .pointer (some ⟨b1, 0, none⟩)), (2, .bool false), (3, .int .i64 x1)] a := F
  have W : Stw ⟨Y, [], w0⟩ [(b1, [.int .i64 p0.1, .int .i64 p0.2.1.1, .int .i64 p0.2.1.2.1, .int .i64 p0.2.1.2.2.1, .int .i64 p0.2.1.2.2.2, .int .i64 p0.2.2.1, .int .i64 p0.2.2.2.1, .int .i64 p0.2.2.2.2.1, .int .i64 p0.2.2.2.2.2])] [] w := W
  rw [EF] at H
  refine Ak (Ak (Ae ?_))
  refine ls F W Aa (Ah F Aa).q fun a w F W => ?_
  refine ls F W Aa (BS F Aa Aa).q fun a w F W => ?_
  refine Ag (Ad ?_)
  refine AA F Aa (fun hb => ?_) fun hb => ?_
  ·
   have H := AU (Bd hb) H
   rw [hb] at F
   clear hb
   refine Az (Ad ?_)
   obtain ⟨o3, G3, K3, L3⟩ := IA H
   refine AY (fun a w => some (Sum.inl ()) = some o3 ∧ Fr 64 [] [(1, .pointer (some ⟨b1, 0, none⟩)), (2, .bool false), (3, .int .i64 x1)] a ∧ Stw ⟨Y, [], w0⟩ [(b1, [.int .i64 p0.1, .int .i64 p0.2.1.1, .int .i64 p0.2.1.2.1, .int .i64 p0.2.1.2.2.1, .int .i64 p0.2.1.2.2.2, .int .i64 p0.2.2.1, .int .i64 p0.2.2.2.1, .int .i64 p0.2.2.2.2.1, .int .i64 p0.2.2.2.2.2])] [] w) ?_ ?_
   ·
    have H := G3
    clear G3 K3
    refine AB (Ak ?_)
    obtain ⟨o4, G4, K4⟩ := Aq H
    refine AY (fun a w => ∃ x2 : Bool, some (x2) = some o4 ∧ Fr 64 [] [(1, .pointer (some ⟨b1, 0, none⟩)), (2, .bool false), (3, .int .i64 x1), (46, .bool x2)] a ∧ Stw ⟨Y, [], w0⟩ [(b1, [.int .i64 p0.1, .int .i64 p0.2.1.1, .int .i64 p0.2.1.2.1, .int .i64 p0.2.1.2.2.1, .int .i64 p0.2.1.2.2.2, .int .i64 p0.2.2.1, .int .i64 p0.2.2.2.1, .int .i64 p0.2.2.2.2.1, .int .i64 p0.2.2.2.2.2])] [] w) ?_ ?_
    ·
     have H := G4
     clear G4 K4
     refine DA W MO (by kernel_rfl) ?_
     refine qs F Aa (Ah F Aa).q fun a F => ?_
     refine qs F Aa (Al C3 Aa Aa Aa GS F Aa 5 Aa).q fun a F => ?_
     obtain ⟨x3, h1, H⟩ := Aq H
     refine qs F Aa (BL (5 + (x1).toNat * 1) EK F Aa Aa Aa h1 Aa).q fun a F => ?_
     refine qs F Aa (As (v := Value.int .i64 x3) 0 F Aa Aa T3 (Cz (base := 5) (m := 4) (l := [p0.2.2.1, p0.2.2.2.1, p0.2.2.2.2.1, p0.2.2.2.2.2]) (enc := Value.int .i64) Aa h1)).q fun a F => ?_
     refine qs F Aa (BS F Aa Aa).q fun a F => ?_
     refine qs F Aa (Ah F Aa).q fun a F => ?_
     rcases Bool.eq_false_or_eq_true (decide (x3 < 0)) with hb | hb
     ·
      have H := AU (Bd hb) H
      rw [hb] at F
      clear hb
      iterate 7 refine Cq F (BX F Aa Aa Aa Aa Aa) Aa Aa fun a F => ?_
      refine qs F Aa (Aw F Aa Aa Aa).q fun a F => ?_
      refine qs F Aa (Ah F Aa).q fun a F => ?_
      iterate 5 refine Cq F (BX F Aa Aa Aa Aa Aa) Aa Aa fun a F => ?_
      refine qs F Aa (Aw F Aa Aa Aa).q fun a F => ?_
      refine qs F Aa (Ah F Aa).q fun a F => ?_
      iterate 7 refine Cq F (BX F Aa Aa Aa Aa Aa) Aa Aa fun a F => ?_
      refine qs F Aa (Aw F Aa Aa Aa).q fun a F => ?_
      refine Bm fun w W => ?_
      refine Ad ?_
      exact ⟨_, H, F.re ⟨rfl, Aa, Aa, Aa, trivial⟩, W⟩
     have H := AV (Be hb) H
     rw [hb] at F
     clear hb
     refine Ck F (Aj F Aa Aa Aa Aa) Aa (Ap Aa) (Ah F Aa).q fun a F => ?_
     refine Ck F (Aj F Aa Aa Aa Aa) Aa (Ap Aa) (Al C3 Aa Aa Aa GS F Aa 5 Aa).q fun a F => ?_
     obtain ⟨x4, h2, H⟩ := Aq H
     refine Ck F (Aj F Aa Aa Aa Aa) Aa (Ap Aa) (BL (5 + (x1).toNat * 1) EK F Aa Aa Aa h2 Aa).q fun a F => ?_
     refine Ck F (Aj F Aa Aa Aa Aa) Aa (Ap Aa) (As (v := Value.int .i64 x4) 0 F Aa Aa T3 (Cz (base := 5) (m := 4) (l := [p0.2.2.1, p0.2.2.2.1, p0.2.2.2.2.1, p0.2.2.2.2.2]) (enc := Value.int .i64) Aa h2)).q fun a F => ?_
     refine Ck F (Aj F Aa Aa Aa Aa) Aa (Ap Aa) (Ah F Aa).q fun a F => ?_
     refine Ck F (Aj F Aa Aa Aa Aa) Aa (Ap Aa) (A4 (v := Value.int .i64 (Bb x1)) F Nq Aa (fun w W => GT any w x1 _ Aa)) fun a F => ?_
     refine Ck F (Aj F Aa Aa Aa Aa) Aa (Ap Aa) (Fu F Aa Aa).q fun a F => ?_
     refine qs F Aa (Ao F Aa Aa Aa).q fun a F => ?_
     refine qs F Aa (Ah F Aa).q fun a F => ?_
     rcases Bool.eq_false_or_eq_true (decide ((Bb x1) < x4)) with hb | hb
     ·
      have H := AU (Bd hb) H
      rw [hb] at F
      clear hb
      iterate 5 refine Cq F (BX F Aa Aa Aa Aa Aa) Aa Aa fun a F => ?_
      refine qs F Aa (Aw F Aa Aa Aa).q fun a F => ?_
      refine qs F Aa (Ah F Aa).q fun a F => ?_
      iterate 7 refine Cq F (BX F Aa Aa Aa Aa Aa) Aa Aa fun a F => ?_
      refine qs F Aa (Aw F Aa Aa Aa).q fun a F => ?_
      refine Bm fun w W => ?_
      refine Ad ?_
      exact ⟨_, H, F.re ⟨rfl, Aa, Aa, Aa, trivial⟩, W⟩
     have H := AV (Be hb) H
     rw [hb] at F
     clear hb
     refine Ck F (Aj F Aa Aa Aa Aa) Aa (Ap Aa) (Ah F Aa).q fun a F => ?_
     refine Ck F (Aj F Aa Aa Aa Aa) Aa (Ap Aa) (Al C3 Aa Aa Aa GS F Aa 1 Aa).q fun a F => ?_
     obtain ⟨x5, h3, H⟩ := Aq H
     refine Ck F (Aj F Aa Aa Aa Aa) Aa (Ap Aa) (BL (1 + (x1).toNat * 1) EK F Aa Aa Aa h3 Aa).q fun a F => ?_
     refine Ck F (Aj F Aa Aa Aa Aa) Aa (Ap Aa) (As (v := Value.int .i64 x5) 0 F Aa Aa T3 (Cz (base := 1) (m := 4) (l := [p0.2.1.1, p0.2.1.2.1, p0.2.1.2.2.1, p0.2.1.2.2.2]) (enc := Value.int .i64) Aa h3)).q fun a F => ?_
     refine Ck F (Aj F Aa Aa Aa Aa) Aa (Ap Aa) (BS F Aa Aa).q fun a F => ?_
     refine qs F Aa (Ao F Aa Aa Aa).q fun a F => ?_
     refine qs F Aa (Ah F Aa).q fun a F => ?_
     rcases Bool.eq_false_or_eq_true (decide (x5 < 0)) with hb | hb
     ·
      have H := AU (Bd hb) H
      rw [hb] at F
      clear hb
      iterate 7 refine Cq F (BX F Aa Aa Aa Aa Aa) Aa Aa fun a F => ?_
      refine qs F Aa (Aw F Aa Aa Aa).q fun a F => ?_
      refine Bm fun w W => ?_
      refine Ad ?_
      exact ⟨_, H, F.re ⟨rfl, Aa, Aa, Aa, trivial⟩, W⟩
     have H := AV (Be hb) H
     rw [hb] at F
     clear hb
     refine Ck F (Aj F Aa Aa Aa Aa) Aa (Ap Aa) (Ah F Aa).q fun a F => ?_
     refine Ck F (Aj F Aa Aa Aa Aa) Aa (Ap Aa) (Al C3 Aa Aa Aa GS F Aa 1 Aa).q fun a F => ?_
     obtain ⟨x6, h4, H⟩ := Aq H
     refine Ck F (Aj F Aa Aa Aa Aa) Aa (Ap Aa) (BL (1 + (x1).toNat * 1) EK F Aa Aa Aa h4 Aa).q fun a F => ?_
     refine Ck F (Aj F Aa Aa Aa Aa) Aa (Ap Aa) (As (v := Value.int .i64 x6) 0 F Aa Aa T3 (Cz (base := 1) (m := 4) (l := [p0.2.1.1, p0.2.1.2.1, p0.2.1.2.2.1, p0.2.1.2.2.2]) (enc := Value.int .i64) Aa h4)).q fun a F => ?_
     refine Ck F (Aj F Aa Aa Aa Aa) Aa (Ap Aa) (Ah F Aa).q fun a F => ?_
     refine Ck F (Aj F Aa Aa Aa Aa) Aa (Ap Aa) (A4 (v := Value.int .i64 (Bb x1)) F Nq Aa (fun w W => GT any w x1 _ Aa)) fun a F => ?_
     refine Ck F (Aj F Aa Aa Aa Aa) Aa (Ap Aa) (Fu F Aa Aa).q fun a F => ?_
     refine qs F Aa (Ao F Aa Aa Aa).q fun a F => ?_
     refine Bm fun w W => ?_
     refine Ad ?_
     exact ⟨_, H, F.re ⟨rfl, Aa, Aa, Aa, trivial⟩, W⟩
    rintro a w ⟨x2, hj, F, W⟩
    have hj := AZ hj
    subst hj
    have H := K4
    clear G4 K4
    refine AA F Aa (fun hb => ?_) fun hb => ?_
    ·
     have H := AU hb H
     rw [hb] at F
     clear hb
     refine Ak (Ae ?_)
     refine ls F W Aa (Af F Aa).q fun a w F W => ?_
     refine Ag (Ad (Ay (AC (AW ?_))))
     iterate 2 refine AC ?_
     refine AW (AC ?_)
     have H := L3 _ H
     have H := L2 _ H
     have H := L1 _ H
     have H := AZ H
     subst H
     refine AO (.inl Aa) F W Aa (Au F Aa) ?_
     exact ⟨rfl, W.done⟩
    have H := AV (by rw [hb]; decide) H
    rw [hb] at F
    clear hb
    refine Az (Ad (Ak (Ae ?_)))
    refine ls F W Aa (Af F Aa).q fun a w F W => ?_
    refine Ag (Ad (AB ?_))
    refine BU H (fun s a w => Fr 64 [] [(1, .pointer (some ⟨b1, 0, none⟩)), (2, .bool false), (3, .int .i64 x1), (4, .int .i64 s)] a ∧ Stw ⟨Y, [], w0⟩ [(b1, [.int .i64 p0.1, .int .i64 p0.2.1.1, .int .i64 p0.2.1.2.1, .int .i64 p0.2.1.2.2.1, .int .i64 p0.2.1.2.2.2, .int .i64 p0.2.2.1, .int .i64 p0.2.2.2.1, .int .i64 p0.2.2.2.2.1, .int .i64 p0.2.2.2.2.2])] [] w) ⟨F.re ⟨rfl, Aa, Aa, Aa, trivial⟩, W⟩ fun s o a w H L5 hR => ?_
    obtain ⟨x7, rfl⟩ : ∃ x, x = s := ⟨s, rfl⟩
    obtain ⟨F, W⟩ := hR
    have F : Fr 64 [] [(1, .pointer (some ⟨b1, 0, none⟩)), (2, .bool false), (3, .int .i64 x1), (4, .int .i64 x7)] a := F
    have W : Stw ⟨Y, [], w0⟩ [(b1, [.int .i64 p0.1, .int .i64 p0.2.1.1, .int .i64 p0.2.1.2.1, .int .i64 p0.2.1.2.2.1, .int .i64 p0.2.1.2.2.2, .int .i64 p0.2.2.1, .int .i64 p0.2.2.2.1, .int .i64 p0.2.2.2.2.1, .int .i64 p0.2.2.2.2.2])] [] w := W
    rw [EE] at H
    refine Ak (Ak (Ae ?_))
    refine ls F W Aa (Ah F Aa).q fun a w F W => ?_
    refine ls F W Aa (BS F Aa Aa).q fun a w F W => ?_
    refine Ag (Ad ?_)
    refine AA F Aa (fun hb => ?_) fun hb => ?_
    ·
     have H := AU (Bd hb) H
     rw [hb] at F
     clear hb
     refine Az (Ad (Ak (AB (Ak ?_))))
     refine DA W MO (by kernel_rfl) ?_
     refine qs F Aa (Ah F Aa).q fun a F => ?_
     refine qs F Aa (Al C3 Aa Aa Aa GS F Aa 1 Aa).q fun a F => ?_
     obtain ⟨x8, h5, H⟩ := Aq H
     refine qs F Aa (BL (1 + (x1).toNat * 1) EK F Aa Aa Aa h5 Aa).q fun a F => ?_
     refine qs F Aa (As (v := Value.int .i64 x8) 0 F Aa Aa T3 (Cz (base := 1) (m := 4) (l := [p0.2.1.1, p0.2.1.2.1, p0.2.1.2.2.1, p0.2.1.2.2.2]) (enc := Value.int .i64) Aa h5)).q fun a F => ?_
     refine qs F Aa (Ah F Aa).q fun a F => ?_
     obtain ⟨x9, h6, H⟩ := Aq H
     refine qs F Aa (A4 (v := Value.int .i64 x9) F NP Aa (fun w W => Io any w x8 x7 _ h6)) fun a F => ?_
     refine qs F Aa (Ah F Aa).q fun a F => ?_
     refine qs F Aa (Al C3 Aa Aa Aa GS F Aa 5 Aa).q fun a F => ?_
     obtain ⟨x10, h7, H⟩ := Aq H
     refine qs F Aa (BL (5 + (x1).toNat * 1) EK F Aa Aa Aa h7 Aa).q fun a F => ?_
     refine qs F Aa (As (v := Value.int .i64 x10) 0 F Aa Aa T3 (Cz (base := 5) (m := 4) (l := [p0.2.2.1, p0.2.2.2.1, p0.2.2.2.2.1, p0.2.2.2.2.2]) (enc := Value.int .i64) Aa h7)).q fun a F => ?_
     refine qs F Aa (Ah F Aa).q fun a F => ?_
     obtain ⟨x11, h8, H⟩ := Aq H
     refine qs F Aa (A4 (v := Value.int .i64 x11) F NP Aa (fun w W => Io any w x10 x7 _ h8)) fun a F => ?_
     refine qs F Aa (Fu F Aa Aa).q fun a F => ?_
     refine Bm fun w W => ?_
     refine Ad ?_
     refine AA F Aa (fun hb => ?_) fun hb => ?_
     ·
      have H := AU (Bd hb) H
      rw [hb] at F
      clear hb
      refine Ak (Ae ?_)
      refine ls F W Aa (Af F Aa).q fun a w F W => ?_
      refine Ag (Ad (Ay (AW ?_)))
      iterate 2 refine AC ?_
      iterate 2 refine AW ?_
      iterate 2 refine AC ?_
      refine AW (AC ?_)
      have H := L5 _ H
      have H := L3 _ H
      have H := L2 _ H
      have H := L1 _ H
      have H := AZ H
      subst H
      refine AO (.inl Aa) F W Aa (Au F Aa) ?_
      exact ⟨rfl, W.done⟩
     have H := AV (Be hb) H
     rw [hb] at F
     clear hb
     refine Az (A5 (Ad (Ae ?_)))
     refine ls F W Aa (Ah F Aa).q fun a w F W => ?_
     refine ls F W Aa (Co F Aa Aa Aa).q fun a w F W => ?_
     refine ls F W Aa (Af F Aa).q fun a w F W => ?_
     refine Ag (Ad ?_)
     exact ⟨_, H, F.re ⟨rfl, Aa, Aa, Aa, trivial⟩, W⟩
    have H := AV (Be hb) H
    rw [hb] at F
    clear hb
    refine BV ?_
    iterate 2 refine Ce ?_
    refine BT (A5 (Ad ?_))
    have H := L5 _ H
    exact ⟨H, F.re ⟨rfl, Aa, Aa, trivial⟩, W⟩
   rintro a w ⟨hj, F, W⟩
   have H := K3 _ hj
   clear hj G3 K3 L3
   refine Ae ?_
   refine ls F W Aa (Ah F Aa).q fun a w F W => ?_
   refine ls F W Aa (Co F Aa Aa Aa).q fun a w F W => ?_
   refine ls F W Aa (Af F Aa).q fun a w F W => ?_
   refine Ag (Ad ?_)
   exact ⟨_, H, F.re ⟨rfl, Aa, Aa, trivial⟩, W⟩
  have H := AV (Be hb) H
  rw [hb] at F
  clear hb
  refine BV ?_
  iterate 2 refine Ce ?_
  refine BT (Ad ?_)
  have H := L2 _ H
  exact ⟨H, F.re ⟨rfl, trivial⟩, W⟩
 rintro a w ⟨hj, F, W⟩
 have H := K1 _ hj
 clear hj G1 K1 L1
 refine Ak (Ae ?_)
 refine ls F W Aa (Af F Aa).q fun a w F W => ?_
 refine Ag (Ad (Ay ?_))
 have H := AZ H
 subst H
 refine AO (.inl Aa) F W Aa (Au F Aa) ?_
 exact ⟨rfl, W.done⟩
theorem Od : Has Try.prog 50 := ⟨fun args w => An Try.func50 rfl (by decide) args w⟩
def Ge (p0 : Int × Int × Int) (p1 : Int) : Bool := (if p0.1 = 1 then (decide (0 ≤ p0.2.1) && (decide (p0.2.1 ≤ 3) && (decide (0 ≤ p0.2.2) && decide (p0.2.2 ≤ (Bb p0.2.1))))) else (if p0.1 = 3 then (decide (p0.2.1 = 0) && decide (p0.2.2 = 0)) else (decide (p0.1 = 2) && (decide (p0.2.1 = 0) && (decide (0 ≤ p0.2.2) && decide (p0.2.2 < p1))))))
theorem Kj (Y : Nat → Prop) (w0 : World)  (p0 : Int × Int × Int) (p1 : Int) (r : Bool) (H : Ge p0 p1 = r)  :
    Calls Try.prog 72 #[.agg #[.int .i64 p0.1, .int .i64 p0.2.1, .int .i64 p0.2.2], .int .i64 p1] w0 fun e w' => e = .returned (.bool r) ∧ Below w0.heap.size w0 w' := by
 refine enter Try.func72 Aa Try.ntmps72 Aa fun a F => ?_
 have W := Stw.start Y w0
 unfold Ge at H
 refine Ak (Ae ?_)
 refine B2 (cs := [.int .i64 p0.1, .int .i64 p0.2.1, .int .i64 p0.2.2]) F W Aa Aa Aa fun b1 a w F W => ?_
 refine ls F W Aa (Af F Aa).q fun a w F W => ?_
 refine Ag (Ad (Ak (Ak (Ae ?_))))
 refine ls F W Aa (Al DI Aa Aa Aa T3 F Aa 0 Aa).q fun a w F W => ?_
 refine ls F W Aa (As (v := Value.int .i64 p0.1) 0 F Aa Aa T3 Aa).q fun a w F W => ?_
 refine ls F W Aa (BJ F Aa Aa).q fun a w F W => ?_
 refine Ag (Ad ?_)
 refine AA F Aa (fun hb => ?_) fun hb => ?_
 ·
  have H := AU (Bd hb) H
  rw [hb] at F
  clear hb
  refine AY (fun a w => Fr 59 [] [(1, .int .i64 p1), (2, .pointer (some ⟨b1, 0, none⟩)), (4, .bool (decide (0 ≤ p0.2.1) && (decide (p0.2.1 ≤ 3) && (decide (0 ≤ p0.2.2) && decide (p0.2.2 ≤ (Bb p0.2.1))))))] a ∧ Stw ⟨Y, [], w0⟩ [(b1, [.int .i64 p0.1, .int .i64 p0.2.1, .int .i64 p0.2.2])] [] w) ?_ ?_
  ·
   refine DA W MO (by kernel_rfl) ?_
   refine qs F Aa (Al DI Aa Aa Aa T3 F Aa 1 Aa).q fun a F => ?_
   refine qs F Aa (As (v := Value.int .i64 p0.2.1) 0 F Aa Aa T3 Aa).q fun a F => ?_
   refine qs F Aa (Ez F Aa Aa).q fun a F => ?_
   refine qs F Aa (Ah F Aa).q fun a F => ?_
   rcases Bool.eq_false_or_eq_true (decide (0 ≤ p0.2.1)) with hb0 | hb0
   ·
    rw [hb0] at F
    refine Ck F (Aj F Aa Aa Aa Aa) Aa (Ap Aa) (Al DI Aa Aa Aa T3 F Aa 1 Aa).q fun a F => ?_
    refine Ck F (Aj F Aa Aa Aa Aa) Aa (Ap Aa) (As (v := Value.int .i64 p0.2.1) 0 F Aa Aa T3 Aa).q fun a F => ?_
    refine Ck F (Aj F Aa Aa Aa Aa) Aa (Ap Aa) (Hg F Aa Aa).q fun a F => ?_
    refine qs F Aa (Aw F Aa Aa Aa).q fun a F => ?_
    refine qs F Aa (Ah F Aa).q fun a F => ?_
    rcases Bool.eq_false_or_eq_true (decide (p0.2.1 ≤ 3)) with hb1 | hb1
    ·
     rw [hb1] at F
     refine Ck F (Aj F Aa Aa Aa Aa) Aa (Ap Aa) (Al DI Aa Aa Aa T3 F Aa 2 Aa).q fun a F => ?_
     refine Ck F (Aj F Aa Aa Aa Aa) Aa (Ap Aa) (As (v := Value.int .i64 p0.2.2) 0 F Aa Aa T3 Aa).q fun a F => ?_
     refine Ck F (Aj F Aa Aa Aa Aa) Aa (Ap Aa) (Ez F Aa Aa).q fun a F => ?_
     refine qs F Aa (Aw F Aa Aa Aa).q fun a F => ?_
     refine qs F Aa (Ah F Aa).q fun a F => ?_
     rcases Bool.eq_false_or_eq_true (decide (0 ≤ p0.2.2)) with hb2 | hb2
     ·
      rw [hb2] at F
      refine Ck F (Aj F Aa Aa Aa Aa) Aa (Ap Aa) (Al DI Aa Aa Aa T3 F Aa 2 Aa).q fun a F => ?_
      refine Ck F (Aj F Aa Aa Aa Aa) Aa (Ap Aa) (As (v := Value.int .i64 p0.2.2) 0 F Aa Aa T3 Aa).q fun a F => ?_
      refine Ck F (Aj F Aa Aa Aa Aa) Aa (Ap Aa) (Al DI Aa Aa Aa T3 F Aa 1 Aa).q fun a F => ?_
      refine Ck F (Aj F Aa Aa Aa Aa) Aa (Ap Aa) (As (v := Value.int .i64 p0.2.1) 0 F Aa Aa T3 Aa).q fun a F => ?_
      refine Ck F (Aj F Aa Aa Aa Aa) Aa (Ap Aa) (A4 (v := Value.int .i64 (Bb p0.2.1)) F Nq Aa (fun w W => GT any w p0.2.1 _ Aa)) fun a F => ?_
      refine Ck F (Aj F Aa Aa Aa Aa) Aa (Ap Aa) (Hg F Aa Aa).q fun a F => ?_
      refine qs F Aa (Aw F Aa Aa Aa).q fun a F => ?_
      refine qs F Aa (Af F Aa).q fun a F => ?_
      refine Bm fun w W => ?_
      refine Ad ?_
      exact ⟨F.re ⟨rfl, Aa, (by show some (Value.bool (decide (p0.2.2 ≤ (Bb p0.2.1)))) = some (Value.bool (decide (0 ≤ p0.2.1) && (decide (p0.2.1 ≤ 3) && (decide (0 ≤ p0.2.2) && decide (p0.2.2 ≤ (Bb p0.2.1)))))); try rw [hb0]; try rw [hb1]; try rw [hb2]; all_goals simp only [Bool.not_true, Bool.not_false, Bool.true_and, Bool.false_and, Bool.true_or, Bool.false_or, Bool.and_true, Bool.or_false, cond_true, cond_false]), trivial⟩, W⟩
     rw [hb2] at F
     iterate 6 refine Cq F (BX F Aa Aa Aa Aa Aa) Aa Aa fun a F => ?_
     refine qs F Aa (Ao F Aa Aa Aa).q fun a F => ?_
     refine qs F Aa (Af F Aa).q fun a F => ?_
     refine Bm fun w W => ?_
     refine Ad ?_
     exact ⟨F.re ⟨rfl, Aa, (by show some (Value.bool false) = some (Value.bool (decide (0 ≤ p0.2.1) && (decide (p0.2.1 ≤ 3) && (decide (0 ≤ p0.2.2) && decide (p0.2.2 ≤ (Bb p0.2.1)))))); try rw [hb0]; try rw [hb1]; try rw [hb2]; all_goals simp only [Bool.not_true, Bool.not_false, Bool.true_and, Bool.false_and, Bool.true_or, Bool.false_or, Bool.and_true, Bool.or_false, cond_true, cond_false]), trivial⟩, W⟩
    rw [hb1] at F
    iterate 3 refine Cq F (BX F Aa Aa Aa Aa Aa) Aa Aa fun a F => ?_
    refine qs F Aa (Ao F Aa Aa Aa).q fun a F => ?_
    refine qs F Aa (Ah F Aa).q fun a F => ?_
    iterate 6 refine Cq F (BX F Aa Aa Aa Aa Aa) Aa Aa fun a F => ?_
    refine qs F Aa (Ao F Aa Aa Aa).q fun a F => ?_
    refine qs F Aa (Af F Aa).q fun a F => ?_
    refine Bm fun w W => ?_
    refine Ad ?_
    exact ⟨F.re ⟨rfl, Aa, (by show some (Value.bool false) = some (Value.bool (decide (0 ≤ p0.2.1) && (decide (p0.2.1 ≤ 3) && (decide (0 ≤ p0.2.2) && decide (p0.2.2 ≤ (Bb p0.2.1)))))); try rw [hb0]; try rw [hb1]; all_goals simp only [Bool.not_true, Bool.not_false, Bool.true_and, Bool.false_and, Bool.true_or, Bool.false_or, Bool.and_true, Bool.or_false, cond_true, cond_false]), trivial⟩, W⟩
   rw [hb0] at F
   iterate 3 refine Cq F (BX F Aa Aa Aa Aa Aa) Aa Aa fun a F => ?_
   refine qs F Aa (Ao F Aa Aa Aa).q fun a F => ?_
   refine qs F Aa (Ah F Aa).q fun a F => ?_
   iterate 3 refine Cq F (BX F Aa Aa Aa Aa Aa) Aa Aa fun a F => ?_
   refine qs F Aa (Ao F Aa Aa Aa).q fun a F => ?_
   refine qs F Aa (Ah F Aa).q fun a F => ?_
   iterate 6 refine Cq F (BX F Aa Aa Aa Aa Aa) Aa Aa fun a F => ?_
   refine qs F Aa (Ao F Aa Aa Aa).q fun a F => ?_
   refine qs F Aa (Af F Aa).q fun a F => ?_
   refine Bm fun w W => ?_
   refine Ad ?_
   exact ⟨F.re ⟨rfl, Aa, (by show some (Value.bool false) = some (Value.bool (decide (0 ≤ p0.2.1) && (decide (p0.2.1 ≤ 3) && (decide (0 ≤ p0.2.2) && decide (p0.2.2 ≤ (Bb p0.2.1)))))); try rw [hb0]; all_goals simp only [Bool.not_true, Bool.not_false, Bool.true_and, Bool.false_and, Bool.true_or, Bool.false_or, Bool.and_true, Bool.or_false, cond_true, cond_false]), trivial⟩, W⟩
  rintro a w ⟨F, W⟩
  refine Ay (AC ?_)
  subst H
  refine AO (.inl Aa) F W Aa (Au F Aa) ?_
  exact ⟨rfl, W.done⟩
 have H := AV (Be hb) H
 rw [hb] at F
 clear hb
 refine Az (Ad (Ak (Ak (Ae ?_))))
 refine ls F W Aa (Al DI Aa Aa Aa T3 F Aa 0 Aa).q fun a w F W => ?_
 refine ls F W Aa (As (v := Value.int .i64 p0.1) 0 F Aa Aa T3 Aa).q fun a w F W => ?_
 refine ls F W Aa (BJ F Aa Aa).q fun a w F W => ?_
 refine Ag (Ad ?_)
 refine AA F Aa (fun hb => ?_) fun hb => ?_
 ·
  have H := AU (Bd hb) H
  rw [hb] at F
  clear hb
  refine AY (fun a w => Fr 59 [] [(1, .int .i64 p1), (2, .pointer (some ⟨b1, 0, none⟩)), (4, .bool (decide (p0.2.1 = 0) && decide (p0.2.2 = 0)))] a ∧ Stw ⟨Y, [], w0⟩ [(b1, [.int .i64 p0.1, .int .i64 p0.2.1, .int .i64 p0.2.2])] [] w) ?_ ?_
  ·
   refine Ae ?_
   refine ls F W Aa (Al DI Aa Aa Aa T3 F Aa 1 Aa).q fun a w F W => ?_
   refine ls F W Aa (As (v := Value.int .i64 p0.2.1) 0 F Aa Aa T3 Aa).q fun a w F W => ?_
   refine ls F W Aa (BJ F Aa Aa).q fun a w F W => ?_
   refine ls F W Aa (Ah F Aa).q fun a w F W => ?_
   rcases Bool.eq_false_or_eq_true (decide (p0.2.1 = 0)) with hb0 | hb0
   ·
    rw [hb0] at F
    refine AD F W (Aj F Aa Aa Aa Aa) Aa (Ap Aa) (Al DI Aa Aa Aa T3 F Aa 2 Aa).q fun a w F W => ?_
    refine AD F W (Aj F Aa Aa Aa Aa) Aa (Ap Aa) (As (v := Value.int .i64 p0.2.2) 0 F Aa Aa T3 Aa).q fun a w F W => ?_
    refine AD F W (Aj F Aa Aa Aa Aa) Aa (Ap Aa) (BJ F Aa Aa).q fun a w F W => ?_
    refine ls F W Aa (Aw F Aa Aa Aa).q fun a w F W => ?_
    refine ls F W Aa (Af F Aa).q fun a w F W => ?_
    refine Ag (Ad ?_)
    exact ⟨F.re ⟨rfl, Aa, (by show some (Value.bool (decide (p0.2.2 = 0))) = some (Value.bool (decide (p0.2.1 = 0) && decide (p0.2.2 = 0))); try rw [hb0]; all_goals simp only [Bool.not_true, Bool.not_false, Bool.true_and, Bool.false_and, Bool.true_or, Bool.false_or, Bool.and_true, Bool.or_false, cond_true, cond_false]), trivial⟩, W⟩
   rw [hb0] at F
   iterate 3 refine Ci F Aa Aa Aa Aa Aa Aa Aa fun a F => ?_
   refine ls F W Aa (Ao F Aa Aa Aa).q fun a w F W => ?_
   refine ls F W Aa (Af F Aa).q fun a w F W => ?_
   refine Ag (Ad ?_)
   exact ⟨F.re ⟨rfl, Aa, (by show some (Value.bool false) = some (Value.bool (decide (p0.2.1 = 0) && decide (p0.2.2 = 0))); try rw [hb0]; all_goals simp only [Bool.not_true, Bool.not_false, Bool.true_and, Bool.false_and, Bool.true_or, Bool.false_or, Bool.and_true, Bool.or_false, cond_true, cond_false]), trivial⟩, W⟩
  rintro a w ⟨F, W⟩
  refine Ay (AC ?_)
  subst H
  refine AO (.inl Aa) F W Aa (Au F Aa) ?_
  exact ⟨rfl, W.done⟩
 have H := AV (Be hb) H
 rw [hb] at F
 clear hb
 refine Az (Ad ?_)
 refine AY (fun a w => Fr 59 [] [(4, .bool (decide (p0.1 = 2) && (decide (p0.2.1 = 0) && (decide (0 ≤ p0.2.2) && decide (p0.2.2 < p1)))))] a ∧ Stw ⟨Y, [], w0⟩ [(b1, [.int .i64 p0.1, .int .i64 p0.2.1, .int .i64 p0.2.2])] [] w) ?_ ?_
 ·
  refine Ae ?_
  refine ls F W Aa (Al DI Aa Aa Aa T3 F Aa 0 Aa).q fun a w F W => ?_
  refine ls F W Aa (As (v := Value.int .i64 p0.1) 0 F Aa Aa T3 Aa).q fun a w F W => ?_
  refine ls F W Aa (BJ F Aa Aa).q fun a w F W => ?_
  refine ls F W Aa (Ah F Aa).q fun a w F W => ?_
  rcases Bool.eq_false_or_eq_true (decide (p0.1 = 2)) with hb0 | hb0
  ·
   rw [hb0] at F
   refine AD F W (Aj F Aa Aa Aa Aa) Aa (Ap Aa) (Al DI Aa Aa Aa T3 F Aa 1 Aa).q fun a w F W => ?_
   refine AD F W (Aj F Aa Aa Aa Aa) Aa (Ap Aa) (As (v := Value.int .i64 p0.2.1) 0 F Aa Aa T3 Aa).q fun a w F W => ?_
   refine AD F W (Aj F Aa Aa Aa Aa) Aa (Ap Aa) (BJ F Aa Aa).q fun a w F W => ?_
   refine ls F W Aa (Aw F Aa Aa Aa).q fun a w F W => ?_
   refine ls F W Aa (Ah F Aa).q fun a w F W => ?_
   rcases Bool.eq_false_or_eq_true (decide (p0.2.1 = 0)) with hb1 | hb1
   ·
    rw [hb1] at F
    refine AD F W (Aj F Aa Aa Aa Aa) Aa (Ap Aa) (Al DI Aa Aa Aa T3 F Aa 2 Aa).q fun a w F W => ?_
    refine AD F W (Aj F Aa Aa Aa Aa) Aa (Ap Aa) (As (v := Value.int .i64 p0.2.2) 0 F Aa Aa T3 Aa).q fun a w F W => ?_
    refine AD F W (Aj F Aa Aa Aa Aa) Aa (Ap Aa) (Ez F Aa Aa).q fun a w F W => ?_
    refine ls F W Aa (Aw F Aa Aa Aa).q fun a w F W => ?_
    refine ls F W Aa (Ah F Aa).q fun a w F W => ?_
    rcases Bool.eq_false_or_eq_true (decide (0 ≤ p0.2.2)) with hb2 | hb2
    ·
     rw [hb2] at F
     refine AD F W (Aj F Aa Aa Aa Aa) Aa (Ap Aa) (Al DI Aa Aa Aa T3 F Aa 2 Aa).q fun a w F W => ?_
     refine AD F W (Aj F Aa Aa Aa Aa) Aa (Ap Aa) (As (v := Value.int .i64 p0.2.2) 0 F Aa Aa T3 Aa).q fun a w F W => ?_
     refine AD F W (Aj F Aa Aa Aa Aa) Aa (Ap Aa) (Ah F Aa).q fun a w F W => ?_
     refine AD F W (Aj F Aa Aa Aa Aa) Aa (Ap Aa) (BS F Aa Aa).q fun a w F W => ?_
     refine ls F W Aa (Aw F Aa Aa Aa).q fun a w F W => ?_
     refine ls F W Aa (Af F Aa).q fun a w F W => ?_
     refine Ag (Ad ?_)
     exact ⟨F.re ⟨(by show some (Value.bool (decide (p0.2.2 < p1))) = some (Value.bool (decide (p0.1 = 2) && (decide (p0.2.1 = 0) && (decide (0 ≤ p0.2.2) && decide (p0.2.2 < p1))))); try rw [hb1]; try rw [hb2]; try rw [hb0]; all_goals simp only [Bool.not_true, Bool.not_false, Bool.true_and, Bool.false_and, Bool.true_or, Bool.false_or, Bool.and_true, Bool.or_false, cond_true, cond_false]), trivial⟩, W⟩
    rw [hb2] at F
    iterate 4 refine Ci F Aa Aa Aa Aa Aa Aa Aa fun a F => ?_
    refine ls F W Aa (Ao F Aa Aa Aa).q fun a w F W => ?_
    refine ls F W Aa (Af F Aa).q fun a w F W => ?_
    refine Ag (Ad ?_)
    exact ⟨F.re ⟨(by show some (Value.bool false) = some (Value.bool (decide (p0.1 = 2) && (decide (p0.2.1 = 0) && (decide (0 ≤ p0.2.2) && decide (p0.2.2 < p1))))); try rw [hb1]; try rw [hb2]; try rw [hb0]; all_goals simp only [Bool.not_true, Bool.not_false, Bool.true_and, Bool.false_and, Bool.true_or, Bool.false_or, Bool.and_true, Bool.or_false, cond_true, cond_false]), trivial⟩, W⟩
   rw [hb1] at F
   iterate 3 refine Ci F Aa Aa Aa Aa Aa Aa Aa fun a F => ?_
   refine ls F W Aa (Ao F Aa Aa Aa).q fun a w F W => ?_
   refine ls F W Aa (Ah F Aa).q fun a w F W => ?_
   iterate 4 refine Ci F Aa Aa Aa Aa Aa Aa Aa fun a F => ?_
   refine ls F W Aa (Ao F Aa Aa Aa).q fun a w F W => ?_
   refine ls F W Aa (Af F Aa).q fun a w F W => ?_
   refine Ag (Ad ?_)
   exact ⟨F.re ⟨(by show some (Value.bool false) = some (Value.bool (decide (p0.1 = 2) && (decide (p0.2.1 = 0) && (decide (0 ≤ p0.2.2) && decide (p0.2.2 < p1))))); try rw [hb1]; try rw [hb0]; all_goals simp only [Bool.not_true, Bool.not_false, Bool.true_and, Bool.false_and, Bool.true_or, Bool.false_or, Bool.and_true, Bool.or_false, cond_true, cond_false]), trivial⟩, W⟩
  rw [hb0] at F
  iterate 3 refine Ci F Aa Aa Aa Aa Aa Aa Aa fun a F => ?_
  refine ls F W Aa (Ao F Aa Aa Aa).q fun a w F W => ?_
  refine ls F W Aa (Ah F Aa).q fun a w F W => ?_
  iterate 3 refine Ci F Aa Aa Aa Aa Aa Aa Aa fun a F => ?_
  refine ls F W Aa (Ao F Aa Aa Aa).q fun a w F W => ?_
  refine ls F W Aa (Ah F Aa).q fun a w F W => ?_
  iterate 4 refine Ci F Aa Aa Aa Aa Aa Aa Aa fun a F => ?_
  refine ls F W Aa (Ao F Aa Aa Aa).q fun a w F W => ?_
  refine ls F W Aa (Af F Aa).q fun a w F W => ?_
  refine Ag (Ad ?_)
  exact ⟨F.re ⟨(by show some (Value.bool false) = some (Value.bool (decide (p0.1 = 2) && (decide (p0.2.1 = 0) && (decide (0 ≤ p0.2.2) && decide (p0.2.2 < p1))))); try rw [hb0]; all_goals simp only [Bool.not_true, Bool.not_false, Bool.true_and, Bool.false_and, Bool.true_or, Bool.false_or, Bool.and_true, Bool.or_false, cond_true, cond_false]), trivial⟩, W⟩
 rintro a w ⟨F, W⟩
 refine Ay ?_
 subst H
 refine AO (.inl Aa) F W Aa (Au F Aa) ?_
 exact ⟨rfl, W.done⟩
theorem Ow : Has Try.prog 72 := ⟨fun args w => An Try.func72 rfl (by decide) args w⟩
noncomputable def EJ (p0 : List (Int × Int × Int)) (p1 : Int) : Int → Option (Int ⊕ (Unit ⊕ Bool))
  | x1 => (if x1 < (p0.length : Int) then (ix p0 x1).bind fun x2 => (if (!(Ge x2 p1)) = true then some (.inr (.inr false)) else some (.inl (CG (x1 + 1)))) else some (.inr (.inl ())))
noncomputable def Fp (p0 : List (Int × Int × Int)) (p1 : Int) : Option Bool := FL (Bh (EJ p0 p1) 0) fun _ => some (decide ((p0.length : Int) ≤ 16))
theorem Ja (Y : Nat → Prop) (w0 : World) (v1 : Value) (p0 : List (Int × Int × Int)) (p1 : Int) (r : Bool) (H : Fp p0 p1 = some r) (h_v1 : Sl w0 (NX []) Br v1 p0) :
    Calls Try.prog 51 #[v1, .int .i64 p1] w0 fun e w' => e = .returned (.bool r) ∧ Below w0.heap.size w0 w' := by
 refine enter Try.func51 Aa Try.ntmps51 Aa fun a F => ?_
 have W := Stw.start Y w0
 unfold Fp at H
 refine Ak (Ae ?_)
 refine ls F W Aa (Af F Aa).q fun a w F W => ?_
 refine Ag (Ad ?_)
 obtain ⟨o1, G1, K1, L1⟩ := IA H
 refine AY (fun a w => some (Sum.inl ()) = some o1 ∧ Fr 22 [] [(0, v1), (4, .bool false)] a ∧ Stw ⟨Y, [], w0⟩ [] [] w) ?_ ?_
 ·
  have H := G1
  clear G1 K1
  refine Ak (Ae ?_)
  refine ls F W Aa (Af F Aa).q fun a w F W => ?_
  refine Ag (Ad (AB ?_))
  refine BU H (fun s a w => Fr 22 [] [(0, v1), (1, .int .i64 p1), (4, .bool false), (5, .int .i64 s)] a ∧ Stw ⟨Y, [], w0⟩ [] [] w) ⟨F.re ⟨rfl, Aa, Aa, Aa, trivial⟩, W⟩ fun s o a w H L2 hR => ?_
  obtain ⟨x1, rfl⟩ : ∃ x, x = s := ⟨s, rfl⟩
  obtain ⟨F, W⟩ := hR
  have F : Fr 22 [] [(0, v1), (1, .int .i64 p1), (4, .bool false), (5, .int .i64 x1)] a := F
  have W : Stw ⟨Y, [], w0⟩ [] [] w := W
  rw [EJ] at H
  refine Ak (Ak (Ae ?_))
  iterate 2 refine ls F W Aa (Ah F Aa).q fun a w F W => ?_
  refine ls F W Aa (B4 (r := Br) (l := p0) Hn Aa F Aa (Av h_v1)).q fun a w F W => ?_
  refine ls F W Aa (BS F Aa Aa).q fun a w F W => ?_
  refine Ag (Ad ?_)
  refine AA F Aa (fun hb => ?_) fun hb => ?_
  ·
   have H := AU (Bd hb) H
   rw [hb] at F
   clear hb
   refine Az (Ad (Ak (AB (Ak (Ae ?_)))))
   iterate 2 refine ls F W Aa (Ah F Aa).q fun a w F W => ?_
   obtain ⟨x2, h1, H⟩ := Aq H
   refine ls F W Aa (Bl (r := Br) LK F Aa Aa (Av h_v1) h1).q fun a w F W => ?_
   refine ls F W Aa (Ba (y := Value.agg #[.int .i64 x2.1, .int .i64 x2.2.1, .int .i64 x2.2.2]) (j := 0) (i := x1) F Aa Aa (Av h_v1) h1 LS.to LT Aa).q fun a w F W => ?_
   refine ls F W Aa (Ah F Aa).q fun a w F W => ?_
   refine ls F W Aa (A4 (v := Value.bool (Ge x2 p1)) F Ow Aa (fun w W => Kj any w x2 p1 _ Aa)) fun a w F W => ?_
   refine ls F W Aa (F3 F Aa).q fun a w F W => ?_
   refine Ag (Ad ?_)
   refine AA F Aa (fun hb => ?_) fun hb => ?_
   ·
    have H := AU hb H
    rw [hb] at F
    clear hb
    refine Ak (Ae ?_)
    refine ls F W Aa (Af F Aa).q fun a w F W => ?_
    refine Ag (Ad (Ay (AW ?_)))
    iterate 2 refine AC ?_
    refine AW (AC ?_)
    have H := L2 _ H
    have H := L1 _ H
    have H := AZ H
    subst H
    refine AO (.inl Aa) F W Aa (Au F Aa) ?_
    exact ⟨rfl, W.done⟩
   have H := AV (by rw [hb]; decide) H
   rw [hb] at F
   clear hb
   refine Az (A5 (Ad (Ae ?_)))
   refine ls F W Aa (Ah F Aa).q fun a w F W => ?_
   refine ls F W Aa (Co F Aa Aa Aa).q fun a w F W => ?_
   refine ls F W Aa (Af F Aa).q fun a w F W => ?_
   refine Ag (Ad ?_)
   exact ⟨_, H, F.re ⟨rfl, Aa, Aa, Aa, trivial⟩, W⟩
  have H := AV (Be hb) H
  rw [hb] at F
  clear hb
  refine BV ?_
  iterate 2 refine Ce ?_
  refine BT (Ad ?_)
  have H := L2 _ H
  exact ⟨H, F.re ⟨rfl, Aa, trivial⟩, W⟩
 rintro a w ⟨hj, F, W⟩
 have H := K1 _ hj
 clear hj G1 K1 L1
 refine Ak (Ae ?_)
 refine ls F W Aa (Ah F Aa).q fun a w F W => ?_
 refine ls F W Aa (B4 (r := Br) (l := p0) Hn Aa F Aa (Av h_v1)).q fun a w F W => ?_
 refine ls F W Aa (Hg F Aa Aa).q fun a w F W => ?_
 refine ls F W Aa (Af F Aa).q fun a w F W => ?_
 refine Ag (Ad (Ay ?_))
 have H := AZ H
 subst H
 refine AO (.inl Aa) F W Aa (Au F Aa) ?_
 exact ⟨rfl, W.done⟩
theorem Oh : Has Try.prog 51 := ⟨fun args w => An Try.func51 rfl (by decide) args w⟩
noncomputable def Ff (p0 : Int × (Int × (Int × Int × Int × Int) × (Int × Int × Int × Int)) × (List (Int × Int × Int))) (p1 : Int) : Option Bool := (if 0 ≤ p0.1 then (if p0.1 ≤ 65535 then (Fo p0.2.1).bind fun x2 => (if x2 = true then (Fp p0.2.2 p1).bind fun x3 => some x3 else some false) else some false) else some false).bind fun x1 => some x1
theorem Je (Y : Nat → Prop) (w0 : World) (v1 : Value) (p0 : Int × (Int × (Int × Int × Int × Int) × (Int × Int × Int × Int)) × (List (Int × Int × Int))) (p1 : Int) (r : Bool) (H : Ff p0 p1 = some r) (h_v1 : Sl w0 (NX []) Br v1 p0.2.2) :
    Calls Try.prog 24 #[.agg #[.int .i64 p0.1, .int .i64 p0.2.1.1, .int .i64 p0.2.1.2.1.1, .int .i64 p0.2.1.2.1.2.1, .int .i64 p0.2.1.2.1.2.2.1, .int .i64 p0.2.1.2.1.2.2.2, .int .i64 p0.2.1.2.2.1, .int .i64 p0.2.1.2.2.2.1, .int .i64 p0.2.1.2.2.2.2.1, .int .i64 p0.2.1.2.2.2.2.2, v1], .int .i64 p1] w0 fun e w' => e = .returned (.bool r) ∧ Below w0.heap.size w0 w' := by
 refine enter Try.func24 Aa Try.ntmps24 Aa fun a F => ?_
 have W := Stw.start Y w0
 unfold Ff at H
 refine Ak (Ae ?_)
 refine B2 (cs := [.int .i64 p0.1, .int .i64 p0.2.1.1, .int .i64 p0.2.1.2.1.1, .int .i64 p0.2.1.2.1.2.1, .int .i64 p0.2.1.2.1.2.2.1, .int .i64 p0.2.1.2.1.2.2.2, .int .i64 p0.2.1.2.2.1, .int .i64 p0.2.1.2.2.2.1, .int .i64 p0.2.1.2.2.2.2.1, .int .i64 p0.2.1.2.2.2.2.2, v1]) F W Aa Aa Aa fun b1 a w F W => ?_
 refine ls F W Aa (Af F Aa).q fun a w F W => ?_
 refine Ag (Ad ?_)
 obtain ⟨o1, G1, K1⟩ := Aq H
 refine AY (fun a w => ∃ x1 : Bool, some (x1) = some o1 ∧ Fr 24 [] [(4, .bool x1)] a ∧ Stw ⟨Y, [], w0⟩ [(b1, [.int .i64 p0.1, .int .i64 p0.2.1.1, .int .i64 p0.2.1.2.1.1, .int .i64 p0.2.1.2.1.2.1, .int .i64 p0.2.1.2.1.2.2.1, .int .i64 p0.2.1.2.1.2.2.2, .int .i64 p0.2.1.2.2.1, .int .i64 p0.2.1.2.2.2.1, .int .i64 p0.2.1.2.2.2.2.1, .int .i64 p0.2.1.2.2.2.2.2, v1])] [] w) ?_ ?_
 ·
  have H := G1
  clear G1 K1
  refine Ae ?_
  refine ls F W Aa (Al CA Aa Aa Aa T3 F Aa 0 Aa).q fun a w F W => ?_
  refine ls F W Aa (As (v := Value.int .i64 p0.1) 0 F Aa Aa T3 Aa).q fun a w F W => ?_
  refine ls F W Aa (Ez F Aa Aa).q fun a w F W => ?_
  refine ls F W Aa (Ah F Aa).q fun a w F W => ?_
  rcases Bool.eq_false_or_eq_true (decide (0 ≤ p0.1)) with hb | hb
  ·
   have H := AU (Bd hb) H
   rw [hb] at F
   clear hb
   refine AD F W (Aj F Aa Aa Aa Aa) Aa (Ap Aa) (Al CA Aa Aa Aa T3 F Aa 0 Aa).q fun a w F W => ?_
   refine AD F W (Aj F Aa Aa Aa Aa) Aa (Ap Aa) (As (v := Value.int .i64 p0.1) 0 F Aa Aa T3 Aa).q fun a w F W => ?_
   refine AD F W (Aj F Aa Aa Aa Aa) Aa (Ap Aa) (Hg F Aa Aa).q fun a w F W => ?_
   refine ls F W Aa (Aw F Aa Aa Aa).q fun a w F W => ?_
   refine ls F W Aa (Ah F Aa).q fun a w F W => ?_
   rcases Bool.eq_false_or_eq_true (decide (p0.1 ≤ 65535)) with hb | hb
   ·
    have H := AU (Bd hb) H
    rw [hb] at F
    clear hb
    refine AD F W (Aj F Aa Aa Aa Aa) Aa (Ap Aa) (Al CA Aa Aa Aa El F Aa 1 Aa).q fun a w F W => ?_
    refine AD F W (Aj F Aa Aa Aa Aa) Aa (Ap Aa) (As (v := Value.agg #[.int .i64 p0.2.1.1, .int .i64 p0.2.1.2.1.1, .int .i64 p0.2.1.2.1.2.1, .int .i64 p0.2.1.2.1.2.2.1, .int .i64 p0.2.1.2.1.2.2.2, .int .i64 p0.2.1.2.2.1, .int .i64 p0.2.1.2.2.2.1, .int .i64 p0.2.1.2.2.2.2.1, .int .i64 p0.2.1.2.2.2.2.2]) 0 F Aa Aa El Aa).q fun a w F W => ?_
    refine Gg (Aj F Aa Aa Aa Aa) ?_
    obtain ⟨x2, h1, H⟩ := Aq H
    refine ls F W Aa (A4 (v := Value.bool x2) F Od Aa (fun w W => Jt any w p0.2.1 _ h1)) fun a w F W => ?_
    refine ls F W Aa (Aw F Aa Aa Aa).q fun a w F W => ?_
    refine ls F W Aa (Ah F Aa).q fun a w F W => ?_
    rcases Bool.eq_false_or_eq_true x2 with hb | hb
    ·
     have H := AU hb H
     rw [hb] at F
     clear hb
     refine AD F W (Aj F Aa Aa Aa Aa) Aa (Ap Aa) (Al CA Aa Aa Aa Hv F Aa 10 Aa).q fun a w F W => ?_
     refine AD F W (Aj F Aa Aa Aa Aa) Aa (Ap Aa) (As (v := v1) 0 F Aa Aa Hv Aa).q fun a w F W => ?_
     refine AD F W (Aj F Aa Aa Aa Aa) Aa (Ap Aa) (Ah F Aa).q fun a w F W => ?_
     refine Gg (Aj F Aa Aa Aa Aa) ?_
     obtain ⟨x3, h2, H⟩ := Aq H
     refine ls F W Aa (A4 (v := Value.bool x3) F Oh Aa (fun w W => Ja any w (v1) p0.2.2 p1 _ h2 (((Av h_v1) : Dc _ _ _ _ _ _) w W).nx)) fun a w F W => ?_
     refine ls F W Aa (Aw F Aa Aa Aa).q fun a w F W => ?_
     refine ls F W Aa (Af F Aa).q fun a w F W => ?_
     refine Ag (Ad ?_)
     exact ⟨_, H, F.re ⟨rfl, trivial⟩, W⟩
    have H := AV (by rw [hb]; decide) H
    rw [hb] at F
    clear hb
    iterate 4 refine Ci F Aa Aa Aa Aa Aa Aa Aa fun a F => ?_
    refine ls F W Aa (Ao F Aa Aa Aa).q fun a w F W => ?_
    refine ls F W Aa (Af F Aa).q fun a w F W => ?_
    refine Ag (Ad ?_)
    exact ⟨_, H, F.re ⟨rfl, trivial⟩, W⟩
   have H := AV (Be hb) H
   rw [hb] at F
   clear hb
   iterate 3 refine Ci F Aa Aa Aa Aa Aa Aa Aa fun a F => ?_
   refine ls F W Aa (Ao F Aa Aa Aa).q fun a w F W => ?_
   refine ls F W Aa (Ah F Aa).q fun a w F W => ?_
   iterate 4 refine Ci F Aa Aa Aa Aa Aa Aa Aa fun a F => ?_
   refine ls F W Aa (Ao F Aa Aa Aa).q fun a w F W => ?_
   refine ls F W Aa (Af F Aa).q fun a w F W => ?_
   refine Ag (Ad ?_)
   exact ⟨_, H, F.re ⟨rfl, trivial⟩, W⟩
  have H := AV (Be hb) H
  rw [hb] at F
  clear hb
  iterate 3 refine Ci F Aa Aa Aa Aa Aa Aa Aa fun a F => ?_
  refine ls F W Aa (Ao F Aa Aa Aa).q fun a w F W => ?_
  refine ls F W Aa (Ah F Aa).q fun a w F W => ?_
  iterate 3 refine Ci F Aa Aa Aa Aa Aa Aa Aa fun a F => ?_
  refine ls F W Aa (Ao F Aa Aa Aa).q fun a w F W => ?_
  refine ls F W Aa (Ah F Aa).q fun a w F W => ?_
  iterate 4 refine Ci F Aa Aa Aa Aa Aa Aa Aa fun a F => ?_
  refine ls F W Aa (Ao F Aa Aa Aa).q fun a w F W => ?_
  refine ls F W Aa (Af F Aa).q fun a w F W => ?_
  refine Ag (Ad ?_)
  exact ⟨_, H, F.re ⟨rfl, trivial⟩, W⟩
 rintro a w ⟨x1, hj, F, W⟩
 have hj := AZ hj
 subst hj
 have H := K1
 clear G1 K1
 refine Ay ?_
 have H := AZ H
 subst H
 refine AO (.inl Aa) F W Aa (Au F Aa) ?_
 exact ⟨rfl, W.done⟩
theorem OK : Has Try.prog 24 := ⟨fun args w => An Try.func24 rfl (by decide) args w⟩
def GL (p0 : Int × (Int × (Int × Int × Int × Int) × (Int × Int × Int × Int)) × (List (Int × Int × Int))) (p1 : Int × (Int × (Int × Int × Int × Int) × (Int × Int × Int × Int)) × (List (Int × Int × Int))) : Bool := (decide (p0.1 = p1.1) && decide (p0.2.1.1 = p1.2.1.1 ∧ p0.2.1.2.1.1 = p1.2.1.2.1.1 ∧ p0.2.1.2.1.2.1 = p1.2.1.2.1.2.1 ∧ p0.2.1.2.1.2.2.1 = p1.2.1.2.1.2.2.1 ∧ p0.2.1.2.1.2.2.2 = p1.2.1.2.1.2.2.2 ∧ p0.2.1.2.2.1 = p1.2.1.2.2.1 ∧ p0.2.1.2.2.2.1 = p1.2.1.2.2.2.1 ∧ p0.2.1.2.2.2.2.1 = p1.2.1.2.2.2.2.1 ∧ p0.2.1.2.2.2.2.2 = p1.2.1.2.2.2.2.2))
theorem J7 (Y : Nat → Prop) (w0 : World) (v1 : Value) (v2 : Value) (p0 : Int × (Int × (Int × Int × Int × Int) × (Int × Int × Int × Int)) × (List (Int × Int × Int))) (p1 : Int × (Int × (Int × Int × Int × Int) × (Int × Int × Int × Int)) × (List (Int × Int × Int))) (r : Bool) (H : GL p0 p1 = r) (h_v1 : Sl w0 (NX []) Br v1 p0.2.2) (h_v2 : Sl w0 (NX []) Br v2 p1.2.2) :
    Calls Try.prog 32 #[.agg #[.int .i64 p0.1, .int .i64 p0.2.1.1, .int .i64 p0.2.1.2.1.1, .int .i64 p0.2.1.2.1.2.1, .int .i64 p0.2.1.2.1.2.2.1, .int .i64 p0.2.1.2.1.2.2.2, .int .i64 p0.2.1.2.2.1, .int .i64 p0.2.1.2.2.2.1, .int .i64 p0.2.1.2.2.2.2.1, .int .i64 p0.2.1.2.2.2.2.2, v1], .agg #[.int .i64 p1.1, .int .i64 p1.2.1.1, .int .i64 p1.2.1.2.1.1, .int .i64 p1.2.1.2.1.2.1, .int .i64 p1.2.1.2.1.2.2.1, .int .i64 p1.2.1.2.1.2.2.2, .int .i64 p1.2.1.2.2.1, .int .i64 p1.2.1.2.2.2.1, .int .i64 p1.2.1.2.2.2.2.1, .int .i64 p1.2.1.2.2.2.2.2, v2]] w0 fun e w' => e = .returned (.bool r) ∧ Below w0.heap.size w0 w' := by
 refine enter Try.func32 Aa Try.ntmps32 Aa fun a F => ?_
 have W := Stw.start Y w0
 unfold GL at H
 refine Ak (Ae ?_)
 refine B2 (cs := [.int .i64 p0.1, .int .i64 p0.2.1.1, .int .i64 p0.2.1.2.1.1, .int .i64 p0.2.1.2.1.2.1, .int .i64 p0.2.1.2.1.2.2.1, .int .i64 p0.2.1.2.1.2.2.2, .int .i64 p0.2.1.2.2.1, .int .i64 p0.2.1.2.2.2.1, .int .i64 p0.2.1.2.2.2.2.1, .int .i64 p0.2.1.2.2.2.2.2, v1]) F W Aa Aa Aa fun b1 a w F W => ?_
 refine B2 (cs := [.int .i64 p1.1, .int .i64 p1.2.1.1, .int .i64 p1.2.1.2.1.1, .int .i64 p1.2.1.2.1.2.1, .int .i64 p1.2.1.2.1.2.2.1, .int .i64 p1.2.1.2.1.2.2.2, .int .i64 p1.2.1.2.2.1, .int .i64 p1.2.1.2.2.2.1, .int .i64 p1.2.1.2.2.2.2.1, .int .i64 p1.2.1.2.2.2.2.2, v2]) F W Aa Aa Aa fun b2 a w F W => ?_
 refine ls F W Aa (Af F Aa).q fun a w F W => ?_
 refine Ag (Ad ?_)
 refine AY (fun a w => Fr 17 [] [(4, .bool (decide (p0.1 = p1.1) && decide (p0.2.1.1 = p1.2.1.1 ∧ p0.2.1.2.1.1 = p1.2.1.2.1.1 ∧ p0.2.1.2.1.2.1 = p1.2.1.2.1.2.1 ∧ p0.2.1.2.1.2.2.1 = p1.2.1.2.1.2.2.1 ∧ p0.2.1.2.1.2.2.2 = p1.2.1.2.1.2.2.2 ∧ p0.2.1.2.2.1 = p1.2.1.2.2.1 ∧ p0.2.1.2.2.2.1 = p1.2.1.2.2.2.1 ∧ p0.2.1.2.2.2.2.1 = p1.2.1.2.2.2.2.1 ∧ p0.2.1.2.2.2.2.2 = p1.2.1.2.2.2.2.2)))] a ∧ Stw ⟨Y, [], w0⟩ [(b2, [.int .i64 p1.1, .int .i64 p1.2.1.1, .int .i64 p1.2.1.2.1.1, .int .i64 p1.2.1.2.1.2.1, .int .i64 p1.2.1.2.1.2.2.1, .int .i64 p1.2.1.2.1.2.2.2, .int .i64 p1.2.1.2.2.1, .int .i64 p1.2.1.2.2.2.1, .int .i64 p1.2.1.2.2.2.2.1, .int .i64 p1.2.1.2.2.2.2.2, v2]), (b1, [.int .i64 p0.1, .int .i64 p0.2.1.1, .int .i64 p0.2.1.2.1.1, .int .i64 p0.2.1.2.1.2.1, .int .i64 p0.2.1.2.1.2.2.1, .int .i64 p0.2.1.2.1.2.2.2, .int .i64 p0.2.1.2.2.1, .int .i64 p0.2.1.2.2.2.1, .int .i64 p0.2.1.2.2.2.2.1, .int .i64 p0.2.1.2.2.2.2.2, v1])] [] w) ?_ ?_
 ·
  refine Ae ?_
  refine ls F W Aa (Al CA Aa Aa Aa T3 F Aa 0 Aa).q fun a w F W => ?_
  refine ls F W Aa (As (v := Value.int .i64 p0.1) 1 F Aa Aa T3 Aa).q fun a w F W => ?_
  refine ls F W Aa (Al CA Aa Aa Aa T3 F Aa 0 Aa).q fun a w F W => ?_
  refine ls F W Aa (As (v := Value.int .i64 p1.1) 0 F Aa Aa T3 Aa).q fun a w F W => ?_
  refine ls F W Aa (BJ F Aa Aa).q fun a w F W => ?_
  refine ls F W Aa (Ah F Aa).q fun a w F W => ?_
  rcases Bool.eq_false_or_eq_true (decide (p0.1 = p1.1)) with hb0 | hb0
  ·
   rw [hb0] at F
   refine AD F W (Aj F Aa Aa Aa Aa) Aa (Ap Aa) (Al CA Aa Aa Aa El F Aa 1 Aa).q fun a w F W => ?_
   refine AD F W (Aj F Aa Aa Aa Aa) Aa (Ap Aa) (As (v := Value.agg #[.int .i64 p0.2.1.1, .int .i64 p0.2.1.2.1.1, .int .i64 p0.2.1.2.1.2.1, .int .i64 p0.2.1.2.1.2.2.1, .int .i64 p0.2.1.2.1.2.2.2, .int .i64 p0.2.1.2.2.1, .int .i64 p0.2.1.2.2.2.1, .int .i64 p0.2.1.2.2.2.2.1, .int .i64 p0.2.1.2.2.2.2.2]) 1 F Aa Aa El Aa).q fun a w F W => ?_
   refine AD F W (Aj F Aa Aa Aa Aa) Aa (Ap Aa) (Al CA Aa Aa Aa El F Aa 1 Aa).q fun a w F W => ?_
   refine AD F W (Aj F Aa Aa Aa Aa) Aa (Ap Aa) (As (v := Value.agg #[.int .i64 p1.2.1.1, .int .i64 p1.2.1.2.1.1, .int .i64 p1.2.1.2.1.2.1, .int .i64 p1.2.1.2.1.2.2.1, .int .i64 p1.2.1.2.1.2.2.2, .int .i64 p1.2.1.2.2.1, .int .i64 p1.2.1.2.2.2.1, .int .i64 p1.2.1.2.2.2.2.1, .int .i64 p1.2.1.2.2.2.2.2]) 0 F Aa Aa El Aa).q fun a w F W => ?_
   refine AD F W (Aj F Aa Aa Aa Aa) Aa (Ap Aa) (JS (t := decide (p0.2.1.1 = p1.2.1.1 ∧ p0.2.1.2.1.1 = p1.2.1.2.1.1 ∧ p0.2.1.2.1.2.1 = p1.2.1.2.1.2.1 ∧ p0.2.1.2.1.2.2.1 = p1.2.1.2.1.2.2.1 ∧ p0.2.1.2.1.2.2.2 = p1.2.1.2.1.2.2.2 ∧ p0.2.1.2.2.1 = p1.2.1.2.2.1 ∧ p0.2.1.2.2.2.1 = p1.2.1.2.2.2.1 ∧ p0.2.1.2.2.2.2.1 = p1.2.1.2.2.2.2.1 ∧ p0.2.1.2.2.2.2.2 = p1.2.1.2.2.2.2.2)) MI (MQ _ _ _ _ _ _ _ _ _ _ _ _ _ _ _ _ _ _) F Aa Aa).q fun a w F W => ?_
   refine ls F W Aa (Aw F Aa Aa Aa).q fun a w F W => ?_
   refine ls F W Aa (Af F Aa).q fun a w F W => ?_
   refine Ag (Ad ?_)
   exact ⟨F.re ⟨(by show some (Value.bool (decide (p0.2.1.1 = p1.2.1.1 ∧ p0.2.1.2.1.1 = p1.2.1.2.1.1 ∧ p0.2.1.2.1.2.1 = p1.2.1.2.1.2.1 ∧ p0.2.1.2.1.2.2.1 = p1.2.1.2.1.2.2.1 ∧ p0.2.1.2.1.2.2.2 = p1.2.1.2.1.2.2.2 ∧ p0.2.1.2.2.1 = p1.2.1.2.2.1 ∧ p0.2.1.2.2.2.1 = p1.2.1.2.2.2.1 ∧ p0.2.1.2.2.2.2.1 = p1.2.1.2.2.2.2.1 ∧ p0.2.1.2.2.2.2.2 = p1.2.1.2.2.2.2.2))) = some (Value.bool (decide (p0.1 = p1.1) && decide (p0.2.1.1 = p1.2.1.1 ∧ p0.2.1.2.1.1 = p1.2.1.2.1.1 ∧ p0.2.1.2.1.2.1 = p1.2.1.2.1.2.1 ∧ p0.2.1.2.1.2.2.1 = p1.2.1.2.1.2.2.1 ∧ p0.2.1.2.1.2.2.2 = p1.2.1.2.1.2.2.2 ∧ p0.2.1.2.2.1 = p1.2.1.2.2.1 ∧ p0.2.1.2.2.2.1 = p1.2.1.2.2.2.1 ∧ p0.2.1.2.2.2.2.1 = p1.2.1.2.2.2.2.1 ∧ p0.2.1.2.2.2.2.2 = p1.2.1.2.2.2.2.2))); try rw [hb0]; all_goals simp only [Bool.not_true, Bool.not_false, Bool.true_and, Bool.false_and, Bool.true_or, Bool.false_or, Bool.and_true, Bool.or_false, cond_true, cond_false]), trivial⟩, W⟩
  rw [hb0] at F
  iterate 5 refine Ci F Aa Aa Aa Aa Aa Aa Aa fun a F => ?_
  refine ls F W Aa (Ao F Aa Aa Aa).q fun a w F W => ?_
  refine ls F W Aa (Af F Aa).q fun a w F W => ?_
  refine Ag (Ad ?_)
  exact ⟨F.re ⟨(by show some (Value.bool false) = some (Value.bool (decide (p0.1 = p1.1) && decide (p0.2.1.1 = p1.2.1.1 ∧ p0.2.1.2.1.1 = p1.2.1.2.1.1 ∧ p0.2.1.2.1.2.1 = p1.2.1.2.1.2.1 ∧ p0.2.1.2.1.2.2.1 = p1.2.1.2.1.2.2.1 ∧ p0.2.1.2.1.2.2.2 = p1.2.1.2.1.2.2.2 ∧ p0.2.1.2.2.1 = p1.2.1.2.2.1 ∧ p0.2.1.2.2.2.1 = p1.2.1.2.2.2.1 ∧ p0.2.1.2.2.2.2.1 = p1.2.1.2.2.2.2.1 ∧ p0.2.1.2.2.2.2.2 = p1.2.1.2.2.2.2.2))); try rw [hb0]; all_goals simp only [Bool.not_true, Bool.not_false, Bool.true_and, Bool.false_and, Bool.true_or, Bool.false_or, Bool.and_true, Bool.or_false, cond_true, cond_false]), trivial⟩, W⟩
 rintro a w ⟨F, W⟩
 refine Ay ?_
 subst H
 refine AO (.inl Aa) F W Aa (Au F Aa) ?_
 exact ⟨rfl, W.done⟩
theorem Ou : Has Try.prog 32 := ⟨fun args w => An Try.func32 rfl (by decide) args w⟩
noncomputable def DT (p0 : List (Int × (Int × (Int × Int × Int × Int) × (Int × Int × Int × Int)) × (List (Int × Int × Int)))) (x1 : Int) : Int → Option (Int ⊕ (Unit ⊕ (Int ⊕ (Unit ⊕ Bool))))
  | x4 => (if x4 < x1 then ((ix p0 x4).bind fun x6 => (ix p0 x1).bind fun x7 => (if x6.1 < x7.1 then some true else (ix p0 x4).bind fun x8 => (ix p0 x1).bind fun x9 => some (GL x8 x9))).bind fun x5 => (if x5 = true then some (.inr (.inr (.inr (.inr false)))) else some (.inl (CG (x4 + 1)))) else some (.inr (.inl ())))
noncomputable def DU (p0 : List (Int × (Int × (Int × Int × Int × Int) × (Int × Int × Int × Int)) × (List (Int × Int × Int)))) (p1 : Int) : Int → Option (Int ⊕ (Unit ⊕ Bool))
  | x1 => (if x1 < (p0.length : Int) then FL ((ix p0 x1).bind fun x2 => (Ff x2 p1).bind fun x3 => (if (!x3) = true then some (.inr (.inr (.inr false))) else Bh (DT p0 x1) 0)) fun _ => some (.inl (CG (x1 + 1))) else some (.inr (.inl ())))
noncomputable def Fg (p0 : List (Int × (Int × (Int × Int × Int × Int) × (Int × Int × Int × Int)) × (List (Int × Int × Int)))) (p1 : Int) (p2 : Int) : Option Bool := FL (Bh (DU p0 p1) 0) fun _ => some (decide ((p0.length : Int) ≤ p2))
theorem I3 (Y : Nat → Prop) (w0 : World) (v1 : Value) (p0 : List (Int × (Int × (Int × Int × Int × Int) × (Int × Int × Int × Int)) × (List (Int × Int × Int)))) (p1 : Int) (p2 : Int) (r : Bool) (H : Fg p0 p1 p2 = some r) (h_v1 : Sl w0 (NX []) A6 v1 p0) :
    Calls Try.prog 11 #[v1, .int .i64 p1, .int .i64 p2] w0 fun e w' => e = .returned (.bool r) ∧ Below w0.heap.size w0 w' := by
 refine enter Try.func11 Aa Try.ntmps11 Aa fun a F => ?_
 have W := Stw.start Y w0
 obtain ⟨v2, h1, h_v1⟩ := h_v1.ex Bo
 unfold Fg at H
 refine Ak (Ae ?_)
 refine ls F W Aa (Af F Aa).q fun a w F W => ?_
 refine Ag (Ad ?_)
 obtain ⟨o1, G1, K1, L1⟩ := IA H
 refine AY (fun a w => some (Sum.inl ()) = some o1 ∧ Fr 53 [] [(0, v1), (2, .int .i64 p2), (6, .bool false)] a ∧ Stw ⟨Y, [], w0⟩ [] [] w) ?_ ?_
 ·
  have H := G1
  clear G1 K1
  refine Ak (Ae ?_)
  refine ls F W Aa (Af F Aa).q fun a w F W => ?_
  refine Ag (Ad (AB ?_))
  refine BU H (fun s a w => Fr 53 [] [(0, v1), (1, .int .i64 p1), (2, .int .i64 p2), (6, .bool false), (7, .int .i64 s)] a ∧ Stw ⟨Y, [], w0⟩ [] [] w) ⟨F.re ⟨rfl, Aa, Aa, Aa, Aa, trivial⟩, W⟩ fun s o a w H L2 hR => ?_
  obtain ⟨x1, rfl⟩ : ∃ x, x = s := ⟨s, rfl⟩
  obtain ⟨F, W⟩ := hR
  have F : Fr 53 [] [(0, v1), (1, .int .i64 p1), (2, .int .i64 p2), (6, .bool false), (7, .int .i64 x1)] a := F
  have W : Stw ⟨Y, [], w0⟩ [] [] w := W
  rw [DU] at H
  refine Ak (Ak (Ae ?_))
  iterate 2 refine ls F W Aa (Ah F Aa).q fun a w F W => ?_
  refine ls F W Aa (B4 (r := A6) (l := p0) Em Aa F Aa (A7 Bo h1 (Av h_v1))).q fun a w F W => ?_
  refine ls F W Aa (BS F Aa Aa).q fun a w F W => ?_
  refine Ag (Ad ?_)
  refine AA F Aa (fun hb => ?_) fun hb => ?_
  ·
   have H := AU (Bd hb) H
   rw [hb] at F
   clear hb
   refine Az (Ad ?_)
   obtain ⟨o3, G3, K3, L3⟩ := IA H
   refine AY (fun a w => some (Sum.inl ()) = some o3 ∧ Fr 53 [] [(0, v1), (1, .int .i64 p1), (2, .int .i64 p2), (6, .bool false), (7, .int .i64 x1)] a ∧ Stw ⟨Y, [], w0⟩ [] [] w) ?_ ?_
   ·
    have H := G3
    clear G3 K3
    refine AB (Ak (Ak (Ae ?_)))
    iterate 2 refine ls F W Aa (Ah F Aa).q fun a w F W => ?_
    obtain ⟨x2, h2, H⟩ := Aq H
    obtain ⟨v3, h3, h4⟩ := CO h1 h2
    have h5 : Cm v3 = [.int .i64 x2.1, .int .i64 x2.2.1.1, .int .i64 x2.2.1.2.1.1, .int .i64 x2.2.1.2.1.2.1, .int .i64 x2.2.1.2.1.2.2.1, .int .i64 x2.2.1.2.1.2.2.2, .int .i64 x2.2.1.2.2.1, .int .i64 x2.2.1.2.2.2.1, .int .i64 x2.2.1.2.2.2.2.1, .int .i64 x2.2.1.2.2.2.2.2, (v3.2.2.1)] := congrArg (fun q : Int × (Int × (Int × Int × Int × Int) × (Int × Int × Int × Int)) × (List (Int × Int × Int)) => ([.int .i64 q.1, .int .i64 q.2.1.1, .int .i64 q.2.1.2.1.1, .int .i64 q.2.1.2.1.2.1, .int .i64 q.2.1.2.1.2.2.1, .int .i64 q.2.1.2.1.2.2.2, .int .i64 q.2.1.2.2.1, .int .i64 q.2.1.2.2.2.1, .int .i64 q.2.1.2.2.2.2.1, .int .i64 q.2.1.2.2.2.2.2, (v3.2.2.1)] : List Value)) h4
    refine ls F W Aa (Bl (r := C1) Fa F Aa Aa (Av h_v1) h3).q fun a w F W => ?_
    refine ls F W Aa (Ba (y := Value.agg #[.int .i64 x2.1, .int .i64 x2.2.1.1, .int .i64 x2.2.1.2.1.1, .int .i64 x2.2.1.2.1.2.1, .int .i64 x2.2.1.2.1.2.2.1, .int .i64 x2.2.1.2.1.2.2.2, .int .i64 x2.2.1.2.2.1, .int .i64 x2.2.1.2.2.2.1, .int .i64 x2.2.1.2.2.2.2.1, .int .i64 x2.2.1.2.2.2.2.2, (v3.2.2.1)]) (j := 0) (i := x1) (enc := Cm) F Aa Aa (Av h_v1) h3 Es Da (by rw [h5]; rfl)).q fun a w F W => ?_
    refine ls F W Aa (Ah F Aa).q fun a w F W => ?_
    obtain ⟨x3, h6, H⟩ := Aq H
    refine ls F W Aa (A4 (v := Value.bool x3) F OK Aa (fun w W => Je any w ((v3.2.2.1)) x2 p1 _ h6 (((DN (Av h_v1) h3 (Bv.snd (Bv.snd Bv.here)) (congrArg (fun q : Int × (Int × (Int × Int × Int × Int) × (Int × Int × Int × Int)) × (List (Int × Int × Int)) => q.2.2) h4)) : Dc _ _ _ _ _ _) w W).nx)) fun a w F W => ?_
    refine ls F W Aa (F3 F Aa).q fun a w F W => ?_
    refine Ag (Ad ?_)
    refine AA F Aa (fun hb => ?_) fun hb => ?_
    ·
     have H := AU hb H
     rw [hb] at F
     clear hb
     refine Ak (Ae ?_)
     refine ls F W Aa (Af F Aa).q fun a w F W => ?_
     refine Ag (Ad (Ay (AC (AW ?_))))
     iterate 2 refine AC ?_
     refine AW (AC ?_)
     have H := L3 _ H
     have H := L2 _ H
     have H := L1 _ H
     have H := AZ H
     subst H
     refine AO (.inl Aa) F W Aa (Au F Aa) ?_
     exact ⟨rfl, W.done⟩
    have H := AV (by rw [hb]; decide) H
    rw [hb] at F
    clear hb
    refine Az (Ad (Ak (Ae ?_)))
    refine ls F W Aa (Af F Aa).q fun a w F W => ?_
    refine Ag (Ad (AB ?_))
    refine BU H (fun s a w => Fr 53 [] [(0, v1), (1, .int .i64 p1), (2, .int .i64 p2), (6, .bool false), (7, .int .i64 x1), (8, .int .i64 s)] a ∧ Stw ⟨Y, [], w0⟩ [] [] w) ⟨F.re ⟨rfl, Aa, Aa, Aa, Aa, Aa, trivial⟩, W⟩ fun s o a w H L4 hR => ?_
    obtain ⟨x4, rfl⟩ : ∃ x, x = s := ⟨s, rfl⟩
    obtain ⟨F, W⟩ := hR
    have F : Fr 53 [] [(0, v1), (1, .int .i64 p1), (2, .int .i64 p2), (6, .bool false), (7, .int .i64 x1), (8, .int .i64 x4)] a := F
    have W : Stw ⟨Y, [], w0⟩ [] [] w := W
    rw [DT] at H
    refine Ak (Ak (Ae ?_))
    iterate 2 refine ls F W Aa (Ah F Aa).q fun a w F W => ?_
    refine ls F W Aa (BS F Aa Aa).q fun a w F W => ?_
    refine Ag (Ad ?_)
    refine AA F Aa (fun hb => ?_) fun hb => ?_
    ·
     have H := AU (Bd hb) H
     rw [hb] at F
     clear hb
     refine Az (Ad (Ak (AB ?_)))
     obtain ⟨o5, G5, K5⟩ := Aq H
     refine AY (fun a w => ∃ x5 : Bool, some (x5) = some o5 ∧ Fr 53 [] [(0, v1), (1, .int .i64 p1), (2, .int .i64 p2), (6, .bool false), (7, .int .i64 x1), (8, .int .i64 x4), (48, .bool x5)] a ∧ Stw ⟨Y, [], w0⟩ [] [] w) ?_ ?_
     ·
      have H := G5
      clear G5 K5
      refine DA W MO (by kernel_rfl) ?_
      iterate 2 refine qs F Aa (Ah F Aa).q fun a F => ?_
      obtain ⟨x6, h7, H⟩ := Aq H
      obtain ⟨v4, h8, h9⟩ := CO h1 h7
      have h10 : Cm v4 = [.int .i64 x6.1, .int .i64 x6.2.1.1, .int .i64 x6.2.1.2.1.1, .int .i64 x6.2.1.2.1.2.1, .int .i64 x6.2.1.2.1.2.2.1, .int .i64 x6.2.1.2.1.2.2.2, .int .i64 x6.2.1.2.2.1, .int .i64 x6.2.1.2.2.2.1, .int .i64 x6.2.1.2.2.2.2.1, .int .i64 x6.2.1.2.2.2.2.2, (v4.2.2.1)] := congrArg (fun q : Int × (Int × (Int × Int × Int × Int) × (Int × Int × Int × Int)) × (List (Int × Int × Int)) => ([.int .i64 q.1, .int .i64 q.2.1.1, .int .i64 q.2.1.2.1.1, .int .i64 q.2.1.2.1.2.1, .int .i64 q.2.1.2.1.2.2.1, .int .i64 q.2.1.2.1.2.2.2, .int .i64 q.2.1.2.2.1, .int .i64 q.2.1.2.2.2.1, .int .i64 q.2.1.2.2.2.2.1, .int .i64 q.2.1.2.2.2.2.2, (v4.2.2.1)] : List Value)) h9
      refine qs F Aa (Bl (r := C1) Fa F Aa Aa (Av h_v1) h8).q fun a F => ?_
      refine qs F Aa (Al CA Aa Aa Aa T3 F Aa (EI v1 + (x4).toNat * 11) Aa).q fun a F => ?_
      refine qs F Aa (Ba (y := Value.int .i64 x6.1) (j := 0) (i := x4) (enc := Cm) F Aa Aa (Av h_v1) h8 Es T3 (by rw [h10]; rfl)).q fun a F => ?_
      iterate 2 refine qs F Aa (Ah F Aa).q fun a F => ?_
      obtain ⟨x7, h11, H⟩ := Aq H
      obtain ⟨v5, h12, h13⟩ := CO h1 h11
      have h14 : Cm v5 = [.int .i64 x7.1, .int .i64 x7.2.1.1, .int .i64 x7.2.1.2.1.1, .int .i64 x7.2.1.2.1.2.1, .int .i64 x7.2.1.2.1.2.2.1, .int .i64 x7.2.1.2.1.2.2.2, .int .i64 x7.2.1.2.2.1, .int .i64 x7.2.1.2.2.2.1, .int .i64 x7.2.1.2.2.2.2.1, .int .i64 x7.2.1.2.2.2.2.2, (v5.2.2.1)] := congrArg (fun q : Int × (Int × (Int × Int × Int × Int) × (Int × Int × Int × Int)) × (List (Int × Int × Int)) => ([.int .i64 q.1, .int .i64 q.2.1.1, .int .i64 q.2.1.2.1.1, .int .i64 q.2.1.2.1.2.1, .int .i64 q.2.1.2.1.2.2.1, .int .i64 q.2.1.2.1.2.2.2, .int .i64 q.2.1.2.2.1, .int .i64 q.2.1.2.2.2.1, .int .i64 q.2.1.2.2.2.2.1, .int .i64 q.2.1.2.2.2.2.2, (v5.2.2.1)] : List Value)) h13
      refine qs F Aa (Bl (r := C1) Fa F Aa Aa (Av h_v1) h12).q fun a F => ?_
      refine qs F Aa (Al CA Aa Aa Aa T3 F Aa (EI v1 + (x1).toNat * 11) Aa).q fun a F => ?_
      refine qs F Aa (Ba (y := Value.int .i64 x7.1) (j := 0) (i := x1) (enc := Cm) F Aa Aa (Av h_v1) h12 Es T3 (by rw [h14]; rfl)).q fun a F => ?_
      refine qs F Aa (BS F Aa Aa).q fun a F => ?_
      refine qs F Aa (Ah F Aa).q fun a F => ?_
      rcases Bool.eq_false_or_eq_true (decide (x6.1 < x7.1)) with hb | hb
      ·
       have H := AU (Bd hb) H
       rw [hb] at F
       clear hb
       iterate 9 refine Cq F (BX F Aa Aa Aa Aa Aa) Aa Aa fun a F => ?_
       refine qs F Aa (Aw F Aa Aa Aa).q fun a F => ?_
       refine Bm fun w W => ?_
       refine Ad ?_
       exact ⟨_, H, F.re ⟨rfl, Aa, Aa, Aa, Aa, Aa, Aa, trivial⟩, W⟩
      have H := AV (Be hb) H
      rw [hb] at F
      clear hb
      iterate 2 refine Ck F (Aj F Aa Aa Aa Aa) Aa (Ap Aa) (Ah F Aa).q fun a F => ?_
      obtain ⟨x8, h15, H⟩ := Aq H
      obtain ⟨v6, h16, h17⟩ := CO h1 h15
      have h18 : Cm v6 = [.int .i64 x8.1, .int .i64 x8.2.1.1, .int .i64 x8.2.1.2.1.1, .int .i64 x8.2.1.2.1.2.1, .int .i64 x8.2.1.2.1.2.2.1, .int .i64 x8.2.1.2.1.2.2.2, .int .i64 x8.2.1.2.2.1, .int .i64 x8.2.1.2.2.2.1, .int .i64 x8.2.1.2.2.2.2.1, .int .i64 x8.2.1.2.2.2.2.2, (v6.2.2.1)] := congrArg (fun q : Int × (Int × (Int × Int × Int × Int) × (Int × Int × Int × Int)) × (List (Int × Int × Int)) => ([.int .i64 q.1, .int .i64 q.2.1.1, .int .i64 q.2.1.2.1.1, .int .i64 q.2.1.2.1.2.1, .int .i64 q.2.1.2.1.2.2.1, .int .i64 q.2.1.2.1.2.2.2, .int .i64 q.2.1.2.2.1, .int .i64 q.2.1.2.2.2.1, .int .i64 q.2.1.2.2.2.2.1, .int .i64 q.2.1.2.2.2.2.2, (v6.2.2.1)] : List Value)) h17
      refine Ck F (Aj F Aa Aa Aa Aa) Aa (Ap Aa) (Bl (r := C1) Fa F Aa Aa (Av h_v1) h16).q fun a F => ?_
      refine Ck F (Aj F Aa Aa Aa Aa) Aa (Ap Aa) (Ba (y := Value.agg #[.int .i64 x8.1, .int .i64 x8.2.1.1, .int .i64 x8.2.1.2.1.1, .int .i64 x8.2.1.2.1.2.1, .int .i64 x8.2.1.2.1.2.2.1, .int .i64 x8.2.1.2.1.2.2.2, .int .i64 x8.2.1.2.2.1, .int .i64 x8.2.1.2.2.2.1, .int .i64 x8.2.1.2.2.2.2.1, .int .i64 x8.2.1.2.2.2.2.2, (v6.2.2.1)]) (j := 0) (i := x4) (enc := Cm) F Aa Aa (Av h_v1) h16 Es Da (by rw [h18]; rfl)).q fun a F => ?_
      iterate 2 refine Ck F (Aj F Aa Aa Aa Aa) Aa (Ap Aa) (Ah F Aa).q fun a F => ?_
      obtain ⟨x9, h19, H⟩ := Aq H
      obtain ⟨v7, h20, h21⟩ := CO h1 h19
      have h22 : Cm v7 = [.int .i64 x9.1, .int .i64 x9.2.1.1, .int .i64 x9.2.1.2.1.1, .int .i64 x9.2.1.2.1.2.1, .int .i64 x9.2.1.2.1.2.2.1, .int .i64 x9.2.1.2.1.2.2.2, .int .i64 x9.2.1.2.2.1, .int .i64 x9.2.1.2.2.2.1, .int .i64 x9.2.1.2.2.2.2.1, .int .i64 x9.2.1.2.2.2.2.2, (v7.2.2.1)] := congrArg (fun q : Int × (Int × (Int × Int × Int × Int) × (Int × Int × Int × Int)) × (List (Int × Int × Int)) => ([.int .i64 q.1, .int .i64 q.2.1.1, .int .i64 q.2.1.2.1.1, .int .i64 q.2.1.2.1.2.1, .int .i64 q.2.1.2.1.2.2.1, .int .i64 q.2.1.2.1.2.2.2, .int .i64 q.2.1.2.2.1, .int .i64 q.2.1.2.2.2.1, .int .i64 q.2.1.2.2.2.2.1, .int .i64 q.2.1.2.2.2.2.2, (v7.2.2.1)] : List Value)) h21
      refine Ck F (Aj F Aa Aa Aa Aa) Aa (Ap Aa) (Bl (r := C1) Fa F Aa Aa (Av h_v1) h20).q fun a F => ?_
      refine Ck F (Aj F Aa Aa Aa Aa) Aa (Ap Aa) (Ba (y := Value.agg #[.int .i64 x9.1, .int .i64 x9.2.1.1, .int .i64 x9.2.1.2.1.1, .int .i64 x9.2.1.2.1.2.1, .int .i64 x9.2.1.2.1.2.2.1, .int .i64 x9.2.1.2.1.2.2.2, .int .i64 x9.2.1.2.2.1, .int .i64 x9.2.1.2.2.2.1, .int .i64 x9.2.1.2.2.2.2.1, .int .i64 x9.2.1.2.2.2.2.2, (v7.2.2.1)]) (j := 0) (i := x1) (enc := Cm) F Aa Aa (Av h_v1) h20 Es Da (by rw [h22]; rfl)).q fun a F => ?_
      refine Ck F (Aj F Aa Aa Aa Aa) Aa (Ap Aa) (A4 (v := Value.bool (GL x8 x9)) F Ou Aa (fun w W => J7 any w ((v6.2.2.1)) ((v7.2.2.1)) x8 x9 _ Aa (((DN (Av h_v1) h16 (Bv.snd (Bv.snd Bv.here)) (congrArg (fun q : Int × (Int × (Int × Int × Int × Int) × (Int × Int × Int × Int)) × (List (Int × Int × Int)) => q.2.2) h17)) : Dc _ _ _ _ _ _) w W).nx (((DN (Av h_v1) h20 (Bv.snd (Bv.snd Bv.here)) (congrArg (fun q : Int × (Int × (Int × Int × Int × Int) × (Int × Int × Int × Int)) × (List (Int × Int × Int)) => q.2.2) h21)) : Dc _ _ _ _ _ _) w W).nx)) fun a F => ?_
      refine qs F Aa (Ao F Aa Aa Aa).q fun a F => ?_
      refine Bm fun w W => ?_
      refine Ad ?_
      exact ⟨_, H, F.re ⟨rfl, Aa, Aa, Aa, Aa, Aa, Aa, trivial⟩, W⟩
     rintro a w ⟨x5, hj, F, W⟩
     have hj := AZ hj
     subst hj
     have H := K5
     clear G5 K5
     refine AA F Aa (fun hb => ?_) fun hb => ?_
     ·
      have H := AU hb H
      rw [hb] at F
      clear hb
      refine Ak (Ae ?_)
      refine ls F W Aa (Af F Aa).q fun a w F W => ?_
      refine Ag (Ad (Ay (AW ?_)))
      iterate 2 refine AC ?_
      iterate 2 refine AW ?_
      iterate 2 refine AC ?_
      refine AW (AC ?_)
      have H := L4 _ H
      have H := L3 _ H
      have H := L2 _ H
      have H := L1 _ H
      have H := AZ H
      subst H
      refine AO (.inl Aa) F W Aa (Au F Aa) ?_
      exact ⟨rfl, W.done⟩
     have H := AV (by rw [hb]; decide) H
     rw [hb] at F
     clear hb
     refine Az (A5 (Ad (Ae ?_)))
     refine ls F W Aa (Ah F Aa).q fun a w F W => ?_
     refine ls F W Aa (Co F Aa Aa Aa).q fun a w F W => ?_
     refine ls F W Aa (Af F Aa).q fun a w F W => ?_
     refine Ag (Ad ?_)
     exact ⟨_, H, F.re ⟨rfl, Aa, Aa, Aa, Aa, Aa, trivial⟩, W⟩
    have H := AV (Be hb) H
    rw [hb] at F
    clear hb
    refine BV ?_
    iterate 2 refine Ce ?_
    refine BT (A5 (Ad ?_))
    have H := L4 _ H
    exact ⟨H, F.re ⟨rfl, Aa, Aa, Aa, Aa, trivial⟩, W⟩
   rintro a w ⟨hj, F, W⟩
   have H := K3 _ hj
   clear hj G3 K3 L3
   refine Ae ?_
   refine ls F W Aa (Ah F Aa).q fun a w F W => ?_
   refine ls F W Aa (Co F Aa Aa Aa).q fun a w F W => ?_
   refine ls F W Aa (Af F Aa).q fun a w F W => ?_
   refine Ag (Ad ?_)
   exact ⟨_, H, F.re ⟨rfl, Aa, Aa, Aa, Aa, trivial⟩, W⟩
  have H := AV (Be hb) H
  rw [hb] at F
  clear hb
  refine BV ?_
  iterate 2 refine Ce ?_
  refine BT (Ad ?_)
  have H := L2 _ H
  exact ⟨H, F.re ⟨rfl, Aa, Aa, trivial⟩, W⟩
 rintro a w ⟨hj, F, W⟩
 have H := K1 _ hj
 clear hj G1 K1 L1
 refine Ak (Ae ?_)
 refine ls F W Aa (Ah F Aa).q fun a w F W => ?_
 refine ls F W Aa (B4 (r := A6) (l := p0) Em Aa F Aa (A7 Bo h1 (Av h_v1))).q fun a w F W => ?_
 refine ls F W Aa (Ah F Aa).q fun a w F W => ?_
 refine ls F W Aa (Hg F Aa Aa).q fun a w F W => ?_
 refine ls F W Aa (Af F Aa).q fun a w F W => ?_
 refine Ag (Ad (Ay ?_))
 have H := AZ H
 subst H
 refine AO (.inl Aa) F W Aa (Au F Aa) ?_
 exact ⟨rfl, W.done⟩
theorem N9 : Has Try.prog 11 := ⟨fun args w => An Try.func11 rfl (by decide) args w⟩
theorem Ns (dd : Nat) (x0 : Int) (x1 : Int) (x2 : Int) (y0 : Int) (y1 : Int) (y2 : Int) (w : World) : (Op.equalIn (dd + 2) 61 (.agg #[.int .i64 x0, .int .i64 x1, .int .i64 x2]) (.agg #[.int .i64 y0, .int .i64 y1, .int .i64 y2])).run Try.prog w = .ok (decide (x0 = y0 ∧ x1 = y1 ∧ x2 = y2)) w :=
  In (d := dd + 1) (rs := [decide (x0 = y0), decide (x1 = y1), decide (x2 = y2)]) DI (by kernel_rfl) ⟨rfl, Hs (d := dd + 0) rfl rfl Mz T3 rfl rfl, rfl, Hs (d := dd + 0) rfl rfl Mz T3 rfl rfl, rfl, Hs (d := dd + 0) rfl rfl Mz T3 rfl rfl, trivial⟩ (by simp) w
theorem OA : Try.prog.eqGuardType Try.prog.depth 61 = false := by kernel_rfl
theorem Oe (x0 : Int) (x1 : Int) (x2 : Int) (y0 : Int) (y1 : Int) (y2 : Int) (w : World) : (Op.equalIn 10000 61 (.agg #[.int .i64 x0, .int .i64 x1, .int .i64 x2]) (.agg #[.int .i64 y0, .int .i64 y1, .int .i64 y2])).run Try.prog w = .ok (decide (x0 = y0 ∧ x1 = y1 ∧ x2 = y2)) w := Ns 9998 x0 x1 x2 y0 y1 y2 w
end Go.Proofs.Ytkjjioigbpkifaa
