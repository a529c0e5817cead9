/- The functions of layer 11, Eh. Conditions: none. -/
import Derived.Test.YtkjjioigbpkifaaaA4
namespace Go.Proofs.Ytkjjioigbpkifaa
open Go Go.RowKit
set_option linter.unusedVariables false
set_option linter.unusedSimpArgs false
set_option maxRecDepth 20000
theorem Nt : Has Try.prog 57 := ⟨fun args w => An Try.func57 rfl (by decide) args w⟩
noncomputable def EU (p0 : Int × (Int × Int × Int × Int) × (Int × Int × Int × Int)) (x1 : Int) : Int → Option (Int ⊕ (Unit ⊕ (Int ⊕ (Unit ⊕ Bool))))
  | x7 => (if x7 < 8 then (ix ([p0.2.1.1, p0.2.1.2.1, p0.2.1.2.2.1, p0.2.1.2.2.2] : List Int) x1).bind fun x8 => (ES x8 x7).bind fun x9 => (ix ([p0.2.2.1, p0.2.2.2.1, p0.2.2.2.2.1, p0.2.2.2.2.2] : List Int) x1).bind fun x10 => (ES x10 x7).bind fun x11 => (if x11 < x9 then some (.inr (.inr (.inr (.inr false)))) else some (.inl (CL (x7 + 1)))) else some (.inr (.inl ())))
noncomputable def ER (p0 : Int × (Int × Int × Int × Int) × (Int × Int × Int × Int)) : Int → Option (Int ⊕ (Unit ⊕ Bool))
  | x1 => (if x1 < 4 then Fw (((ix ([p0.2.2.1, p0.2.2.2.1, p0.2.2.2.2.1, p0.2.2.2.2.2] : List Int) x1).bind fun x3 => (if x3 < 0 then some true else (ix ([p0.2.2.1, p0.2.2.2.1, p0.2.2.2.2.1, p0.2.2.2.2.2] : List Int) x1).bind fun x4 => (if (A0 x1) < x4 then some true else (ix ([p0.2.1.1, p0.2.1.2.1, p0.2.1.2.2.1, p0.2.1.2.2.2] : List Int) x1).bind fun x5 => (if x5 < 0 then some true else (ix ([p0.2.1.1, p0.2.1.2.1, p0.2.1.2.2.1, p0.2.1.2.2.2] : List Int) x1).bind fun x6 => some (decide ((A0 x1) < x6)))))).bind fun x2 => (if x2 = true then some (.inr (.inr (.inr false))) else Bi (EU p0 x1) 0)) fun _ => some (.inl (CL (x1 + 1))) else some (.inr (.inl ())))
noncomputable def FF (p0 : Int × (Int × Int × Int × Int) × (Int × Int × Int × Int)) : Option Bool := (if (decide (p0.1 < (-1)) || decide (7 < p0.1)) = true then some false else Fw (Bi (ER p0) 0) fun _ => some true)
theorem JK (Y : Nat → Prop) (w0 : World)  (p0 : Int × (Int × Int × Int × Int) × (Int × Int × Int × Int)) (r : Bool) (H : FF p0 = some r)  :
    Calls Try.prog 50 #[.agg #[.int .i64 p0.1, .int .i64 p0.2.1.1, .int .i64 p0.2.1.2.1, .int .i64 p0.2.1.2.2.1, .int .i64 p0.2.1.2.2.2, .int .i64 p0.2.2.1, .int .i64 p0.2.2.2.1, .int .i64 p0.2.2.2.2.1, .int .i64 p0.2.2.2.2.2]] w0 fun e w' => e = .returned (.bool r) ∧ Below w0.heap.size w0 w' := by
 refine enter Try.func50 Aa Try.ntmps50 Aa fun a F => ?_
 have W := Stw.start Y w0
 unfold FF at H
 refine Ak (Ae ?_)
 refine BT (cs := [.int .i64 p0.1, .int .i64 p0.2.1.1, .int .i64 p0.2.1.2.1, .int .i64 p0.2.1.2.2.1, .int .i64 p0.2.1.2.2.2, .int .i64 p0.2.2.1, .int .i64 p0.2.2.2.1, .int .i64 p0.2.2.2.2.1, .int .i64 p0.2.2.2.2.2]) F W Aa Aa Aa fun b1 a w F W => ?_
 refine ls F W Aa (Ag F Aa).q fun a w F W => ?_
 refine Af (Ad (Ak ?_))
 refine AF (fun a w => Fr 64 [] [(1, .pointer (some ⟨b1, 0, none⟩)), (2, .bool false), (12, .bool (decide (p0.1 < (-1)) || decide (7 < p0.1)))] a ∧ Stw ⟨Y, [], w0⟩ [(b1, [.int .i64 p0.1, .int .i64 p0.2.1.1, .int .i64 p0.2.1.2.1, .int .i64 p0.2.1.2.2.1, .int .i64 p0.2.1.2.2.2, .int .i64 p0.2.2.1, .int .i64 p0.2.2.2.1, .int .i64 p0.2.2.2.2.1, .int .i64 p0.2.2.2.2.2])] [] w) ?_ ?_
 ·
  refine Ae ?_
  refine ls F W Aa (Al CD Aa Aa Aa T3 F Aa 0 Aa).q fun a w F W => ?_
  refine ls F W Aa (As (v := Value.int .i64 p0.1) 0 F Aa Aa T3 Aa).q fun a w F W => ?_
  refine ls F W Aa (BM F Aa Aa).q fun a w F W => ?_
  refine ls F W Aa (Ah F Aa).q fun a w F W => ?_
  rcases Bool.eq_false_or_eq_true (decide (p0.1 < (-1))) with hb0 | hb0
  ·
   rw [hb0] at F
   iterate 3 refine Cx F Aa Aa Aa Aa Aa Aa Aa fun a F => ?_
   refine ls F W Aa (Az F Aa Aa Aa).q fun a w F W => ?_
   refine Af (Ad ?_)
   exact ⟨F.re ⟨rfl, Aa, (by show some (Value.bool true) = some (Value.bool (decide (p0.1 < (-1)) || decide (7 < p0.1))); try rw [hb0]; all_goals simp only [Bool.not_true, Bool.not_false, Bool.true_and, Bool.false_and, Bool.true_or, Bool.false_or, Bool.and_true, Bool.or_false, cond_true, cond_false]), trivial⟩, W⟩
  rw [hb0] at F
  refine AK F W (Aj F Aa Aa Aa Aa) Aa (Ap Aa) (Al CD Aa Aa Aa T3 F Aa 0 Aa).q fun a w F W => ?_
  refine AK F W (Aj F Aa Aa Aa Aa) Aa (Ap Aa) (As (v := Value.int .i64 p0.1) 0 F Aa Aa T3 Aa).q fun a w F W => ?_
  refine AK F W (Aj F Aa Aa Aa Aa) Aa (Ap Aa) (Fy F Aa Aa).q fun a w F W => ?_
  refine ls F W Aa (Au F Aa Aa Aa).q fun a w F W => ?_
  refine Af (Ad ?_)
  exact ⟨F.re ⟨rfl, Aa, (by show some (Value.bool (decide (7 < p0.1))) = some (Value.bool (decide (p0.1 < (-1)) || decide (7 < p0.1))); try rw [hb0]; all_goals simp only [Bool.not_true, Bool.not_false, Bool.true_and, Bool.false_and, Bool.true_or, Bool.false_or, Bool.and_true, Bool.or_false, cond_true, cond_false]), trivial⟩, W⟩
 rintro a w ⟨F, W⟩
 refine AA F Aa (fun hb => ?_) fun hb => ?_
 ·
  have H := AM hb H
  rw [hb] at F
  clear hb
  refine Ak (Ae ?_)
  refine ls F W Aa (Ag F Aa).q fun a w F W => ?_
  refine Af (Ad (Aw (AD ?_)))
  have H := AG H
  subst H
  refine AE (.inl Aa) F W Aa (Av F Aa) ?_
  exact ⟨rfl, W.done⟩
 have H := AL (by rw [hb]; decide) H
 rw [hb] at F
 clear hb
 refine Ax (Ad ?_)
 obtain ⟨o1, G1, K1, L1⟩ := HR H
 refine AF (fun a w => some (Sum.inl ()) = some o1 ∧ Fr 64 [] [(2, .bool false)] a ∧ Stw ⟨Y, [], w0⟩ [(b1, [.int .i64 p0.1, .int .i64 p0.2.1.1, .int .i64 p0.2.1.2.1, .int .i64 p0.2.1.2.2.1, .int .i64 p0.2.1.2.2.2, .int .i64 p0.2.2.1, .int .i64 p0.2.2.2.1, .int .i64 p0.2.2.2.2.1, .int .i64 p0.2.2.2.2.2])] [] w) ?_ ?_
 ·
  have H := G1
  clear G1 K1
  refine Ak (Ae ?_)
  refine ls F W Aa (Ag F Aa).q fun a w F W => ?_
  refine Af (Ad (AC ?_))
  refine Bx H (fun s a w => Fr 64 [] [(1, .pointer (some ⟨b1, 0, none⟩)), (2, .bool false), (3, .int .i64 s)] a ∧ Stw ⟨Y, [], w0⟩ [(b1, [.int .i64 p0.1, .int .i64 p0.2.1.1, .int .i64 p0.2.1.2.1, .int .i64 p0.2.1.2.2.1, .int .i64 p0.2.1.2.2.2, .int .i64 p0.2.2.1, .int .i64 p0.2.2.2.1, .int .i64 p0.2.2.2.2.1, .int .i64 p0.2.2.2.2.2])] [] w) ⟨F.re ⟨rfl, Aa, Aa, trivial⟩, W⟩ fun s o a w H L2 hR => ?_
  obtain ⟨x1, rfl⟩ : ∃ x, x = s := ⟨s, rfl⟩
  obtain ⟨F, W⟩ := hR
  have F : Fr 64 [] [(1, .pointer (some ⟨b1, 0, none⟩)), (2, .bool false), (3, .int .i64 x1)] a := F
  have W : Stw ⟨Y, [], w0⟩ [(b1, [.int .i64 p0.1, .int .i64 p0.2.1.1, .int .i64 p0.2.1.2.1, .int .i64 p0.2.1.2.2.1, .int .i64 p0.2.1.2.2.2, .int .i64 p0.2.2.1, .int .i64 p0.2.2.2.1, .int .i64 p0.2.2.2.2.1, .int .i64 p0.2.2.2.2.2])] [] w := W
  rw [ER] at H
  refine Ak (Ak (Ae ?_))
  refine ls F W Aa (Ah F Aa).q fun a w F W => ?_
  refine ls F W Aa (BM F Aa Aa).q fun a w F W => ?_
  refine Af (Ad ?_)
  refine AA F Aa (fun hb => ?_) fun hb => ?_
  ·
   have H := AM (Ba hb) H
   rw [hb] at F
   clear hb
   refine Ax (Ad ?_)
   obtain ⟨o3, G3, K3, L3⟩ := HR H
   refine AF (fun a w => some (Sum.inl ()) = some o3 ∧ Fr 64 [] [(1, .pointer (some ⟨b1, 0, none⟩)), (2, .bool false), (3, .int .i64 x1)] a ∧ Stw ⟨Y, [], w0⟩ [(b1, [.int .i64 p0.1, .int .i64 p0.2.1.1, .int .i64 p0.2.1.2.1, .int .i64 p0.2.1.2.2.1, .int .i64 p0.2.1.2.2.2, .int .i64 p0.2.2.1, .int .i64 p0.2.2.2.1, .int .i64 p0.2.2.2.2.1, .int .i64 p0.2.2.2.2.2])] [] w) ?_ ?_
   ·
    have H := G3
    clear G3 K3
    refine AC (Ak ?_)
    obtain ⟨o4, G4, K4⟩ := Ao H
    refine AF (fun a w => ∃ x2 : Bool, some (x2) = some o4 ∧ Fr 64 [] [(1, .pointer (some ⟨b1, 0, none⟩)), (2, .bool false), (3, .int .i64 x1), (46, .bool x2)] a ∧ Stw ⟨Y, [], w0⟩ [(b1, [.int .i64 p0.1, .int .i64 p0.2.1.1, .int .i64 p0.2.1.2.1, .int .i64 p0.2.1.2.2.1, .int .i64 p0.2.1.2.2.2, .int .i64 p0.2.2.1, .int .i64 p0.2.2.2.1, .int .i64 p0.2.2.2.2.1, .int .i64 p0.2.2.2.2.2])] [] w) ?_ ?_
    ·
     have H := G4
     clear G4 K4
     refine Cq W MO (by kernel_rfl) ?_
     refine qs F Aa (Ah F Aa).q fun a F => ?_
     refine qs F Aa (Al CD Aa Aa Aa Hf F Aa 5 Aa).q fun a F => ?_
     obtain ⟨x3, h1, H⟩ := Ao H
     refine qs F Aa (Bn (5 + (x1).toNat * 1) EF F Aa Aa Aa h1 Aa).q fun a F => ?_
     refine qs F Aa (As (v := Value.int .i64 x3) 0 F Aa Aa T3 (Cd (base := 5) (m := 4) (l := [p0.2.2.1, p0.2.2.2.1, p0.2.2.2.2.1, p0.2.2.2.2.2]) (enc := Value.int .i64) Aa h1)).q fun a F => ?_
     refine qs F Aa (BM F Aa Aa).q fun a F => ?_
     refine qs F Aa (Ah F Aa).q fun a F => ?_
     rcases Bool.eq_false_or_eq_true (decide (x3 < 0)) with hb | hb
     ·
      have H := AM (Ba hb) H
      rw [hb] at F
      clear hb
      iterate 7 refine B5 F (BC F Aa Aa Aa Aa Aa) Aa Aa fun a F => ?_
      refine qs F Aa (Az F Aa Aa Aa).q fun a F => ?_
      refine qs F Aa (Ah F Aa).q fun a F => ?_
      iterate 5 refine B5 F (BC F Aa Aa Aa Aa Aa) Aa Aa fun a F => ?_
      refine qs F Aa (Az F Aa Aa Aa).q fun a F => ?_
      refine qs F Aa (Ah F Aa).q fun a F => ?_
      iterate 7 refine B5 F (BC F Aa Aa Aa Aa Aa) Aa Aa fun a F => ?_
      refine qs F Aa (Az F Aa Aa Aa).q fun a F => ?_
      refine AY fun w W => ?_
      refine Ad ?_
      exact ⟨_, H, F.re ⟨rfl, Aa, Aa, Aa, trivial⟩, W⟩
     have H := AL (A8 hb) H
     rw [hb] at F
     clear hb
     refine BB F (Aj F Aa Aa Aa Aa) Aa (Ap Aa) (Ah F Aa).q fun a F => ?_
     refine BB F (Aj F Aa Aa Aa Aa) Aa (Ap Aa) (Al CD Aa Aa Aa Hf F Aa 5 Aa).q fun a F => ?_
     obtain ⟨x4, h2, H⟩ := Ao H
     refine BB F (Aj F Aa Aa Aa Aa) Aa (Ap Aa) (Bn (5 + (x1).toNat * 1) EF F Aa Aa Aa h2 Aa).q fun a F => ?_
     refine BB F (Aj F Aa Aa Aa Aa) Aa (Ap Aa) (As (v := Value.int .i64 x4) 0 F Aa Aa T3 (Cd (base := 5) (m := 4) (l := [p0.2.2.1, p0.2.2.2.1, p0.2.2.2.2.1, p0.2.2.2.2.2]) (enc := Value.int .i64) Aa h2)).q fun a F => ?_
     refine BB F (Aj F Aa Aa Aa Aa) Aa (Ap Aa) (Ah F Aa).q fun a F => ?_
     refine BB F (Aj F Aa Aa Aa Aa) Aa (Ap Aa) (AQ (v := Value.int .i64 (A0 x1)) F Np Aa (fun w W => FO any w x1 _ Aa)) fun a F => ?_
     refine BB F (Aj F Aa Aa Aa Aa) Aa (Ap Aa) (Fy F Aa Aa).q fun a F => ?_
     refine qs F Aa (Au F Aa Aa Aa).q fun a F => ?_
     refine qs F Aa (Ah F Aa).q fun a F => ?_
     rcases Bool.eq_false_or_eq_true (decide ((A0 x1) < x4)) with hb | hb
     ·
      have H := AM (Ba hb) H
      rw [hb] at F
      clear hb
      iterate 5 refine B5 F (BC F Aa Aa Aa Aa Aa) Aa Aa fun a F => ?_
      refine qs F Aa (Az F Aa Aa Aa).q fun a F => ?_
      refine qs F Aa (Ah F Aa).q fun a F => ?_
      iterate 7 refine B5 F (BC F Aa Aa Aa Aa Aa) Aa Aa fun a F => ?_
      refine qs F Aa (Az F Aa Aa Aa).q fun a F => ?_
      refine AY fun w W => ?_
      refine Ad ?_
      exact ⟨_, H, F.re ⟨rfl, Aa, Aa, Aa, trivial⟩, W⟩
     have H := AL (A8 hb) H
     rw [hb] at F
     clear hb
     refine BB F (Aj F Aa Aa Aa Aa) Aa (Ap Aa) (Ah F Aa).q fun a F => ?_
     refine BB F (Aj F Aa Aa Aa Aa) Aa (Ap Aa) (Al CD Aa Aa Aa Hf F Aa 1 Aa).q fun a F => ?_
     obtain ⟨x5, h3, H⟩ := Ao H
     refine BB F (Aj F Aa Aa Aa Aa) Aa (Ap Aa) (Bn (1 + (x1).toNat * 1) EF F Aa Aa Aa h3 Aa).q fun a F => ?_
     refine BB F (Aj F Aa Aa Aa Aa) Aa (Ap Aa) (As (v := Value.int .i64 x5) 0 F Aa Aa T3 (Cd (base := 1) (m := 4) (l := [p0.2.1.1, p0.2.1.2.1, p0.2.1.2.2.1, p0.2.1.2.2.2]) (enc := Value.int .i64) Aa h3)).q fun a F => ?_
     refine BB F (Aj F Aa Aa Aa Aa) Aa (Ap Aa) (BM F Aa Aa).q fun a F => ?_
     refine qs F Aa (Au F Aa Aa Aa).q fun a F => ?_
     refine qs F Aa (Ah F Aa).q fun a F => ?_
     rcases Bool.eq_false_or_eq_true (decide (x5 < 0)) with hb | hb
     ·
      have H := AM (Ba hb) H
      rw [hb] at F
      clear hb
      iterate 7 refine B5 F (BC F Aa Aa Aa Aa Aa) Aa Aa fun a F => ?_
      refine qs F Aa (Az F Aa Aa Aa).q fun a F => ?_
      refine AY fun w W => ?_
      refine Ad ?_
      exact ⟨_, H, F.re ⟨rfl, Aa, Aa, Aa, trivial⟩, W⟩
     have H := AL (A8 hb) H
     rw [hb] at F
     clear hb
     refine BB F (Aj F Aa Aa Aa Aa) Aa (Ap Aa) (Ah F Aa).q fun a F => ?_
     refine BB F (Aj F Aa Aa Aa Aa) Aa (Ap Aa) (Al CD Aa Aa Aa Hf F Aa 1 Aa).q fun a F => ?_
     obtain ⟨x6, h4, H⟩ := Ao H
     refine BB F (Aj F Aa Aa Aa Aa) Aa (Ap Aa) (Bn (1 + (x1).toNat * 1) EF F Aa Aa Aa h4 Aa).q fun a F => ?_
     refine BB F (Aj F Aa Aa Aa Aa) Aa (Ap Aa) (As (v := Value.int .i64 x6) 0 F Aa Aa T3 (Cd (base := 1) (m := 4) (l := [p0.2.1.1, p0.2.1.2.1, p0.2.1.2.2.1, p0.2.1.2.2.2]) (enc := Value.int .i64) Aa h4)).q fun a F => ?_
     refine BB F (Aj F Aa Aa Aa Aa) Aa (Ap Aa) (Ah F Aa).q fun a F => ?_
     refine BB F (Aj F Aa Aa Aa Aa) Aa (Ap Aa) (AQ (v := Value.int .i64 (A0 x1)) F Np Aa (fun w W => FO any w x1 _ Aa)) fun a F => ?_
     refine BB F (Aj F Aa Aa Aa Aa) Aa (Ap Aa) (Fy F Aa Aa).q fun a F => ?_
     refine qs F Aa (Au F Aa Aa Aa).q fun a F => ?_
     refine AY fun w W => ?_
     refine Ad ?_
     exact ⟨_, H, F.re ⟨rfl, Aa, Aa, Aa, trivial⟩, W⟩
    rintro a w ⟨x2, hj, F, W⟩
    have hj := AG hj
    subst hj
    have H := K4
    clear G4 K4
    refine AA F Aa (fun hb => ?_) fun hb => ?_
    ·
     have H := AM hb H
     rw [hb] at F
     clear hb
     refine Ak (Ae ?_)
     refine ls F W Aa (Ag F Aa).q fun a w F W => ?_
     refine Af (Ad (Aw (AD (AJ ?_))))
     iterate 2 refine AD ?_
     refine AJ (AD ?_)
     have H := L3 _ H
     have H := L2 _ H
     have H := L1 _ H
     have H := AG H
     subst H
     refine AE (.inl Aa) F W Aa (Av F Aa) ?_
     exact ⟨rfl, W.done⟩
    have H := AL (by rw [hb]; decide) H
    rw [hb] at F
    clear hb
    refine Ax (Ad (Ak (Ae ?_)))
    refine ls F W Aa (Ag F Aa).q fun a w F W => ?_
    refine Af (Ad (AC ?_))
    refine Bx H (fun s a w => Fr 64 [] [(1, .pointer (some ⟨b1, 0, none⟩)), (2, .bool false), (3, .int .i64 x1), (4, .int .i64 s)] a ∧ Stw ⟨Y, [], w0⟩ [(b1, [.int .i64 p0.1, .int .i64 p0.2.1.1, .int .i64 p0.2.1.2.1, .int .i64 p0.2.1.2.2.1, .int .i64 p0.2.1.2.2.2, .int .i64 p0.2.2.1, .int .i64 p0.2.2.2.1, .int .i64 p0.2.2.2.2.1, .int .i64 p0.2.2.2.2.2])] [] w) ⟨F.re ⟨rfl, Aa, Aa, Aa, trivial⟩, W⟩ fun s o a w H L5 hR => ?_
    obtain ⟨x7, rfl⟩ : ∃ x, x = s := ⟨s, rfl⟩
    obtain ⟨F, W⟩ := hR
    have F : Fr 64 [] [(1, .pointer (some ⟨b1, 0, none⟩)), (2, .bool false), (3, .int .i64 x1), (4, .int .i64 x7)] a := F
    have W : Stw ⟨Y, [], w0⟩ [(b1, [.int .i64 p0.1, .int .i64 p0.2.1.1, .int .i64 p0.2.1.2.1, .int .i64 p0.2.1.2.2.1, .int .i64 p0.2.1.2.2.2, .int .i64 p0.2.2.1, .int .i64 p0.2.2.2.1, .int .i64 p0.2.2.2.2.1, .int .i64 p0.2.2.2.2.2])] [] w := W
    rw [EU] at H
    refine Ak (Ak (Ae ?_))
    refine ls F W Aa (Ah F Aa).q fun a w F W => ?_
    refine ls F W Aa (BM F Aa Aa).q fun a w F W => ?_
    refine Af (Ad ?_)
    refine AA F Aa (fun hb => ?_) fun hb => ?_
    ·
     have H := AM (Ba hb) H
     rw [hb] at F
     clear hb
     refine Ax (Ad (Ak (AC (Ak ?_))))
     refine Cq W MO (by kernel_rfl) ?_
     refine qs F Aa (Ah F Aa).q fun a F => ?_
     refine qs F Aa (Al CD Aa Aa Aa Hf F Aa 1 Aa).q fun a F => ?_
     obtain ⟨x8, h5, H⟩ := Ao H
     refine qs F Aa (Bn (1 + (x1).toNat * 1) EF F Aa Aa Aa h5 Aa).q fun a F => ?_
     refine qs F Aa (As (v := Value.int .i64 x8) 0 F Aa Aa T3 (Cd (base := 1) (m := 4) (l := [p0.2.1.1, p0.2.1.2.1, p0.2.1.2.2.1, p0.2.1.2.2.2]) (enc := Value.int .i64) Aa h5)).q fun a F => ?_
     refine qs F Aa (Ah F Aa).q fun a F => ?_
     obtain ⟨x9, h6, H⟩ := Ao H
     refine qs F Aa (AQ (v := Value.int .i64 x9) F Nt Aa (fun w W => FJ any w x8 x7 _ h6)) fun a F => ?_
     refine qs F Aa (Ah F Aa).q fun a F => ?_
     refine qs F Aa (Al CD Aa Aa Aa Hf F Aa 5 Aa).q fun a F => ?_
     obtain ⟨x10, h7, H⟩ := Ao H
     refine qs F Aa (Bn (5 + (x1).toNat * 1) EF F Aa Aa Aa h7 Aa).q fun a F => ?_
     refine qs F Aa (As (v := Value.int .i64 x10) 0 F Aa Aa T3 (Cd (base := 5) (m := 4) (l := [p0.2.2.1, p0.2.2.2.1, p0.2.2.2.2.1, p0.2.2.2.2.2]) (enc := Value.int .i64) Aa h7)).q fun a F => ?_
     refine qs F Aa (Ah F Aa).q fun a F => ?_
     obtain ⟨x11, h8, H⟩ := Ao H
     refine qs F Aa (AQ (v := Value.int .i64 x11) F Nt Aa (fun w W => FJ any w x10 x7 _ h8)) fun a F => ?_
     refine qs F Aa (Fy F Aa Aa).q fun a F => ?_
     refine AY fun w W => ?_
     refine Ad ?_
     refine AA F Aa (fun hb => ?_) fun hb => ?_
     ·
      have H := AM (Ba hb) H
      rw [hb] at F
      clear hb
      refine Ak (Ae ?_)
      refine ls F W Aa (Ag F Aa).q fun a w F W => ?_
      refine Af (Ad (Aw (AJ ?_)))
      iterate 2 refine AD ?_
      iterate 2 refine AJ ?_
      iterate 2 refine AD ?_
      refine AJ (AD ?_)
      have H := L5 _ H
      have H := L3 _ H
      have H := L2 _ H
      have H := L1 _ H
      have H := AG H
      subst H
      refine AE (.inl Aa) F W Aa (Av F Aa) ?_
      exact ⟨rfl, W.done⟩
     have H := AL (A8 hb) H
     rw [hb] at F
     clear hb
     refine Ax (AS (Ad (Ae ?_)))
     refine ls F W Aa (Ah F Aa).q fun a w F W => ?_
     refine ls F W Aa (Cf F Aa Aa Aa).q fun a w F W => ?_
     refine ls F W Aa (Ag F Aa).q fun a w F W => ?_
     refine Af (Ad ?_)
     exact ⟨_, H, F.re ⟨rfl, Aa, Aa, Aa, trivial⟩, W⟩
    have H := AL (A8 hb) H
    rw [hb] at F
    clear hb
    refine Bz ?_
    iterate 2 refine B1 ?_
    refine BA (AS (Ad ?_))
    have H := L5 _ H
    exact ⟨H, F.re ⟨rfl, Aa, Aa, trivial⟩, W⟩
   rintro a w ⟨hj, F, W⟩
   have H := K3 _ hj
   clear hj G3 K3 L3
   refine Ae ?_
   refine ls F W Aa (Ah F Aa).q fun a w F W => ?_
   refine ls F W Aa (Cf F Aa Aa Aa).q fun a w F W => ?_
   refine ls F W Aa (Ag F Aa).q fun a w F W => ?_
   refine Af (Ad ?_)
   exact ⟨_, H, F.re ⟨rfl, Aa, Aa, trivial⟩, W⟩
  have H := AL (A8 hb) H
  rw [hb] at F
  clear hb
  refine Bz ?_
  iterate 2 refine B1 ?_
  refine BA (Ad ?_)
  have H := L2 _ H
  exact ⟨H, F.re ⟨rfl, trivial⟩, W⟩
 rintro a w ⟨hj, F, W⟩
 have H := K1 _ hj
 clear hj G1 K1 L1
 refine Ak (Ae ?_)
 refine ls F W Aa (Ag F Aa).q fun a w F W => ?_
 refine Af (Ad (Aw ?_))
 have H := AG H
 subst H
 refine AE (.inl Aa) F W Aa (Av F Aa) ?_
 exact ⟨rfl, W.done⟩
theorem OL : Has Try.prog 50 := ⟨fun args w => An Try.func50 rfl (by decide) args w⟩
def Gw (p0 : Int × Int × Int) (p1 : Int) : Bool := (if p0.1 = 1 then (decide (0 ≤ p0.2.1) && (decide (p0.2.1 ≤ 3) && (decide (0 ≤ p0.2.2) && decide (p0.2.2 ≤ (A0 p0.2.1))))) else (if p0.1 = 3 then (decide (p0.2.1 = 0) && decide (p0.2.2 = 0)) else (decide (p0.1 = 2) && (decide (p0.2.1 = 0) && (decide (0 ≤ p0.2.2) && decide (p0.2.2 < p1))))))
theorem KH (Y : Nat → Prop) (w0 : World)  (p0 : Int × Int × Int) (p1 : Int) (r : Bool) (H : Gw p0 p1 = r)  :
    Calls Try.prog 72 #[.agg #[.int .i64 p0.1, .int .i64 p0.2.1, .int .i64 p0.2.2], .int .i64 p1] w0 fun e w' => e = .returned (.bool r) ∧ Below w0.heap.size w0 w' := by
 refine enter Try.func72 Aa Try.ntmps72 Aa fun a F => ?_
 have W := Stw.start Y w0
 unfold Gw at H
 refine Ak (Ae ?_)
 refine BT (cs := [.int .i64 p0.1, .int .i64 p0.2.1, .int .i64 p0.2.2]) F W Aa Aa Aa fun b1 a w F W => ?_
 refine ls F W Aa (Ag F Aa).q fun a w F W => ?_
 refine Af (Ad (Ak (Ak (Ae ?_))))
 refine ls F W Aa (Al Df Aa Aa Aa T3 F Aa 0 Aa).q fun a w F W => ?_
 refine ls F W Aa (As (v := Value.int .i64 p0.1) 0 F Aa Aa T3 Aa).q fun a w F W => ?_
 refine ls F W Aa (BL F Aa Aa).q fun a w F W => ?_
 refine Af (Ad ?_)
 refine AA F Aa (fun hb => ?_) fun hb => ?_
 ·
  have H := AM (Ba hb) H
  rw [hb] at F
  clear hb
  refine AF (fun a w => Fr 59 [] [(1, .int .i64 p1), (2, .pointer (some ⟨b1, 0, none⟩)), (4, .bool (decide (0 ≤ p0.2.1) && (decide (p0.2.1 ≤ 3) && (decide (0 ≤ p0.2.2) && decide (p0.2.2 ≤ (A0 p0.2.1))))))] a ∧ Stw ⟨Y, [], w0⟩ [(b1, [.int .i64 p0.1, .int .i64 p0.2.1, .int .i64 p0.2.2])] [] w) ?_ ?_
  ·
   refine Cq W MO (by kernel_rfl) ?_
   refine qs F Aa (Al Df Aa Aa Aa T3 F Aa 1 Aa).q fun a F => ?_
   refine qs F Aa (As (v := Value.int .i64 p0.2.1) 0 F Aa Aa T3 Aa).q fun a F => ?_
   refine qs F Aa (Ey F Aa Aa).q fun a F => ?_
   refine qs F Aa (Ah F Aa).q fun a F => ?_
   rcases Bool.eq_false_or_eq_true (decide (0 ≤ p0.2.1)) with hb0 | hb0
   ·
    rw [hb0] at F
    refine BB F (Aj F Aa Aa Aa Aa) Aa (Ap Aa) (Al Df Aa Aa Aa T3 F Aa 1 Aa).q fun a F => ?_
    refine BB F (Aj F Aa Aa Aa Aa) Aa (Ap Aa) (As (v := Value.int .i64 p0.2.1) 0 F Aa Aa T3 Aa).q fun a F => ?_
    refine BB F (Aj F Aa Aa Aa Aa) Aa (Ap Aa) (GY F Aa Aa).q fun a F => ?_
    refine qs F Aa (Az F Aa Aa Aa).q fun a F => ?_
    refine qs F Aa (Ah F Aa).q fun a F => ?_
    rcases Bool.eq_false_or_eq_true (decide (p0.2.1 ≤ 3)) with hb1 | hb1
    ·
     rw [hb1] at F
     refine BB F (Aj F Aa Aa Aa Aa) Aa (Ap Aa) (Al Df Aa Aa Aa T3 F Aa 2 Aa).q fun a F => ?_
     refine BB F (Aj F Aa Aa Aa Aa) Aa (Ap Aa) (As (v := Value.int .i64 p0.2.2) 0 F Aa Aa T3 Aa).q fun a F => ?_
     refine BB F (Aj F Aa Aa Aa Aa) Aa (Ap Aa) (Ey F Aa Aa).q fun a F => ?_
     refine qs F Aa (Az F Aa Aa Aa).q fun a F => ?_
     refine qs F Aa (Ah F Aa).q fun a F => ?_
     rcases Bool.eq_false_or_eq_true (decide (0 ≤ p0.2.2)) with hb2 | hb2
     ·
      rw [hb2] at F
      refine BB F (Aj F Aa Aa Aa Aa) Aa (Ap Aa) (Al Df Aa Aa Aa T3 F Aa 2 Aa).q fun a F => ?_
      refine BB F (Aj F Aa Aa Aa Aa) Aa (Ap Aa) (As (v := Value.int .i64 p0.2.2) 0 F Aa Aa T3 Aa).q fun a F => ?_
      refine BB F (Aj F Aa Aa Aa Aa) Aa (Ap Aa) (Al Df Aa Aa Aa T3 F Aa 1 Aa).q fun a F => ?_
      refine BB F (Aj F Aa Aa Aa Aa) Aa (Ap Aa) (As (v := Value.int .i64 p0.2.1) 0 F Aa Aa T3 Aa).q fun a F => ?_
      refine BB F (Aj F Aa Aa Aa Aa) Aa (Ap Aa) (AQ (v := Value.int .i64 (A0 p0.2.1)) F Np Aa (fun w W => FO any w p0.2.1 _ Aa)) fun a F => ?_
      refine BB F (Aj F Aa Aa Aa Aa) Aa (Ap Aa) (GY F Aa Aa).q fun a F => ?_
      refine qs F Aa (Az F Aa Aa Aa).q fun a F => ?_
      refine qs F Aa (Ag F Aa).q fun a F => ?_
      refine AY fun w W => ?_
      refine Ad ?_
      exact ⟨F.re ⟨rfl, Aa, (by show some (Value.bool (decide (p0.2.2 ≤ (A0 p0.2.1)))) = some (Value.bool (decide (0 ≤ p0.2.1) && (decide (p0.2.1 ≤ 3) && (decide (0 ≤ p0.2.2) && decide (p0.2.2 ≤ (A0 p0.2.1)))))); try rw [hb0]; try rw [hb1]; try rw [hb2]; all_goals simp only [Bool.not_true, Bool.not_false, Bool.true_and, Bool.false_and, Bool.true_or, Bool.false_or, Bool.and_true, Bool.or_false, cond_true, cond_false]), trivial⟩, W⟩
     rw [hb2] at F
     iterate 6 refine B5 F (BC F Aa Aa Aa Aa Aa) Aa Aa fun a F => ?_
     refine qs F Aa (Au F Aa Aa Aa).q fun a F => ?_
     refine qs F Aa (Ag F Aa).q fun a F => ?_
     refine AY fun w W => ?_
     refine Ad ?_
     exact ⟨F.re ⟨rfl, Aa, (by show some (Value.bool false) = some (Value.bool (decide (0 ≤ p0.2.1) && (decide (p0.2.1 ≤ 3) && (decide (0 ≤ p0.2.2) && decide (p0.2.2 ≤ (A0 p0.2.1)))))); try rw [hb0]; try rw [hb1]; try rw [hb2]; all_goals simp only [Bool.not_true, Bool.not_false, Bool.true_and, Bool.false_and, Bool.true_or, Bool.false_or, Bool.and_true, Bool.or_false, cond_true, cond_false]), trivial⟩, W⟩
    rw [hb1] at F
    iterate 3 refine B5 F (BC F Aa Aa Aa Aa Aa) Aa Aa fun a F => ?_
    refine qs F Aa (Au F Aa Aa Aa).q fun a F => ?_
    refine qs F Aa (Ah F Aa).q fun a F => ?_
    iterate 6 refine B5 F (BC F Aa Aa Aa Aa Aa) Aa Aa fun a F => ?_
    refine qs F Aa (Au F Aa Aa Aa).q fun a F => ?_
    refine qs F Aa (Ag F Aa).q fun a F => ?_
    refine AY fun w W => ?_
    refine Ad ?_
    exact ⟨F.re ⟨rfl, Aa, (by show some (Value.bool false) = some (Value.bool (decide (0 ≤ p0.2.1) && (decide (p0.2.1 ≤ 3) && (decide (0 ≤ p0.2.2) && decide (p0.2.2 ≤ (A0 p0.2.1)))))); try rw [hb0]; try rw [hb1]; all_goals simp only [Bool.not_true, Bool.not_false, Bool.true_and, Bool.false_and, Bool.true_or, Bool.false_or, Bool.and_true, Bool.or_false, cond_true, cond_false]), trivial⟩, W⟩
   rw [hb0] at F
   iterate 3 refine B5 F (BC F Aa Aa Aa Aa Aa) Aa Aa fun a F => ?_
   refine qs F Aa (Au F Aa Aa Aa).q fun a F => ?_
   refine qs F Aa (Ah F Aa).q fun a F => ?_
   iterate 3 refine B5 F (BC F Aa Aa Aa Aa Aa) Aa Aa fun a F => ?_
   refine qs F Aa (Au F Aa Aa Aa).q fun a F => ?_
   refine qs F Aa (Ah F Aa).q fun a F => ?_
   iterate 6 refine B5 F (BC F Aa Aa Aa Aa Aa) Aa Aa fun a F => ?_
   refine qs F Aa (Au F Aa Aa Aa).q fun a F => ?_
   refine qs F Aa (Ag F Aa).q fun a F => ?_
   refine AY fun w W => ?_
   refine Ad ?_
   exact ⟨F.re ⟨rfl, Aa, (by show some (Value.bool false) = some (Value.bool (decide (0 ≤ p0.2.1) && (decide (p0.2.1 ≤ 3) && (decide (0 ≤ p0.2.2) && decide (p0.2.2 ≤ (A0 p0.2.1)))))); try rw [hb0]; all_goals simp only [Bool.not_true, Bool.not_false, Bool.true_and, Bool.false_and, Bool.true_or, Bool.false_or, Bool.and_true, Bool.or_false, cond_true, cond_false]), trivial⟩, W⟩
  rintro a w ⟨F, W⟩
  refine Aw (AD ?_)
  subst H
  refine AE (.inl Aa) F W Aa (Av F Aa) ?_
  exact ⟨rfl, W.done⟩
 have H := AL (A8 hb) H
 rw [hb] at F
 clear hb
 refine Ax (Ad (Ak (Ak (Ae ?_))))
 refine ls F W Aa (Al Df Aa Aa Aa T3 F Aa 0 Aa).q fun a w F W => ?_
 refine ls F W Aa (As (v := Value.int .i64 p0.1) 0 F Aa Aa T3 Aa).q fun a w F W => ?_
 refine ls F W Aa (BL F Aa Aa).q fun a w F W => ?_
 refine Af (Ad ?_)
 refine AA F Aa (fun hb => ?_) fun hb => ?_
 ·
  have H := AM (Ba hb) H
  rw [hb] at F
  clear hb
  refine AF (fun a w => Fr 59 [] [(1, .int .i64 p1), (2, .pointer (some ⟨b1, 0, none⟩)), (4, .bool (decide (p0.2.1 = 0) && decide (p0.2.2 = 0)))] a ∧ Stw ⟨Y, [], w0⟩ [(b1, [.int .i64 p0.1, .int .i64 p0.2.1, .int .i64 p0.2.2])] [] w) ?_ ?_
  ·
   refine Ae ?_
   refine ls F W Aa (Al Df Aa Aa Aa T3 F Aa 1 Aa).q fun a w F W => ?_
   refine ls F W Aa (As (v := Value.int .i64 p0.2.1) 0 F Aa Aa T3 Aa).q fun a w F W => ?_
   refine ls F W Aa (BL F Aa Aa).q fun a w F W => ?_
   refine ls F W Aa (Ah F Aa).q fun a w F W => ?_
   rcases Bool.eq_false_or_eq_true (decide (p0.2.1 = 0)) with hb0 | hb0
   ·
    rw [hb0] at F
    refine AK F W (Aj F Aa Aa Aa Aa) Aa (Ap Aa) (Al Df Aa Aa Aa T3 F Aa 2 Aa).q fun a w F W => ?_
    refine AK F W (Aj F Aa Aa Aa Aa) Aa (Ap Aa) (As (v := Value.int .i64 p0.2.2) 0 F Aa Aa T3 Aa).q fun a w F W => ?_
    refine AK F W (Aj F Aa Aa Aa Aa) Aa (Ap Aa) (BL F Aa Aa).q fun a w F W => ?_
    refine ls F W Aa (Az F Aa Aa Aa).q fun a w F W => ?_
    refine ls F W Aa (Ag F Aa).q fun a w F W => ?_
    refine Af (Ad ?_)
    exact ⟨F.re ⟨rfl, Aa, (by show some (Value.bool (decide (p0.2.2 = 0))) = some (Value.bool (decide (p0.2.1 = 0) && decide (p0.2.2 = 0))); try rw [hb0]; all_goals simp only [Bool.not_true, Bool.not_false, Bool.true_and, Bool.false_and, Bool.true_or, Bool.false_or, Bool.and_true, Bool.or_false, cond_true, cond_false]), trivial⟩, W⟩
   rw [hb0] at F
   iterate 3 refine Cx F Aa Aa Aa Aa Aa Aa Aa fun a F => ?_
   refine ls F W Aa (Au F Aa Aa Aa).q fun a w F W => ?_
   refine ls F W Aa (Ag F Aa).q fun a w F W => ?_
   refine Af (Ad ?_)
   exact ⟨F.re ⟨rfl, Aa, (by show some (Value.bool false) = some (Value.bool (decide (p0.2.1 = 0) && decide (p0.2.2 = 0))); try rw [hb0]; all_goals simp only [Bool.not_true, Bool.not_false, Bool.true_and, Bool.false_and, Bool.true_or, Bool.false_or, Bool.and_true, Bool.or_false, cond_true, cond_false]), trivial⟩, W⟩
  rintro a w ⟨F, W⟩
  refine Aw (AD ?_)
  subst H
  refine AE (.inl Aa) F W Aa (Av F Aa) ?_
  exact ⟨rfl, W.done⟩
 have H := AL (A8 hb) H
 rw [hb] at F
 clear hb
 refine Ax (Ad ?_)
 refine AF (fun a w => Fr 59 [] [(4, .bool (decide (p0.1 = 2) && (decide (p0.2.1 = 0) && (decide (0 ≤ p0.2.2) && decide (p0.2.2 < p1)))))] a ∧ Stw ⟨Y, [], w0⟩ [(b1, [.int .i64 p0.1, .int .i64 p0.2.1, .int .i64 p0.2.2])] [] w) ?_ ?_
 ·
  refine Ae ?_
  refine ls F W Aa (Al Df Aa Aa Aa T3 F Aa 0 Aa).q fun a w F W => ?_
  refine ls F W Aa (As (v := Value.int .i64 p0.1) 0 F Aa Aa T3 Aa).q fun a w F W => ?_
  refine ls F W Aa (BL F Aa Aa).q fun a w F W => ?_
  refine ls F W Aa (Ah F Aa).q fun a w F W => ?_
  rcases Bool.eq_false_or_eq_true (decide (p0.1 = 2)) with hb0 | hb0
  ·
   rw [hb0] at F
   refine AK F W (Aj F Aa Aa Aa Aa) Aa (Ap Aa) (Al Df Aa Aa Aa T3 F Aa 1 Aa).q fun a w F W => ?_
   refine AK F W (Aj F Aa Aa Aa Aa) Aa (Ap Aa) (As (v := Value.int .i64 p0.2.1) 0 F Aa Aa T3 Aa).q fun a w F W => ?_
   refine AK F W (Aj F Aa Aa Aa Aa) Aa (Ap Aa) (BL F Aa Aa).q fun a w F W => ?_
   refine ls F W Aa (Az F Aa Aa Aa).q fun a w F W => ?_
   refine ls F W Aa (Ah F Aa).q fun a w F W => ?_
   rcases Bool.eq_false_or_eq_true (decide (p0.2.1 = 0)) with hb1 | hb1
   ·
    rw [hb1] at F
    refine AK F W (Aj F Aa Aa Aa Aa) Aa (Ap Aa) (Al Df Aa Aa Aa T3 F Aa 2 Aa).q fun a w F W => ?_
    refine AK F W (Aj F Aa Aa Aa Aa) Aa (Ap Aa) (As (v := Value.int .i64 p0.2.2) 0 F Aa Aa T3 Aa).q fun a w F W => ?_
    refine AK F W (Aj F Aa Aa Aa Aa) Aa (Ap Aa) (Ey F Aa Aa).q fun a w F W => ?_
    refine ls F W Aa (Az F Aa Aa Aa).q fun a w F W => ?_
    refine ls F W Aa (Ah F Aa).q fun a w F W => ?_
    rcases Bool.eq_false_or_eq_true (decide (0 ≤ p0.2.2)) with hb2 | hb2
    ·
     rw [hb2] at F
     refine AK F W (Aj F Aa Aa Aa Aa) Aa (Ap Aa) (Al Df Aa Aa Aa T3 F Aa 2 Aa).q fun a w F W => ?_
     refine AK F W (Aj F Aa Aa Aa Aa) Aa (Ap Aa) (As (v := Value.int .i64 p0.2.2) 0 F Aa Aa T3 Aa).q fun a w F W => ?_
     refine AK F W (Aj F Aa Aa Aa Aa) Aa (Ap Aa) (Ah F Aa).q fun a w F W => ?_
     refine AK F W (Aj F Aa Aa Aa Aa) Aa (Ap Aa) (BM F Aa Aa).q fun a w F W => ?_
     refine ls F W Aa (Az F Aa Aa Aa).q fun a w F W => ?_
     refine ls F W Aa (Ag F Aa).q fun a w F W => ?_
     refine Af (Ad ?_)
     exact ⟨F.re ⟨(by show some (Value.bool (decide (p0.2.2 < p1))) = some (Value.bool (decide (p0.1 = 2) && (decide (p0.2.1 = 0) && (decide (0 ≤ p0.2.2) && decide (p0.2.2 < p1))))); try rw [hb1]; try rw [hb2]; try rw [hb0]; all_goals simp only [Bool.not_true, Bool.not_false, Bool.true_and, Bool.false_and, Bool.true_or, Bool.false_or, Bool.and_true, Bool.or_false, cond_true, cond_false]), trivial⟩, W⟩
    rw [hb2] at F
    iterate 4 refine Cx F Aa Aa Aa Aa Aa Aa Aa fun a F => ?_
    refine ls F W Aa (Au F Aa Aa Aa).q fun a w F W => ?_
    refine ls F W Aa (Ag F Aa).q fun a w F W => ?_
    refine Af (Ad ?_)
    exact ⟨F.re ⟨(by show some (Value.bool false) = some (Value.bool (decide (p0.1 = 2) && (decide (p0.2.1 = 0) && (decide (0 ≤ p0.2.2) && decide (p0.2.2 < p1))))); try rw [hb1]; try rw [hb2]; try rw [hb0]; all_goals simp only [Bool.not_true, Bool.not_false, Bool.true_and, Bool.false_and, Bool.true_or, Bool.false_or, Bool.and_true, Bool.or_false, cond_true, cond_false]), trivial⟩, W⟩
   rw [hb1] at F
   iterate 3 refine Cx F Aa Aa Aa Aa Aa Aa Aa fun a F => ?_
   refine ls F W Aa (Au F Aa Aa Aa).q fun a w F W => ?_
   refine ls F W Aa (Ah F Aa).q fun a w F W => ?_
   iterate 4 refine Cx F Aa Aa Aa Aa Aa Aa Aa fun a F => ?_
   refine ls F W Aa (Au F Aa Aa Aa).q fun a w F W => ?_
   refine ls F W Aa (Ag F Aa).q fun a w F W => ?_
   refine Af (Ad ?_)
   exact ⟨F.re ⟨(by show some (Value.bool false) = some (Value.bool (decide (p0.1 = 2) && (decide (p0.2.1 = 0) && (decide (0 ≤ p0.2.2) && decide (p0.2.2 < p1))))); try rw [hb1]; try rw [hb0]; all_goals simp only [Bool.not_true, Bool.not_false, Bool.true_and, Bool.false_and, Bool.true_or, Bool.false_or, Bool.and_true, Bool.or_false, cond_true, cond_false]), trivial⟩, W⟩
  rw [hb0] at F
  iterate 3 refine Cx F Aa Aa Aa Aa Aa Aa Aa fun a F => ?_
  refine ls F W Aa (Au F Aa Aa Aa).q fun a w F W => ?_
  refine ls F W Aa (Ah F Aa).q fun a w F W => ?_
  iterate 3 refine Cx F Aa Aa Aa Aa Aa Aa Aa fun a F => ?_
  refine ls F W Aa (Au F Aa Aa Aa).q fun a w F W => ?_
  refine ls F W Aa (Ah F Aa).q fun a w F W => ?_
  iterate 4 refine Cx F Aa Aa Aa Aa Aa Aa Aa fun a F => ?_
  refine ls F W Aa (Au F Aa Aa Aa).q fun a w F W => ?_
  refine ls F W Aa (Ag F Aa).q fun a w F W => ?_
  refine Af (Ad ?_)
  exact ⟨F.re ⟨(by show some (Value.bool false) = some (Value.bool (decide (p0.1 = 2) && (decide (p0.2.1 = 0) && (decide (0 ≤ p0.2.2) && decide (p0.2.2 < p1))))); try rw [hb0]; all_goals simp only [Bool.not_true, Bool.not_false, Bool.true_and, Bool.false_and, Bool.true_or, Bool.false_or, Bool.and_true, Bool.or_false, cond_true, cond_false]), trivial⟩, W⟩
 rintro a w ⟨F, W⟩
 refine Aw ?_
 subst H
 refine AE (.inl Aa) F W Aa (Av F Aa) ?_
 exact ⟨rfl, W.done⟩
theorem OH : Has Try.prog 72 := ⟨fun args w => An Try.func72 rfl (by decide) args w⟩
noncomputable def EW (p0 : List (Int × Int × Int)) (p1 : Int) : Int → Option (Int ⊕ (Unit ⊕ Bool))
  | x1 => (if x1 < (p0.length : Int) then (ix p0 x1).bind fun x2 => (if (!(Gw x2 p1)) = true then some (.inr (.inr false)) else some (.inl (CL (x1 + 1)))) else some (.inr (.inl ())))
noncomputable def FQ (p0 : List (Int × Int × Int)) (p1 : Int) : Option Bool := Fw (Bi (EW p0 p1) 0) fun _ => some (decide ((p0.length : Int) ≤ 16))
theorem JI (Y : Nat → Prop) (w0 : World) (v1 : Value) (p0 : List (Int × Int × Int)) (p1 : Int) (r : Bool) (H : FQ p0 p1 = some r) (h_v1 : Sl w0 (NX []) Bw v1 p0) :
    Calls Try.prog 51 #[v1, .int .i64 p1] w0 fun e w' => e = .returned (.bool r) ∧ Below w0.heap.size w0 w' := by
 refine enter Try.func51 Aa Try.ntmps51 Aa fun a F => ?_
 have W := Stw.start Y w0
 unfold FQ at H
 refine Ak (Ae ?_)
 refine ls F W Aa (Ag F Aa).q fun a w F W => ?_
 refine Af (Ad ?_)
 obtain ⟨o1, G1, K1, L1⟩ := HR H
 refine AF (fun a w => some (Sum.inl ()) = some o1 ∧ Fr 22 [] [(0, v1), (4, .bool false)] a ∧ Stw ⟨Y, [], w0⟩ [] [] w) ?_ ?_
 ·
  have H := G1
  clear G1 K1
  refine Ak (Ae ?_)
  refine ls F W Aa (Ag F Aa).q fun a w F W => ?_
  refine Af (Ad (AC ?_))
  refine Bx H (fun s a w => Fr 22 [] [(0, v1), (1, .int .i64 p1), (4, .bool false), (5, .int .i64 s)] a ∧ Stw ⟨Y, [], w0⟩ [] [] w) ⟨F.re ⟨rfl, Aa, Aa, Aa, trivial⟩, W⟩ fun s o a w H L2 hR => ?_
  obtain ⟨x1, rfl⟩ : ∃ x, x = s := ⟨s, rfl⟩
  obtain ⟨F, W⟩ := hR
  have F : Fr 22 [] [(0, v1), (1, .int .i64 p1), (4, .bool false), (5, .int .i64 x1)] a := F
  have W : Stw ⟨Y, [], w0⟩ [] [] w := W
  rw [EW] at H
  refine Ak (Ak (Ae ?_))
  iterate 2 refine ls F W Aa (Ah F Aa).q fun a w F W => ?_
  refine ls F W Aa (B6 (r := Bw) (l := p0) HM Aa F Aa (Aq h_v1)).q fun a w F W => ?_
  refine ls F W Aa (BM F Aa Aa).q fun a w F W => ?_
  refine Af (Ad ?_)
  refine AA F Aa (fun hb => ?_) fun hb => ?_
  ·
   have H := AM (Ba hb) H
   rw [hb] at F
   clear hb
   refine Ax (Ad (Ak (AC (Ak (Ae ?_)))))
   iterate 2 refine ls F W Aa (Ah F Aa).q fun a w F W => ?_
   obtain ⟨x2, h1, H⟩ := Ao H
   refine ls F W Aa (A1 (r := Bw) J1 F Aa Aa (Aq h_v1) h1).q fun a w F W => ?_
   refine ls F W Aa (AR (y := Value.agg #[.int .i64 x2.1, .int .i64 x2.2.1, .int .i64 x2.2.2]) (j := 0) (i := x1) F Aa Aa (Aq h_v1) h1 Kp.to Mn Aa).q fun a w F W => ?_
   refine ls F W Aa (Ah F Aa).q fun a w F W => ?_
   refine ls F W Aa (AQ (v := Value.bool (Gw x2 p1)) F OH Aa (fun w W => KH any w x2 p1 _ Aa)) fun a w F W => ?_
   refine ls F W Aa (Fm F Aa).q fun a w F W => ?_
   refine Af (Ad ?_)
   refine AA F Aa (fun hb => ?_) fun hb => ?_
   ·
    have H := AM hb H
    rw [hb] at F
    clear hb
    refine Ak (Ae ?_)
    refine ls F W Aa (Ag F Aa).q fun a w F W => ?_
    refine Af (Ad (Aw (AJ ?_)))
    iterate 2 refine AD ?_
    refine AJ (AD ?_)
    have H := L2 _ H
    have H := L1 _ H
    have H := AG H
    subst H
    refine AE (.inl Aa) F W Aa (Av F Aa) ?_
    exact ⟨rfl, W.done⟩
   have H := AL (by rw [hb]; decide) H
   rw [hb] at F
   clear hb
   refine Ax (AS (Ad (Ae ?_)))
   refine ls F W Aa (Ah F Aa).q fun a w F W => ?_
   refine ls F W Aa (Cf F Aa Aa Aa).q fun a w F W => ?_
   refine ls F W Aa (Ag F Aa).q fun a w F W => ?_
   refine Af (Ad ?_)
   exact ⟨_, H, F.re ⟨rfl, Aa, Aa, Aa, trivial⟩, W⟩
  have H := AL (A8 hb) H
  rw [hb] at F
  clear hb
  refine Bz ?_
  iterate 2 refine B1 ?_
  refine BA (Ad ?_)
  have H := L2 _ H
  exact ⟨H, F.re ⟨rfl, Aa, trivial⟩, W⟩
 rintro a w ⟨hj, F, W⟩
 have H := K1 _ hj
 clear hj G1 K1 L1
 refine Ak (Ae ?_)
 refine ls F W Aa (Ah F Aa).q fun a w F W => ?_
 refine ls F W Aa (B6 (r := Bw) (l := p0) HM Aa F Aa (Aq h_v1)).q fun a w F W => ?_
 refine ls F W Aa (GY F Aa Aa).q fun a w F W => ?_
 refine ls F W Aa (Ag F Aa).q fun a w F W => ?_
 refine Af (Ad (Aw ?_))
 have H := AG H
 subst H
 refine AE (.inl Aa) F W Aa (Av F Aa) ?_
 exact ⟨rfl, W.done⟩
theorem OM : Has Try.prog 51 := ⟨fun args w => An Try.func51 rfl (by decide) args w⟩
noncomputable def FH (p0 : Int × (Int × (Int × Int × Int × Int) × (Int × Int × Int × Int)) × (List (Int × Int × Int))) (p1 : Int) : Option Bool := (if 0 ≤ p0.1 then (if p0.1 ≤ 65535 then (FF p0.2.1).bind fun x2 => (if x2 = true then (FQ p0.2.2 p1).bind fun x3 => some x3 else some false) else some false) else some false).bind fun x1 => some x1
theorem JH (Y : Nat → Prop) (w0 : World) (v1 : Value) (p0 : Int × (Int × (Int × Int × Int × Int) × (Int × Int × Int × Int)) × (List (Int × Int × Int))) (p1 : Int) (r : Bool) (H : FH p0 p1 = some r) (h_v1 : Sl w0 (NX []) Bw v1 p0.2.2) :
    Calls Try.prog 24 #[.agg #[.int .i64 p0.1, .int .i64 p0.2.1.1, .int .i64 p0.2.1.2.1.1, .int .i64 p0.2.1.2.1.2.1, .int .i64 p0.2.1.2.1.2.2.1, .int .i64 p0.2.1.2.1.2.2.2, .int .i64 p0.2.1.2.2.1, .int .i64 p0.2.1.2.2.2.1, .int .i64 p0.2.1.2.2.2.2.1, .int .i64 p0.2.1.2.2.2.2.2, v1], .int .i64 p1] w0 fun e w' => e = .returned (.bool r) ∧ Below w0.heap.size w0 w' := by
 refine enter Try.func24 Aa Try.ntmps24 Aa fun a F => ?_
 have W := Stw.start Y w0
 unfold FH at H
 refine Ak (Ae ?_)
 refine BT (cs := [.int .i64 p0.1, .int .i64 p0.2.1.1, .int .i64 p0.2.1.2.1.1, .int .i64 p0.2.1.2.1.2.1, .int .i64 p0.2.1.2.1.2.2.1, .int .i64 p0.2.1.2.1.2.2.2, .int .i64 p0.2.1.2.2.1, .int .i64 p0.2.1.2.2.2.1, .int .i64 p0.2.1.2.2.2.2.1, .int .i64 p0.2.1.2.2.2.2.2, v1]) F W Aa Aa Aa fun b1 a w F W => ?_
 refine ls F W Aa (Ag F Aa).q fun a w F W => ?_
 refine Af (Ad ?_)
 obtain ⟨o1, G1, K1⟩ := Ao H
 refine AF (fun a w => ∃ x1 : Bool, some (x1) = some o1 ∧ Fr 24 [] [(4, .bool x1)] a ∧ Stw ⟨Y, [], w0⟩ [(b1, [.int .i64 p0.1, .int .i64 p0.2.1.1, .int .i64 p0.2.1.2.1.1, .int .i64 p0.2.1.2.1.2.1, .int .i64 p0.2.1.2.1.2.2.1, .int .i64 p0.2.1.2.1.2.2.2, .int .i64 p0.2.1.2.2.1, .int .i64 p0.2.1.2.2.2.1, .int .i64 p0.2.1.2.2.2.2.1, .int .i64 p0.2.1.2.2.2.2.2, v1])] [] w) ?_ ?_
 ·
  have H := G1
  clear G1 K1
  refine Ae ?_
  refine ls F W Aa (Al Cw Aa Aa Aa T3 F Aa 0 Aa).q fun a w F W => ?_
  refine ls F W Aa (As (v := Value.int .i64 p0.1) 0 F Aa Aa T3 Aa).q fun a w F W => ?_
  refine ls F W Aa (Ey F Aa Aa).q fun a w F W => ?_
  refine ls F W Aa (Ah F Aa).q fun a w F W => ?_
  rcases Bool.eq_false_or_eq_true (decide (0 ≤ p0.1)) with hb | hb
  ·
   have H := AM (Ba hb) H
   rw [hb] at F
   clear hb
   refine AK F W (Aj F Aa Aa Aa Aa) Aa (Ap Aa) (Al Cw Aa Aa Aa T3 F Aa 0 Aa).q fun a w F W => ?_
   refine AK F W (Aj F Aa Aa Aa Aa) Aa (Ap Aa) (As (v := Value.int .i64 p0.1) 0 F Aa Aa T3 Aa).q fun a w F W => ?_
   refine AK F W (Aj F Aa Aa Aa Aa) Aa (Ap Aa) (GY F Aa Aa).q fun a w F W => ?_
   refine ls F W Aa (Az F Aa Aa Aa).q fun a w F W => ?_
   refine ls F W Aa (Ah F Aa).q fun a w F W => ?_
   rcases Bool.eq_false_or_eq_true (decide (p0.1 ≤ 65535)) with hb | hb
   ·
    have H := AM (Ba hb) H
    rw [hb] at F
    clear hb
    refine AK F W (Aj F Aa Aa Aa Aa) Aa (Ap Aa) (Al Cw Aa Aa Aa ED F Aa 1 Aa).q fun a w F W => ?_
    refine AK F W (Aj F Aa Aa Aa Aa) Aa (Ap Aa) (As (v := Value.agg #[.int .i64 p0.2.1.1, .int .i64 p0.2.1.2.1.1, .int .i64 p0.2.1.2.1.2.1, .int .i64 p0.2.1.2.1.2.2.1, .int .i64 p0.2.1.2.1.2.2.2, .int .i64 p0.2.1.2.2.1, .int .i64 p0.2.1.2.2.2.1, .int .i64 p0.2.1.2.2.2.2.1, .int .i64 p0.2.1.2.2.2.2.2]) 0 F Aa Aa ED Aa).q fun a w F W => ?_
    refine F8 (Aj F Aa Aa Aa Aa) ?_
    obtain ⟨x2, h1, H⟩ := Ao H
    refine ls F W Aa (AQ (v := Value.bool x2) F OL Aa (fun w W => JK any w p0.2.1 _ h1)) fun a w F W => ?_
    refine ls F W Aa (Az F Aa Aa Aa).q fun a w F W => ?_
    refine ls F W Aa (Ah F Aa).q fun a w F W => ?_
    rcases Bool.eq_false_or_eq_true x2 with hb | hb
    ·
     have H := AM hb H
     rw [hb] at F
     clear hb
     refine AK F W (Aj F Aa Aa Aa Aa) Aa (Ap Aa) (Al Cw Aa Aa Aa HN F Aa 10 Aa).q fun a w F W => ?_
     refine AK F W (Aj F Aa Aa Aa Aa) Aa (Ap Aa) (As (v := v1) 0 F Aa Aa HN Aa).q fun a w F W => ?_
     refine AK F W (Aj F Aa Aa Aa Aa) Aa (Ap Aa) (Ah F Aa).q fun a w F W => ?_
     refine F8 (Aj F Aa Aa Aa Aa) ?_
     obtain ⟨x3, h2, H⟩ := Ao H
     refine ls F W Aa (AQ (v := Value.bool x3) F OM Aa (fun w W => JI any w (v1) p0.2.2 p1 _ h2 (((Aq h_v1) : CB _ _ _ _ _ _) w W).nx)) fun a w F W => ?_
     refine ls F W Aa (Az F Aa Aa Aa).q fun a w F W => ?_
     refine ls F W Aa (Ag F Aa).q fun a w F W => ?_
     refine Af (Ad ?_)
     exact ⟨_, H, F.re ⟨rfl, trivial⟩, W⟩
    have H := AL (by rw [hb]; decide) H
    rw [hb] at F
    clear hb
    iterate 4 refine Cx F Aa Aa Aa Aa Aa Aa Aa fun a F => ?_
    refine ls F W Aa (Au F Aa Aa Aa).q fun a w F W => ?_
    refine ls F W Aa (Ag F Aa).q fun a w F W => ?_
    refine Af (Ad ?_)
    exact ⟨_, H, F.re ⟨rfl, trivial⟩, W⟩
   have H := AL (A8 hb) H
   rw [hb] at F
   clear hb
   iterate 3 refine Cx F Aa Aa Aa Aa Aa Aa Aa fun a F => ?_
   refine ls F W Aa (Au F Aa Aa Aa).q fun a w F W => ?_
   refine ls F W Aa (Ah F Aa).q fun a w F W => ?_
   iterate 4 refine Cx F Aa Aa Aa Aa Aa Aa Aa fun a F => ?_
   refine ls F W Aa (Au F Aa Aa Aa).q fun a w F W => ?_
   refine ls F W Aa (Ag F Aa).q fun a w F W => ?_
   refine Af (Ad ?_)
   exact ⟨_, H, F.re ⟨rfl, trivial⟩, W⟩
  have H := AL (A8 hb) H
  rw [hb] at F
  clear hb
  iterate 3 refine Cx F Aa Aa Aa Aa Aa Aa Aa fun a F => ?_
  refine ls F W Aa (Au F Aa Aa Aa).q fun a w F W => ?_
  refine ls F W Aa (Ah F Aa).q fun a w F W => ?_
  iterate 3 refine Cx F Aa Aa Aa Aa Aa Aa Aa fun a F => ?_
  refine ls F W Aa (Au F Aa Aa Aa).q fun a w F W => ?_
  refine ls F W Aa (Ah F Aa).q fun a w F W => ?_
  iterate 4 refine Cx F Aa Aa Aa Aa Aa Aa Aa fun a F => ?_
  refine ls F W Aa (Au F Aa Aa Aa).q fun a w F W => ?_
  refine ls F W Aa (Ag F Aa).q fun a w F W => ?_
  refine Af (Ad ?_)
  exact ⟨_, H, F.re ⟨rfl, trivial⟩, W⟩
 rintro a w ⟨x1, hj, F, W⟩
 have hj := AG hj
 subst hj
 have H := K1
 clear G1 K1
 refine Aw ?_
 have H := AG H
 subst H
 refine AE (.inl Aa) F W Aa (Av F Aa) ?_
 exact ⟨rfl, W.done⟩
theorem Pd : Has Try.prog 24 := ⟨fun args w => An Try.func24 rfl (by decide) args w⟩
def G8 (p0 : Int × (Int × (Int × Int × Int × Int) × (Int × Int × Int × Int)) × (List (Int × Int × Int))) (p1 : Int × (Int × (Int × Int × Int × Int) × (Int × Int × Int × Int)) × (List (Int × Int × Int))) : Bool := (decide (p0.1 = p1.1) && decide (p0.2.1.1 = p1.2.1.1 ∧ p0.2.1.2.1.1 = p1.2.1.2.1.1 ∧ p0.2.1.2.1.2.1 = p1.2.1.2.1.2.1 ∧ p0.2.1.2.1.2.2.1 = p1.2.1.2.1.2.2.1 ∧ p0.2.1.2.1.2.2.2 = p1.2.1.2.1.2.2.2 ∧ p0.2.1.2.2.1 = p1.2.1.2.2.1 ∧ p0.2.1.2.2.2.1 = p1.2.1.2.2.2.1 ∧ p0.2.1.2.2.2.2.1 = p1.2.1.2.2.2.2.1 ∧ p0.2.1.2.2.2.2.2 = p1.2.1.2.2.2.2.2))
theorem Ky (Y : Nat → Prop) (w0 : World) (v1 : Value) (v2 : Value) (p0 : Int × (Int × (Int × Int × Int × Int) × (Int × Int × Int × Int)) × (List (Int × Int × Int))) (p1 : Int × (Int × (Int × Int × Int × Int) × (Int × Int × Int × Int)) × (List (Int × Int × Int))) (r : Bool) (H : G8 p0 p1 = r) (h_v1 : Sl w0 (NX []) Bw v1 p0.2.2) (h_v2 : Sl w0 (NX []) Bw v2 p1.2.2) :
    Calls Try.prog 32 #[.agg #[.int .i64 p0.1, .int .i64 p0.2.1.1, .int .i64 p0.2.1.2.1.1, .int .i64 p0.2.1.2.1.2.1, .int .i64 p0.2.1.2.1.2.2.1, .int .i64 p0.2.1.2.1.2.2.2, .int .i64 p0.2.1.2.2.1, .int .i64 p0.2.1.2.2.2.1, .int .i64 p0.2.1.2.2.2.2.1, .int .i64 p0.2.1.2.2.2.2.2, v1], .agg #[.int .i64 p1.1, .int .i64 p1.2.1.1, .int .i64 p1.2.1.2.1.1, .int .i64 p1.2.1.2.1.2.1, .int .i64 p1.2.1.2.1.2.2.1, .int .i64 p1.2.1.2.1.2.2.2, .int .i64 p1.2.1.2.2.1, .int .i64 p1.2.1.2.2.2.1, .int .i64 p1.2.1.2.2.2.2.1, .int .i64 p1.2.1.2.2.2.2.2, v2]] w0 fun e w' => e = .returned (.bool r) ∧ Below w0.heap.size w0 w' := by
 refine enter Try.func32 Aa Try.ntmps32 Aa fun a F => ?_
 have W := Stw.start Y w0
 unfold G8 at H
 refine Ak (Ae ?_)
 refine BT (cs := [.int .i64 p0.1, .int .i64 p0.2.1.1, .int .i64 p0.2.1.2.1.1, .int .i64 p0.2.1.2.1.2.1, .int .i64 p0.2.1.2.1.2.2.1, .int .i64 p0.2.1.2.1.2.2.2, .int .i64 p0.2.1.2.2.1, .int .i64 p0.2.1.2.2.2.1, .int .i64 p0.2.1.2.2.2.2.1, .int .i64 p0.2.1.2.2.2.2.2, v1]) F W Aa Aa Aa fun b1 a w F W => ?_
 refine BT (cs := [.int .i64 p1.1, .int .i64 p1.2.1.1, .int .i64 p1.2.1.2.1.1, .int .i64 p1.2.1.2.1.2.1, .int .i64 p1.2.1.2.1.2.2.1, .int .i64 p1.2.1.2.1.2.2.2, .int .i64 p1.2.1.2.2.1, .int .i64 p1.2.1.2.2.2.1, .int .i64 p1.2.1.2.2.2.2.1, .int .i64 p1.2.1.2.2.2.2.2, v2]) F W Aa Aa Aa fun b2 a w F W => ?_
 refine ls F W Aa (Ag F Aa).q fun a w F W => ?_
 refine Af (Ad ?_)
 refine AF (fun a w => Fr 17 [] [(4, .bool (decide (p0.1 = p1.1) && decide (p0.2.1.1 = p1.2.1.1 ∧ p0.2.1.2.1.1 = p1.2.1.2.1.1 ∧ p0.2.1.2.1.2.1 = p1.2.1.2.1.2.1 ∧ p0.2.1.2.1.2.2.1 = p1.2.1.2.1.2.2.1 ∧ p0.2.1.2.1.2.2.2 = p1.2.1.2.1.2.2.2 ∧ p0.2.1.2.2.1 = p1.2.1.2.2.1 ∧ p0.2.1.2.2.2.1 = p1.2.1.2.2.2.1 ∧ p0.2.1.2.2.2.2.1 = p1.2.1.2.2.2.2.1 ∧ p0.2.1.2.2.2.2.2 = p1.2.1.2.2.2.2.2)))] a ∧ Stw ⟨Y, [], w0⟩ [(b2, [.int .i64 p1.1, .int .i64 p1.2.1.1, .int .i64 p1.2.1.2.1.1, .int .i64 p1.2.1.2.1.2.1, .int .i64 p1.2.1.2.1.2.2.1, .int .i64 p1.2.1.2.1.2.2.2, .int .i64 p1.2.1.2.2.1, .int .i64 p1.2.1.2.2.2.1, .int .i64 p1.2.1.2.2.2.2.1, .int .i64 p1.2.1.2.2.2.2.2, v2]), (b1, [.int .i64 p0.1, .int .i64 p0.2.1.1, .int .i64 p0.2.1.2.1.1, .int .i64 p0.2.1.2.1.2.1, .int .i64 p0.2.1.2.1.2.2.1, .int .i64 p0.2.1.2.1.2.2.2, .int .i64 p0.2.1.2.2.1, .int .i64 p0.2.1.2.2.2.1, .int .i64 p0.2.1.2.2.2.2.1, .int .i64 p0.2.1.2.2.2.2.2, v1])] [] w) ?_ ?_
 ·
  refine Ae ?_
  refine ls F W Aa (Al Cw Aa Aa Aa T3 F Aa 0 Aa).q fun a w F W => ?_
  refine ls F W Aa (As (v := Value.int .i64 p0.1) 1 F Aa Aa T3 Aa).q fun a w F W => ?_
  refine ls F W Aa (Al Cw Aa Aa Aa T3 F Aa 0 Aa).q fun a w F W => ?_
  refine ls F W Aa (As (v := Value.int .i64 p1.1) 0 F Aa Aa T3 Aa).q fun a w F W => ?_
  refine ls F W Aa (BL F Aa Aa).q fun a w F W => ?_
  refine ls F W Aa (Ah F Aa).q fun a w F W => ?_
  rcases Bool.eq_false_or_eq_true (decide (p0.1 = p1.1)) with hb0 | hb0
  ·
   rw [hb0] at F
   refine AK F W (Aj F Aa Aa Aa Aa) Aa (Ap Aa) (Al Cw Aa Aa Aa ED F Aa 1 Aa).q fun a w F W => ?_
   refine AK F W (Aj F Aa Aa Aa Aa) Aa (Ap Aa) (As (v := Value.agg #[.int .i64 p0.2.1.1, .int .i64 p0.2.1.2.1.1, .int .i64 p0.2.1.2.1.2.1, .int .i64 p0.2.1.2.1.2.2.1, .int .i64 p0.2.1.2.1.2.2.2, .int .i64 p0.2.1.2.2.1, .int .i64 p0.2.1.2.2.2.1, .int .i64 p0.2.1.2.2.2.2.1, .int .i64 p0.2.1.2.2.2.2.2]) 1 F Aa Aa ED Aa).q fun a w F W => ?_
   refine AK F W (Aj F Aa Aa Aa Aa) Aa (Ap Aa) (Al Cw Aa Aa Aa ED F Aa 1 Aa).q fun a w F W => ?_
   refine AK F W (Aj F Aa Aa Aa Aa) Aa (Ap Aa) (As (v := Value.agg #[.int .i64 p1.2.1.1, .int .i64 p1.2.1.2.1.1, .int .i64 p1.2.1.2.1.2.1, .int .i64 p1.2.1.2.1.2.2.1, .int .i64 p1.2.1.2.1.2.2.2, .int .i64 p1.2.1.2.2.1, .int .i64 p1.2.1.2.2.2.1, .int .i64 p1.2.1.2.2.2.2.1, .int .i64 p1.2.1.2.2.2.2.2]) 0 F Aa Aa ED Aa).q fun a w F W => ?_
   refine AK F W (Aj F Aa Aa Aa Aa) Aa (Ap Aa) (La (t := decide (p0.2.1.1 = p1.2.1.1 ∧ p0.2.1.2.1.1 = p1.2.1.2.1.1 ∧ p0.2.1.2.1.2.1 = p1.2.1.2.1.2.1 ∧ p0.2.1.2.1.2.2.1 = p1.2.1.2.1.2.2.1 ∧ p0.2.1.2.1.2.2.2 = p1.2.1.2.1.2.2.2 ∧ p0.2.1.2.2.1 = p1.2.1.2.2.1 ∧ p0.2.1.2.2.2.1 = p1.2.1.2.2.2.1 ∧ p0.2.1.2.2.2.2.1 = p1.2.1.2.2.2.2.1 ∧ p0.2.1.2.2.2.2.2 = p1.2.1.2.2.2.2.2)) NE (Nw _ _ _ _ _ _ _ _ _ _ _ _ _ _ _ _ _ _) F Aa Aa).q fun a w F W => ?_
   refine ls F W Aa (Az F Aa Aa Aa).q fun a w F W => ?_
   refine ls F W Aa (Ag F Aa).q fun a w F W => ?_
   refine Af (Ad ?_)
   exact ⟨F.re ⟨(by show some (Value.bool (decide (p0.2.1.1 = p1.2.1.1 ∧ p0.2.1.2.1.1 = p1.2.1.2.1.1 ∧ p0.2.1.2.1.2.1 = p1.2.1.2.1.2.1 ∧ p0.2.1.2.1.2.2.1 = p1.2.1.2.1.2.2.1 ∧ p0.2.1.2.1.2.2.2 = p1.2.1.2.1.2.2.2 ∧ p0.2.1.2.2.1 = p1.2.1.2.2.1 ∧ p0.2.1.2.2.2.1 = p1.2.1.2.2.2.1 ∧ p0.2.1.2.2.2.2.1 = p1.2.1.2.2.2.2.1 ∧ p0.2.1.2.2.2.2.2 = p1.2.1.2.2.2.2.2))) = some (Value.bool (decide (p0.1 = p1.1) && decide (p0.2.1.1 = p1.2.1.1 ∧ p0.2.1.2.1.1 = p1.2.1.2.1.1 ∧ p0.2.1.2.1.2.1 = p1.2.1.2.1.2.1 ∧ p0.2.1.2.1.2.2.1 = p1.2.1.2.1.2.2.1 ∧ p0.2.1.2.1.2.2.2 = p1.2.1.2.1.2.2.2 ∧ p0.2.1.2.2.1 = p1.2.1.2.2.1 ∧ p0.2.1.2.2.2.1 = p1.2.1.2.2.2.1 ∧ p0.2.1.2.2.2.2.1 = p1.2.1.2.2.2.2.1 ∧ p0.2.1.2.2.2.2.2 = p1.2.1.2.2.2.2.2))); try rw [hb0]; all_goals simp only [Bool.not_true, Bool.not_false, Bool.true_and, Bool.false_and, Bool.true_or, Bool.false_or, Bool.and_true, Bool.or_false, cond_true, cond_false]), trivial⟩, W⟩
  rw [hb0] at F
  iterate 5 refine Cx F Aa Aa Aa Aa Aa Aa Aa fun a F => ?_
  refine ls F W Aa (Au F Aa Aa Aa).q fun a w F W => ?_
  refine ls F W Aa (Ag F Aa).q fun a w F W => ?_
  refine Af (Ad ?_)
  exact ⟨F.re ⟨(by show some (Value.bool false) = some (Value.bool (decide (p0.1 = p1.1) && decide (p0.2.1.1 = p1.2.1.1 ∧ p0.2.1.2.1.1 = p1.2.1.2.1.1 ∧ p0.2.1.2.1.2.1 = p1.2.1.2.1.2.1 ∧ p0.2.1.2.1.2.2.1 = p1.2.1.2.1.2.2.1 ∧ p0.2.1.2.1.2.2.2 = p1.2.1.2.1.2.2.2 ∧ p0.2.1.2.2.1 = p1.2.1.2.2.1 ∧ p0.2.1.2.2.2.1 = p1.2.1.2.2.2.1 ∧ p0.2.1.2.2.2.2.1 = p1.2.1.2.2.2.2.1 ∧ p0.2.1.2.2.2.2.2 = p1.2.1.2.2.2.2.2))); try rw [hb0]; all_goals simp only [Bool.not_true, Bool.not_false, Bool.true_and, Bool.false_and, Bool.true_or, Bool.false_or, Bool.and_true, Bool.or_false, cond_true, cond_false]), trivial⟩, W⟩
 rintro a w ⟨F, W⟩
 refine Aw ?_
 subst H
 refine AE (.inl Aa) F W Aa (Av F Aa) ?_
 exact ⟨rfl, W.done⟩
theorem OY : Has Try.prog 32 := ⟨fun args w => An Try.func32 rfl (by decide) args w⟩
noncomputable def D8 (p0 : List (Int × (Int × (Int × Int × Int × Int) × (Int × Int × Int × Int)) × (List (Int × Int × Int)))) (x1 : Int) : Int → Option (Int ⊕ (Unit ⊕ (Int ⊕ (Unit ⊕ Bool))))
  | x4 => (if x4 < x1 then ((ix p0 x4).bind fun x6 => (ix p0 x1).bind fun x7 => (if x6.1 < x7.1 then some true else (ix p0 x4).bind fun x8 => (ix p0 x1).bind fun x9 => some (G8 x8 x9))).bind fun x5 => (if x5 = true then some (.inr (.inr (.inr (.inr false)))) else some (.inl (CL (x4 + 1)))) else some (.inr (.inl ())))
noncomputable def D0 (p0 : List (Int × (Int × (Int × Int × Int × Int) × (Int × Int × Int × Int)) × (List (Int × Int × Int)))) (p1 : Int) : Int → Option (Int ⊕ (Unit ⊕ Bool))
  | x1 => (if x1 < (p0.length : Int) then Fw ((ix p0 x1).bind fun x2 => (FH x2 p1).bind fun x3 => (if (!x3) = true then some (.inr (.inr (.inr false))) else Bi (D8 p0 x1) 0)) fun _ => some (.inl (CL (x1 + 1))) else some (.inr (.inl ())))
noncomputable def EZ (p0 : List (Int × (Int × (Int × Int × Int × Int) × (Int × Int × Int × Int)) × (List (Int × Int × Int)))) (p1 : Int) (p2 : Int) : Option Bool := Fw (Bi (D0 p0 p1) 0) fun _ => some (decide ((p0.length : Int) ≤ p2))
theorem Ho (Y : Nat → Prop) (w0 : World) (v1 : Value) (p0 : List (Int × (Int × (Int × Int × Int × Int) × (Int × Int × Int × Int)) × (List (Int × Int × Int)))) (p1 : Int) (p2 : Int) (r : Bool) (H : EZ p0 p1 p2 = some r) (h_v1 : Sl w0 (NX []) A2 v1 p0) :
    Calls Try.prog 11 #[v1, .int .i64 p1, .int .i64 p2] w0 fun e w' => e = .returned (.bool r) ∧ Below w0.heap.size w0 w' := by
 refine enter Try.func11 Aa Try.ntmps11 Aa fun a F => ?_
 have W := Stw.start Y w0
 obtain ⟨v2, h1, h_v1⟩ := h_v1.ex Bd
 unfold EZ at H
 refine Ak (Ae ?_)
 refine ls F W Aa (Ag F Aa).q fun a w F W => ?_
 refine Af (Ad ?_)
 obtain ⟨o1, G1, K1, L1⟩ := HR H
 refine AF (fun a w => some (Sum.inl ()) = some o1 ∧ Fr 53 [] [(0, v1), (2, .int .i64 p2), (6, .bool false)] a ∧ Stw ⟨Y, [], w0⟩ [] [] w) ?_ ?_
 ·
  have H := G1
  clear G1 K1
  refine Ak (Ae ?_)
  refine ls F W Aa (Ag F Aa).q fun a w F W => ?_
  refine Af (Ad (AC ?_))
  refine Bx H (fun s a w => Fr 53 [] [(0, v1), (1, .int .i64 p1), (2, .int .i64 p2), (6, .bool false), (7, .int .i64 s)] a ∧ Stw ⟨Y, [], w0⟩ [] [] w) ⟨F.re ⟨rfl, Aa, Aa, Aa, Aa, trivial⟩, W⟩ fun s o a w H L2 hR => ?_
  obtain ⟨x1, rfl⟩ : ∃ x, x = s := ⟨s, rfl⟩
  obtain ⟨F, W⟩ := hR
  have F : Fr 53 [] [(0, v1), (1, .int .i64 p1), (2, .int .i64 p2), (6, .bool false), (7, .int .i64 x1)] a := F
  have W : Stw ⟨Y, [], w0⟩ [] [] w := W
  rw [D0] at H
  refine Ak (Ak (Ae ?_))
  iterate 2 refine ls F W Aa (Ah F Aa).q fun a w F W => ?_
  refine ls F W Aa (B6 (r := A2) (l := p0) D1 Aa F Aa (AU Bd h1 (Aq h_v1))).q fun a w F W => ?_
  refine ls F W Aa (BM F Aa Aa).q fun a w F W => ?_
  refine Af (Ad ?_)
  refine AA F Aa (fun hb => ?_) fun hb => ?_
  ·
   have H := AM (Ba hb) H
   rw [hb] at F
   clear hb
   refine Ax (Ad ?_)
   obtain ⟨o3, G3, K3, L3⟩ := HR H
   refine AF (fun a w => some (Sum.inl ()) = some o3 ∧ Fr 53 [] [(0, v1), (1, .int .i64 p1), (2, .int .i64 p2), (6, .bool false), (7, .int .i64 x1)] a ∧ Stw ⟨Y, [], w0⟩ [] [] w) ?_ ?_
   ·
    have H := G3
    clear G3 K3
    refine AC (Ak (Ak (Ae ?_)))
    iterate 2 refine ls F W Aa (Ah F Aa).q fun a w F W => ?_
    obtain ⟨x2, h2, H⟩ := Ao H
    obtain ⟨v3, h3, h4⟩ := Cv h1 h2
    have h5 : Ce v3 = [.int .i64 x2.1, .int .i64 x2.2.1.1, .int .i64 x2.2.1.2.1.1, .int .i64 x2.2.1.2.1.2.1, .int .i64 x2.2.1.2.1.2.2.1, .int .i64 x2.2.1.2.1.2.2.2, .int .i64 x2.2.1.2.2.1, .int .i64 x2.2.1.2.2.2.1, .int .i64 x2.2.1.2.2.2.2.1, .int .i64 x2.2.1.2.2.2.2.2, (v3.2.2.1)] := congrArg (fun q : Int × (Int × (Int × Int × Int × Int) × (Int × Int × Int × Int)) × (List (Int × Int × Int)) => ([.int .i64 q.1, .int .i64 q.2.1.1, .int .i64 q.2.1.2.1.1, .int .i64 q.2.1.2.1.2.1, .int .i64 q.2.1.2.1.2.2.1, .int .i64 q.2.1.2.1.2.2.2, .int .i64 q.2.1.2.2.1, .int .i64 q.2.1.2.2.2.1, .int .i64 q.2.1.2.2.2.2.1, .int .i64 q.2.1.2.2.2.2.2, (v3.2.2.1)] : List Value)) h4
    refine ls F W Aa (A1 (r := CC) Fb F Aa Aa (Aq h_v1) h3).q fun a w F W => ?_
    refine ls F W Aa (AR (y := Value.agg #[.int .i64 x2.1, .int .i64 x2.2.1.1, .int .i64 x2.2.1.2.1.1, .int .i64 x2.2.1.2.1.2.1, .int .i64 x2.2.1.2.1.2.2.1, .int .i64 x2.2.1.2.1.2.2.2, .int .i64 x2.2.1.2.2.1, .int .i64 x2.2.1.2.2.2.1, .int .i64 x2.2.1.2.2.2.2.1, .int .i64 x2.2.1.2.2.2.2.2, (v3.2.2.1)]) (j := 0) (i := x1) (enc := Ce) F Aa Aa (Aq h_v1) h3 D9 CE (by rw [h5]; rfl)).q fun a w F W => ?_
    refine ls F W Aa (Ah F Aa).q fun a w F W => ?_
    obtain ⟨x3, h6, H⟩ := Ao H
    refine ls F W Aa (AQ (v := Value.bool x3) F Pd Aa (fun w W => JH any w ((v3.2.2.1)) x2 p1 _ h6 (((CH (Aq h_v1) h3 (Bh.snd (Bh.snd Bh.here)) (congrArg (fun q : Int × (Int × (Int × Int × Int × Int) × (Int × Int × Int × Int)) × (List (Int × Int × Int)) => q.2.2) h4)) : CB _ _ _ _ _ _) w W).nx)) fun a w F W => ?_
    refine ls F W Aa (Fm F Aa).q fun a w F W => ?_
    refine Af (Ad ?_)
    refine AA F Aa (fun hb => ?_) fun hb => ?_
    ·
     have H := AM hb H
     rw [hb] at F
     clear hb
     refine Ak (Ae ?_)
     refine ls F W Aa (Ag F Aa).q fun a w F W => ?_
     refine Af (Ad (Aw (AD (AJ ?_))))
     iterate 2 refine AD ?_
     refine AJ (AD ?_)
     have H := L3 _ H
     have H := L2 _ H
     have H := L1 _ H
     have H := AG H
     subst H
     refine AE (.inl Aa) F W Aa (Av F Aa) ?_
     exact ⟨rfl, W.done⟩
    have H := AL (by rw [hb]; decide) H
    rw [hb] at F
    clear hb
    refine Ax (Ad (Ak (Ae ?_)))
    refine ls F W Aa (Ag F Aa).q fun a w F W => ?_
    refine Af (Ad (AC ?_))
    refine Bx H (fun s a w => Fr 53 [] [(0, v1), (1, .int .i64 p1), (2, .int .i64 p2), (6, .bool false), (7, .int .i64 x1), (8, .int .i64 s)] a ∧ Stw ⟨Y, [], w0⟩ [] [] w) ⟨F.re ⟨rfl, Aa, Aa, Aa, Aa, Aa, trivial⟩, W⟩ fun s o a w H L4 hR => ?_
    obtain ⟨x4, rfl⟩ : ∃ x, x = s := ⟨s, rfl⟩
    obtain ⟨F, W⟩ := hR
    have F : Fr 53 [] [(0, v1), (1, .int .i64 p1), (2, .int .i64 p2), (6, .bool false), (7, .int .i64 x1), (8, .int .i64 x4)] a := F
    have W : Stw ⟨Y, [], w0⟩ [] [] w := W
    rw [D8] at H
    refine Ak (Ak (Ae ?_))
    iterate 2 refine ls F W Aa (Ah F Aa).q fun a w F W => ?_
    refine ls F W Aa (BM F Aa Aa).q fun a w F W => ?_
    refine Af (Ad ?_)
    refine AA F Aa (fun hb => ?_) fun hb => ?_
    ·
     have H := AM (Ba hb) H
     rw [hb] at F
     clear hb
     refine Ax (Ad (Ak (AC ?_)))
     obtain ⟨o5, G5, K5⟩ := Ao H
     refine AF (fun a w => ∃ x5 : Bool, some (x5) = some o5 ∧ Fr 53 [] [(0, v1), (1, .int .i64 p1), (2, .int .i64 p2), (6, .bool false), (7, .int .i64 x1), (8, .int .i64 x4), (48, .bool x5)] a ∧ Stw ⟨Y, [], w0⟩ [] [] w) ?_ ?_
     ·
      have H := G5
      clear G5 K5
      refine Cq W MO (by kernel_rfl) ?_
      iterate 2 refine qs F Aa (Ah F Aa).q fun a F => ?_
      obtain ⟨x6, h7, H⟩ := Ao H
      obtain ⟨v4, h8, h9⟩ := Cv h1 h7
      have h10 : Ce v4 = [.int .i64 x6.1, .int .i64 x6.2.1.1, .int .i64 x6.2.1.2.1.1, .int .i64 x6.2.1.2.1.2.1, .int .i64 x6.2.1.2.1.2.2.1, .int .i64 x6.2.1.2.1.2.2.2, .int .i64 x6.2.1.2.2.1, .int .i64 x6.2.1.2.2.2.1, .int .i64 x6.2.1.2.2.2.2.1, .int .i64 x6.2.1.2.2.2.2.2, (v4.2.2.1)] := congrArg (fun q : Int × (Int × (Int × Int × Int × Int) × (Int × Int × Int × Int)) × (List (Int × Int × Int)) => ([.int .i64 q.1, .int .i64 q.2.1.1, .int .i64 q.2.1.2.1.1, .int .i64 q.2.1.2.1.2.1, .int .i64 q.2.1.2.1.2.2.1, .int .i64 q.2.1.2.1.2.2.2, .int .i64 q.2.1.2.2.1, .int .i64 q.2.1.2.2.2.1, .int .i64 q.2.1.2.2.2.2.1, .int .i64 q.2.1.2.2.2.2.2, (v4.2.2.1)] : List Value)) h9
      refine qs F Aa (A1 (r := CC) Fb F Aa Aa (Aq h_v1) h8).q fun a F => ?_
      refine qs F Aa (Al Cw Aa Aa Aa T3 F Aa (DW v1 + (x4).toNat * 11) Aa).q fun a F => ?_
      refine qs F Aa (AR (y := Value.int .i64 x6.1) (j := 0) (i := x4) (enc := Ce) F Aa Aa (Aq h_v1) h8 D9 T3 (by rw [h10]; rfl)).q fun a F => ?_
      iterate 2 refine qs F Aa (Ah F Aa).q fun a F => ?_
      obtain ⟨x7, h11, H⟩ := Ao H
      obtain ⟨v5, h12, h13⟩ := Cv h1 h11
      have h14 : Ce v5 = [.int .i64 x7.1, .int .i64 x7.2.1.1, .int .i64 x7.2.1.2.1.1, .int .i64 x7.2.1.2.1.2.1, .int .i64 x7.2.1.2.1.2.2.1, .int .i64 x7.2.1.2.1.2.2.2, .int .i64 x7.2.1.2.2.1, .int .i64 x7.2.1.2.2.2.1, .int .i64 x7.2.1.2.2.2.2.1, .int .i64 x7.2.1.2.2.2.2.2, (v5.2.2.1)] := congrArg (fun q : Int × (Int × (Int × Int × Int × Int) × (Int × Int × Int × Int)) × (List (Int × Int × Int)) => ([.int .i64 q.1, .int .i64 q.2.1.1, .int .i64 q.2.1.2.1.1, .int .i64 q.2.1.2.1.2.1, .int .i64 q.2.1.2.1.2.2.1, .int .i64 q.2.1.2.1.2.2.2, .int .i64 q.2.1.2.2.1, .int .i64 q.2.1.2.2.2.1, .int .i64 q.2.1.2.2.2.2.1, .int .i64 q.2.1.2.2.2.2.2, (v5.2.2.1)] : List Value)) h13
      refine qs F Aa (A1 (r := CC) Fb F Aa Aa (Aq h_v1) h12).q fun a F => ?_
      refine qs F Aa (Al Cw Aa Aa Aa T3 F Aa (DW v1 + (x1).toNat * 11) Aa).q fun a F => ?_
      refine qs F Aa (AR (y := Value.int .i64 x7.1) (j := 0) (i := x1) (enc := Ce) F Aa Aa (Aq h_v1) h12 D9 T3 (by rw [h14]; rfl)).q fun a F => ?_
      refine qs F Aa (BM F Aa Aa).q fun a F => ?_
      refine qs F Aa (Ah F Aa).q fun a F => ?_
      rcases Bool.eq_false_or_eq_true (decide (x6.1 < x7.1)) with hb | hb
      ·
       have H := AM (Ba hb) H
       rw [hb] at F
       clear hb
       iterate 9 refine B5 F (BC F Aa Aa Aa Aa Aa) Aa Aa fun a F => ?_
       refine qs F Aa (Az F Aa Aa Aa).q fun a F => ?_
       refine AY fun w W => ?_
       refine Ad ?_
       exact ⟨_, H, F.re ⟨rfl, Aa, Aa, Aa, Aa, Aa, Aa, trivial⟩, W⟩
      have H := AL (A8 hb) H
      rw [hb] at F
      clear hb
      iterate 2 refine BB F (Aj F Aa Aa Aa Aa) Aa (Ap Aa) (Ah F Aa).q fun a F => ?_
      obtain ⟨x8, h15, H⟩ := Ao H
      obtain ⟨v6, h16, h17⟩ := Cv h1 h15
      have h18 : Ce v6 = [.int .i64 x8.1, .int .i64 x8.2.1.1, .int .i64 x8.2.1.2.1.1, .int .i64 x8.2.1.2.1.2.1, .int .i64 x8.2.1.2.1.2.2.1, .int .i64 x8.2.1.2.1.2.2.2, .int .i64 x8.2.1.2.2.1, .int .i64 x8.2.1.2.2.2.1, .int .i64 x8.2.1.2.2.2.2.1, .int .i64 x8.2.1.2.2.2.2.2, (v6.2.2.1)] := congrArg (fun q : Int × (Int × (Int × Int × Int × Int) × (Int × Int × Int × Int)) × (List (Int × Int × Int)) => ([.int .i64 q.1, .int .i64 q.2.1.1, .int .i64 q.2.1.2.1.1, .int .i64 q.2.1.2.1.2.1, .int .i64 q.2.1.2.1.2.2.1, .int .i64 q.2.1.2.1.2.2.2, .int .i64 q.2.1.2.2.1, .int .i64 q.2.1.2.2.2.1, .int .i64 q.2.1.2.2.2.2.1, .int .i64 q.2.1.2.2.2.2.2, (v6.2.2.1)] : List Value)) h17
      refine BB F (Aj F Aa Aa Aa Aa) Aa (Ap Aa) (A1 (r := CC) Fb F Aa Aa (Aq h_v1) h16).q fun a F => ?_
      refine BB F (Aj F Aa Aa Aa Aa) Aa (Ap Aa) (AR (y := Value.agg #[.int .i64 x8.1, .int .i64 x8.2.1.1, .int .i64 x8.2.1.2.1.1, .int .i64 x8.2.1.2.1.2.1, .int .i64 x8.2.1.2.1.2.2.1, .int .i64 x8.2.1.2.1.2.2.2, .int .i64 x8.2.1.2.2.1, .int .i64 x8.2.1.2.2.2.1, .int .i64 x8.2.1.2.2.2.2.1, .int .i64 x8.2.1.2.2.2.2.2, (v6.2.2.1)]) (j := 0) (i := x4) (enc := Ce) F Aa Aa (Aq h_v1) h16 D9 CE (by rw [h18]; rfl)).q fun a F => ?_
      iterate 2 refine BB F (Aj F Aa Aa Aa Aa) Aa (Ap Aa) (Ah F Aa).q fun a F => ?_
      obtain ⟨x9, h19, H⟩ := Ao H
      obtain ⟨v7, h20, h21⟩ := Cv h1 h19
      have h22 : Ce v7 = [.int .i64 x9.1, .int .i64 x9.2.1.1, .int .i64 x9.2.1.2.1.1, .int .i64 x9.2.1.2.1.2.1, .int .i64 x9.2.1.2.1.2.2.1, .int .i64 x9.2.1.2.1.2.2.2, .int .i64 x9.2.1.2.2.1, .int .i64 x9.2.1.2.2.2.1, .int .i64 x9.2.1.2.2.2.2.1, .int .i64 x9.2.1.2.2.2.2.2, (v7.2.2.1)] := congrArg (fun q : Int × (Int × (Int × Int × Int × Int) × (Int × Int × Int × Int)) × (List (Int × Int × Int)) => ([.int .i64 q.1, .int .i64 q.2.1.1, .int .i64 q.2.1.2.1.1, .int .i64 q.2.1.2.1.2.1, .int .i64 q.2.1.2.1.2.2.1, .int .i64 q.2.1.2.1.2.2.2, .int .i64 q.2.1.2.2.1, .int .i64 q.2.1.2.2.2.1, .int .i64 q.2.1.2.2.2.2.1, .int .i64 q.2.1.2.2.2.2.2, (v7.2.2.1)] : List Value)) h21
      refine BB F (Aj F Aa Aa Aa Aa) Aa (Ap Aa) (A1 (r := CC) Fb F Aa Aa (Aq h_v1) h20).q fun a F => ?_
      refine BB F (Aj F Aa Aa Aa Aa) Aa (Ap Aa) (AR (y := Value.agg #[.int .i64 x9.1, .int .i64 x9.2.1.1, .int .i64 x9.2.1.2.1.1, .int .i64 x9.2.1.2.1.2.1, .int .i64 x9.2.1.2.1.2.2.1, .int .i64 x9.2.1.2.1.2.2.2, .int .i64 x9.2.1.2.2.1, .int .i64 x9.2.1.2.2.2.1, .int .i64 x9.2.1.2.2.2.2.1, .int .i64 x9.2.1.2.2.2.2.2, (v7.2.2.1)]) (j := 0) (i := x1) (enc := Ce) F Aa Aa (Aq h_v1) h20 D9 CE (by rw [h22]; rfl)).q fun a F => ?_
      refine BB F (Aj F Aa Aa Aa Aa) Aa (Ap Aa) (AQ (v := Value.bool (G8 x8 x9)) F OY Aa (fun w W => Ky any w ((v6.2.2.1)) ((v7.2.2.1)) x8 x9 _ Aa (((CH (Aq h_v1) h16 (Bh.snd (Bh.snd Bh.here)) (congrArg (fun q : Int × (Int × (Int × Int × Int × Int) × (Int × Int × Int × Int)) × (List (Int × Int × Int)) => q.2.2) h17)) : CB _ _ _ _ _ _) w W).nx (((CH (Aq h_v1) h20 (Bh.snd (Bh.snd Bh.here)) (congrArg (fun q : Int × (Int × (Int × Int × Int × Int) × (Int × Int × Int × Int)) × (List (Int × Int × Int)) => q.2.2) h21)) : CB _ _ _ _ _ _) w W).nx)) fun a F => ?_
      refine qs F Aa (Au F Aa Aa Aa).q fun a F => ?_
      refine AY fun w W => ?_
      refine Ad ?_
      exact ⟨_, H, F.re ⟨rfl, Aa, Aa, Aa, Aa, Aa, Aa, trivial⟩, W⟩
     rintro a w ⟨x5, hj, F, W⟩
     have hj := AG hj
     subst hj
     have H := K5
     clear G5 K5
     refine AA F Aa (fun hb => ?_) fun hb => ?_
     ·
      have H := AM hb H
      rw [hb] at F
      clear hb
      refine Ak (Ae ?_)
      refine ls F W Aa (Ag F Aa).q fun a w F W => ?_
      refine Af (Ad (Aw (AJ ?_)))
      iterate 2 refine AD ?_
      iterate 2 refine AJ ?_
      iterate 2 refine AD ?_
      refine AJ (AD ?_)
      have H := L4 _ H
      have H := L3 _ H
      have H := L2 _ H
      have H := L1 _ H
      have H := AG H
      subst H
      refine AE (.inl Aa) F W Aa (Av F Aa) ?_
      exact ⟨rfl, W.done⟩
     have H := AL (by rw [hb]; decide) H
     rw [hb] at F
     clear hb
     refine Ax (AS (Ad (Ae ?_)))
     refine ls F W Aa (Ah F Aa).q fun a w F W => ?_
     refine ls F W Aa (Cf F Aa Aa Aa).q fun a w F W => ?_
     refine ls F W Aa (Ag F Aa).q fun a w F W => ?_
     refine Af (Ad ?_)
     exact ⟨_, H, F.re ⟨rfl, Aa, Aa, Aa, Aa, Aa, trivial⟩, W⟩
    have H := AL (A8 hb) H
    rw [hb] at F
    clear hb
    refine Bz ?_
    iterate 2 refine B1 ?_
    refine BA (AS (Ad ?_))
    have H := L4 _ H
    exact ⟨H, F.re ⟨rfl, Aa, Aa, Aa, Aa, trivial⟩, W⟩
   rintro a w ⟨hj, F, W⟩
   have H := K3 _ hj
   clear hj G3 K3 L3
   refine Ae ?_
   refine ls F W Aa (Ah F Aa).q fun a w F W => ?_
   refine ls F W Aa (Cf F Aa Aa Aa).q fun a w F W => ?_
   refine ls F W Aa (Ag F Aa).q fun a w F W => ?_
   refine Af (Ad ?_)
   exact ⟨_, H, F.re ⟨rfl, Aa, Aa, Aa, Aa, trivial⟩, W⟩
  have H := AL (A8 hb) H
  rw [hb] at F
  clear hb
  refine Bz ?_
  iterate 2 refine B1 ?_
  refine BA (Ad ?_)
  have H := L2 _ H
  exact ⟨H, F.re ⟨rfl, Aa, Aa, trivial⟩, W⟩
 rintro a w ⟨hj, F, W⟩
 have H := K1 _ hj
 clear hj G1 K1 L1
 refine Ak (Ae ?_)
 refine ls F W Aa (Ah F Aa).q fun a w F W => ?_
 refine ls F W Aa (B6 (r := A2) (l := p0) D1 Aa F Aa (AU Bd h1 (Aq h_v1))).q fun a w F W => ?_
 refine ls F W Aa (Ah F Aa).q fun a w F W => ?_
 refine ls F W Aa (GY F Aa Aa).q fun a w F W => ?_
 refine ls F W Aa (Ag F Aa).q fun a w F W => ?_
 refine Af (Ad (Aw ?_))
 have H := AG H
 subst H
 refine AE (.inl Aa) F W Aa (Av F Aa) ?_
 exact ⟨rfl, W.done⟩
theorem Oa : Has Try.prog 11 := ⟨fun args w => An Try.func11 rfl (by decide) args w⟩
theorem NF (dd : Nat) (x0 : Int) (x1 : Int) (x2 : Int) (y0 : Int) (y1 : Int) (y2 : Int) (w : World) : (Op.equalIn (dd + 2) 61 (.agg #[.int .i64 x0, .int .i64 x1, .int .i64 x2]) (.agg #[.int .i64 y0, .int .i64 y1, .int .i64 y2])).run Try.prog w = .ok (decide (x0 = y0 ∧ x1 = y1 ∧ x2 = y2)) w :=
  Gx (d := dd + 1) (rs := [decide (x0 = y0), decide (x1 = y1), decide (x2 = y2)]) Df (by kernel_rfl) ⟨rfl, Gy (d := dd + 0) rfl rfl LY T3 rfl rfl, rfl, Gy (d := dd + 0) rfl rfl LY T3 rfl rfl, rfl, Gy (d := dd + 0) rfl rfl LY T3 rfl rfl, trivial⟩ (by simp) w
theorem Pr : Try.prog.eqGuardType Try.prog.depth 61 = false := by kernel_rfl
theorem Pm (x0 : Int) (x1 : Int) (x2 : Int) (y0 : Int) (y1 : Int) (y2 : Int) (w : World) : (Op.equalIn 10000 61 (.agg #[.int .i64 x0, .int .i64 x1, .int .i64 x2]) (.agg #[.int .i64 y0, .int .i64 y1, .int .i64 y2])).run Try.prog w = .ok (decide (x0 = y0 ∧ x1 = y1 ∧ x2 = y2)) w := NF 9998 x0 x1 x2 y0 y1 y2 w
noncomputable def BR (p0 : List (Int × Int × Int)) (p1 : List (Int × Int × Int)) : Int → Option (Int ⊕ (Unit ⊕ Bool))
  | x1 => (if x1 < (p0.length : Int) then (ix p0 x1).bind fun x2 => (ix p1 x1).bind fun x3 => (if (!(decide (x2.1 = x3.1 ∧ x2.2.1 = x3.2.1 ∧ x2.2.2 = x3.2.2))) = true then some (.inr (.inr false)) else some (.inl (CL (x1 + 1)))) else some (.inr (.inl ())))
noncomputable def B3 (p0 : List (Int × Int × Int)) (p1 : List (Int × Int × Int)) : Option Bool := (if (p0.length : Int) ≠ (p1.length : Int) then some false else Fw (Bi (BR p0 p1) 0) fun _ => some true)
theorem Ef (Y : Nat → Prop) (w0 : World) (v1 : Value) (v2 : Value) (p0 : List (Int × Int × Int)) (p1 : List (Int × Int × Int)) (r : Bool) (H : B3 p0 p1 = some r) (h_v1 : Sl w0 (NX []) Bw v1 p0) (h_v2 : Sl w0 (NX []) Bw v2 p1) :
    Calls Try.prog 75 #[v1, v2] w0 fun e w' => e = .returned (.bool r) ∧ Below w0.heap.size w0 w' := by
 refine enter Try.func75 Aa Try.ntmps75 Aa fun a F => ?_
 have W := Stw.start Y w0
 unfold B3 at H
 refine Ak (Ae ?_)
 refine ls F W Aa (Ag F Aa).q fun a w F W => ?_
 refine Af (Ad (Ak (Ak (Ae ?_))))
 refine ls F W Aa (Ah F Aa).q fun a w F W => ?_
 refine ls F W Aa (B6 (r := Bw) (l := p0) HM Aa F Aa (Aq h_v1)).q fun a w F W => ?_
 refine ls F W Aa (Ah F Aa).q fun a w F W => ?_
 refine ls F W Aa (B6 (r := Bw) (l := p1) HM Aa F Aa (Aq h_v2)).q fun a w F W => ?_
 refine ls F W Aa (E6 F Aa Aa).q fun a w F W => ?_
 refine Af (Ad ?_)
 refine AA F Aa (fun hb => ?_) fun hb => ?_
 ·
  have H := AM (Ba hb) H
  rw [hb] at F
  clear hb
  refine Ak (Ae ?_)
  refine ls F W Aa (Ag F Aa).q fun a w F W => ?_
  refine Af (Ad (Aw (AD ?_)))
  have H := AG H
  subst H
  refine AE (.inl Aa) F W Aa (Av F Aa) ?_
  exact ⟨rfl, W.done⟩
 have H := AL (A8 hb) H
 rw [hb] at F
 clear hb
 refine Ax (Ad ?_)
 obtain ⟨o1, G1, K1, L1⟩ := HR H
 refine AF (fun a w => some (Sum.inl ()) = some o1 ∧ Fr 26 [] [(4, .bool false)] a ∧ Stw ⟨Y, [], w0⟩ [] [] w) ?_ ?_
 ·
  have H := G1
  clear G1 K1
  refine Ak (Ae ?_)
  refine ls F W Aa (Ah F Aa).q fun a w F W => ?_
  refine ls F W Aa (B6 (r := Bw) (l := p0) HM Aa F Aa (Aq h_v1)).q fun a w F W => ?_
  refine ls F W Aa (Ah F Aa).q fun a w F W => ?_
  refine Af (Ad (AC ?_))
  refine Bx H (fun s a w => Fr 26 [] [(0, v1), (1, v2), (4, .bool false), (12, .int .i64 (p0.length : Int)), (13, .int .i64 s)] a ∧ Stw ⟨Y, [], w0⟩ [] [] w) ⟨F.re ⟨rfl, Aa, Aa, Aa, Aa, trivial⟩, W⟩ fun s o a w H L2 hR => ?_
  obtain ⟨x1, rfl⟩ : ∃ x, x = s := ⟨s, rfl⟩
  obtain ⟨F, W⟩ := hR
  have F : Fr 26 [] [(0, v1), (1, v2), (4, .bool false), (12, .int .i64 (p0.length : Int)), (13, .int .i64 x1)] a := F
  have W : Stw ⟨Y, [], w0⟩ [] [] w := W
  rw [BR] at H
  refine Ak (Ae ?_)
  refine ls F W Aa (BM F Aa Aa).q fun a w F W => ?_
  refine Af (Ad (Ak ?_))
  refine AA F Aa (fun hb => ?_) fun hb => ?_
  ·
   have H := AM (Ba hb) H
   rw [hb] at F
   clear hb
   refine Ax (Ad (Ak (AC (Ak (Ae ?_)))))
   refine ls F W Aa (Ah F Aa).q fun a w F W => ?_
   refine ls F W Aa (Ag F Aa).q fun a w F W => ?_
   refine Af (Ad (Ak ?_))
   refine Cq W MO (by kernel_rfl) ?_
   iterate 2 refine qs F Aa (Ah F Aa).q fun a F => ?_
   obtain ⟨x2, h1, H⟩ := Ao H
   refine qs F Aa (A1 (r := Bw) J1 F Aa Aa (Aq h_v1) h1).q fun a F => ?_
   refine qs F Aa (AR (y := Value.agg #[.int .i64 x2.1, .int .i64 x2.2.1, .int .i64 x2.2.2]) (j := 0) (i := x1) F Aa Aa (Aq h_v1) h1 Kp.to Mn Aa).q fun a F => ?_
   iterate 2 refine qs F Aa (Ah F Aa).q fun a F => ?_
   obtain ⟨x3, h2, H⟩ := Ao H
   refine qs F Aa (A1 (r := Bw) J1 F Aa Aa (Aq h_v2) h2).q fun a F => ?_
   refine qs F Aa (AR (y := Value.agg #[.int .i64 x3.1, .int .i64 x3.2.1, .int .i64 x3.2.2]) (j := 0) (i := x1) F Aa Aa (Aq h_v2) h2 Kp.to Mn Aa).q fun a F => ?_
   refine qs F Aa (LF (t := decide (x2.1 = x3.1 ∧ x2.2.1 = x3.2.1 ∧ x2.2.2 = x3.2.2)) Pr (Pm _ _ _ _ _ _) F Aa Aa).q fun a F => ?_
   refine AY fun w W => ?_
   refine Ad ?_
   refine AA F Aa (fun hb => ?_) fun hb => ?_
   ·
    have H := AM hb H
    rw [hb] at F
    clear hb
    refine Ak (Ae ?_)
    refine ls F W Aa (Ag F Aa).q fun a w F W => ?_
    refine Af (Ad (Aw (AJ ?_)))
    iterate 2 refine AD ?_
    refine AJ (AD ?_)
    have H := L2 _ H
    have H := L1 _ H
    have H := AG H
    subst H
    refine AE (.inl Aa) F W Aa (Av F Aa) ?_
    exact ⟨rfl, W.done⟩
   have H := AL (by rw [hb]; decide) H
   rw [hb] at F
   clear hb
   refine Ax (AS (Ad (Ae ?_)))
   refine ls F W Aa (Cf F Aa Aa Aa).q fun a w F W => ?_
   refine ls F W Aa (Ah F Aa).q fun a w F W => ?_
   refine Af (Ad ?_)
   exact ⟨_, H, F.re ⟨rfl, Aa, Aa, Aa, Aa, trivial⟩, W⟩
  have H := AL (A8 hb) H
  rw [hb] at F
  clear hb
  refine Bz ?_
  iterate 2 refine B1 ?_
  refine BA (Ad ?_)
  have H := L2 _ H
  exact ⟨H, F.re ⟨rfl, trivial⟩, W⟩
 rintro a w ⟨hj, F, W⟩
 have H := K1 _ hj
 clear hj G1 K1 L1
 refine Ak (Ae ?_)
 refine ls F W Aa (Ag F Aa).q fun a w F W => ?_
 refine Af (Ad (Aw ?_))
 have H := AG H
 subst H
 refine AE (.inl Aa) F W Aa (Av F Aa) ?_
 exact ⟨rfl, W.done⟩
theorem Pg : Has Try.prog 75 := ⟨fun args w => An Try.func75 rfl (by decide) args w⟩
noncomputable def Ge (p0 : List (Int × Int × Int)) (p1 : List (Int × Int × Int)) : Option Bool := (B3 p0 p1).bind fun x1 => some x1
theorem J0 (Y : Nat → Prop) (w0 : World) (v1 : Value) (v2 : Value) (p0 : List (Int × Int × Int)) (p1 : List (Int × Int × Int)) (r : Bool) (H : Ge p0 p1 = some r) (h_v1 : Sl w0 (NX []) Bw v1 p0) (h_v2 : Sl w0 (NX []) Bw v2 p1) :
    Calls Try.prog 56 #[v1, v2] w0 fun e w' => e = .returned (.bool r) ∧ Below w0.heap.size w0 w' := by
 refine enter Try.func56 Aa Try.ntmps56 Aa fun a F => ?_
 have W := Stw.start Y w0
 unfold Ge at H
 refine Ak (Ae ?_)
 refine ls F W Aa (Ag F Aa).q fun a w F W => ?_
 refine Af (Ad (Ak (Ae ?_)))
 iterate 2 refine ls F W Aa (Ah F Aa).q fun a w F W => ?_
 obtain ⟨x1, h1, H⟩ := Ao H
 refine ls F W Aa (AQ (v := Value.bool x1) F Pg Aa (fun w W => Ef any w (v1) (v2) p0 p1 _ h1 (((Aq h_v1) : CB _ _ _ _ _ _) w W).nx (((Aq h_v2) : CB _ _ _ _ _ _) w W).nx)) fun a w F W => ?_
 refine ls F W Aa (Ag F Aa).q fun a w F W => ?_
 refine Af (Ad (Aw ?_))
 have H := AG H
 subst H
 refine AE (.inl Aa) F W Aa (Av F Aa) ?_
 exact ⟨rfl, W.done⟩
theorem Ps : Has Try.prog 56 := ⟨fun args w => An Try.func56 rfl (by decide) args w⟩
noncomputable def FB (p0 : Int × (Int × (Int × Int × Int × Int) × (Int × Int × Int × Int)) × (List (Int × Int × Int))) (p1 : Int × (Int × (Int × Int × Int × Int) × (Int × Int × Int × Int)) × (List (Int × Int × Int))) : Option Bool := (if (EA p0 p1) = true then (Ge p0.2.2 p1.2.2).bind fun x2 => some x2 else some false).bind fun x1 => some x1
theorem JO (Y : Nat → Prop) (w0 : World) (v1 : Value) (v2 : Value) (p0 : Int × (Int × (Int × Int × Int × Int) × (Int × Int × Int × Int)) × (List (Int × Int × Int))) (p1 : Int × (Int × (Int × Int × Int × Int) × (Int × Int × Int × Int)) × (List (Int × Int × Int))) (r : Bool) (H : FB p0 p1 = some r) (h_v1 : Sl w0 (NX []) Bw v1 p0.2.2) (h_v2 : Sl w0 (NX []) Bw v2 p1.2.2) :
    Calls Try.prog 34 #[.agg #[.int .i64 p0.1, .int .i64 p0.2.1.1, .int .i64 p0.2.1.2.1.1, .int .i64 p0.2.1.2.1.2.1, .int .i64 p0.2.1.2.1.2.2.1, .int .i64 p0.2.1.2.1.2.2.2, .int .i64 p0.2.1.2.2.1, .int .i64 p0.2.1.2.2.2.1, .int .i64 p0.2.1.2.2.2.2.1, .int .i64 p0.2.1.2.2.2.2.2, v1], .agg #[.int .i64 p1.1, .int .i64 p1.2.1.1, .int .i64 p1.2.1.2.1.1, .int .i64 p1.2.1.2.1.2.1, .int .i64 p1.2.1.2.1.2.2.1, .int .i64 p1.2.1.2.1.2.2.2, .int .i64 p1.2.1.2.2.1, .int .i64 p1.2.1.2.2.2.1, .int .i64 p1.2.1.2.2.2.2.1, .int .i64 p1.2.1.2.2.2.2.2, v2]] w0 fun e w' => e = .returned (.bool r) ∧ Below w0.heap.size w0 w' := by
 refine enter Try.func34 Aa Try.ntmps34 Aa fun a F => ?_
 have W := Stw.start Y w0
 unfold FB at H
 refine Ak (Ae ?_)
 refine BT (cs := [.int .i64 p0.1, .int .i64 p0.2.1.1, .int .i64 p0.2.1.2.1.1, .int .i64 p0.2.1.2.1.2.1, .int .i64 p0.2.1.2.1.2.2.1, .int .i64 p0.2.1.2.1.2.2.2, .int .i64 p0.2.1.2.2.1, .int .i64 p0.2.1.2.2.2.1, .int .i64 p0.2.1.2.2.2.2.1, .int .i64 p0.2.1.2.2.2.2.2, v1]) F W Aa Aa Aa fun b1 a w F W => ?_
 refine BT (cs := [.int .i64 p1.1, .int .i64 p1.2.1.1, .int .i64 p1.2.1.2.1.1, .int .i64 p1.2.1.2.1.2.1, .int .i64 p1.2.1.2.1.2.2.1, .int .i64 p1.2.1.2.1.2.2.2, .int .i64 p1.2.1.2.2.1, .int .i64 p1.2.1.2.2.2.1, .int .i64 p1.2.1.2.2.2.2.1, .int .i64 p1.2.1.2.2.2.2.2, v2]) F W Aa Aa Aa fun b2 a w F W => ?_
 refine ls F W Aa (Ag F Aa).q fun a w F W => ?_
 refine Af (Ad ?_)
 obtain ⟨o1, G1, K1⟩ := Ao H
 refine AF (fun a w => ∃ x1 : Bool, some (x1) = some o1 ∧ Fr 15 [] [(4, .bool x1)] a ∧ Stw ⟨Y, [], w0⟩ [(b2, [.int .i64 p1.1, .int .i64 p1.2.1.1, .int .i64 p1.2.1.2.1.1, .int .i64 p1.2.1.2.1.2.1, .int .i64 p1.2.1.2.1.2.2.1, .int .i64 p1.2.1.2.1.2.2.2, .int .i64 p1.2.1.2.2.1, .int .i64 p1.2.1.2.2.2.1, .int .i64 p1.2.1.2.2.2.2.1, .int .i64 p1.2.1.2.2.2.2.2, v2]), (b1, [.int .i64 p0.1, .int .i64 p0.2.1.1, .int .i64 p0.2.1.2.1.1, .int .i64 p0.2.1.2.1.2.1, .int .i64 p0.2.1.2.1.2.2.1, .int .i64 p0.2.1.2.1.2.2.2, .int .i64 p0.2.1.2.2.1, .int .i64 p0.2.1.2.2.2.1, .int .i64 p0.2.1.2.2.2.2.1, .int .i64 p0.2.1.2.2.2.2.2, v1])] [] w) ?_ ?_
 ·
  have H := G1
  clear G1 K1
  refine Ae ?_
  refine ls F W Aa (As (v := Value.agg #[.int .i64 p0.1, .int .i64 p0.2.1.1, .int .i64 p0.2.1.2.1.1, .int .i64 p0.2.1.2.1.2.1, .int .i64 p0.2.1.2.1.2.2.1, .int .i64 p0.2.1.2.1.2.2.2, .int .i64 p0.2.1.2.2.1, .int .i64 p0.2.1.2.2.2.1, .int .i64 p0.2.1.2.2.2.2.1, .int .i64 p0.2.1.2.2.2.2.2, v1]) 1 F Aa Aa CE Aa).q fun a w F W => ?_
  refine ls F W Aa (As (v := Value.agg #[.int .i64 p1.1, .int .i64 p1.2.1.1, .int .i64 p1.2.1.2.1.1, .int .i64 p1.2.1.2.1.2.1, .int .i64 p1.2.1.2.1.2.2.1, .int .i64 p1.2.1.2.1.2.2.2, .int .i64 p1.2.1.2.2.1, .int .i64 p1.2.1.2.2.2.1, .int .i64 p1.2.1.2.2.2.2.1, .int .i64 p1.2.1.2.2.2.2.2, v2]) 0 F Aa Aa CE Aa).q fun a w F W => ?_
  refine ls F W Aa (AQ (v := Value.bool (EA p0 p1)) F Oo Aa (fun w W => Ie any w (v1) (v2) p0 p1 _ Aa (((Aq h_v1) : CB _ _ _ _ _ _) w W).nx (((Aq h_v2) : CB _ _ _ _ _ _) w W).nx)) fun a w F W => ?_
  refine ls F W Aa (Ah F Aa).q fun a w F W => ?_
  rcases Bool.eq_false_or_eq_true (EA p0 p1) with hb | hb
  ·
   have H := AM hb H
   rw [hb] at F
   clear hb
   refine AK F W (Aj F Aa Aa Aa Aa) Aa (Ap Aa) (Al Cw Aa Aa Aa HN F Aa 10 Aa).q fun a w F W => ?_
   refine AK F W (Aj F Aa Aa Aa Aa) Aa (Ap Aa) (As (v := v1) 1 F Aa Aa HN Aa).q fun a w F W => ?_
   refine AK F W (Aj F Aa Aa Aa Aa) Aa (Ap Aa) (Al Cw Aa Aa Aa HN F Aa 10 Aa).q fun a w F W => ?_
   refine AK F W (Aj F Aa Aa Aa Aa) Aa (Ap Aa) (As (v := v2) 0 F Aa Aa HN Aa).q fun a w F W => ?_
   refine F8 (Aj F Aa Aa Aa Aa) ?_
   obtain ⟨x2, h1, H⟩ := Ao H
   refine ls F W Aa (AQ (v := Value.bool x2) F Ps Aa (fun w W => J0 any w (v1) (v2) p0.2.2 p1.2.2 _ h1 (((Aq h_v1) : CB _ _ _ _ _ _) w W).nx (((Aq h_v2) : CB _ _ _ _ _ _) w W).nx)) fun a w F W => ?_
   refine ls F W Aa (Az F Aa Aa Aa).q fun a w F W => ?_
   refine ls F W Aa (Ag F Aa).q fun a w F W => ?_
   refine Af (Ad ?_)
   have W := W.frontM (i := 1) Aa Aa
   have W := W.frontM (i := 1) Aa Aa
   exact ⟨_, H, F.re ⟨rfl, trivial⟩, W⟩
  have H := AL (by rw [hb]; decide) H
  rw [hb] at F
  clear hb
  iterate 5 refine Cx F Aa Aa Aa Aa Aa Aa Aa fun a F => ?_
  refine ls F W Aa (Au F Aa Aa Aa).q fun a w F W => ?_
  refine ls F W Aa (Ag F Aa).q fun a w F W => ?_
  refine Af (Ad ?_)
  have W := W.frontM (i := 1) Aa Aa
  have W := W.frontM (i := 1) Aa Aa
  exact ⟨_, H, F.re ⟨rfl, trivial⟩, W⟩
 rintro a w ⟨x1, hj, F, W⟩
 have hj := AG hj
 subst hj
 have H := K1
 clear G1 K1
 refine Aw ?_
 have H := AG H
 subst H
 refine AE (.inl Aa) F W Aa (Av F Aa) ?_
 exact ⟨rfl, W.done⟩
theorem Pj : Has Try.prog 34 := ⟨fun args w => An Try.func34 rfl (by decide) args w⟩
noncomputable def AH (p0 : List (Int × (Int × (Int × Int × Int × Int) × (Int × Int × Int × Int)) × (List (Int × Int × Int)))) (p1 : List (Int × (Int × (Int × Int × Int × Int) × (Int × Int × Int × Int)) × (List (Int × Int × Int)))) : Int → Option (Int ⊕ (Unit ⊕ Bool))
  | x1 => (if x1 < (p0.length : Int) then (ix p0 x1).bind fun x2 => (ix p1 x1).bind fun x3 => (FB x2 x3).bind fun x4 => (if (!x4) = true then some (.inr (.inr false)) else some (.inl (CL (x1 + 1)))) else some (.inr (.inl ())))
noncomputable def AV (p0 : List (Int × (Int × (Int × Int × Int × Int) × (Int × Int × Int × Int)) × (List (Int × Int × Int)))) (p1 : List (Int × (Int × (Int × Int × Int × Int) × (Int × Int × Int × Int)) × (List (Int × Int × Int)))) : Option Bool := (if (p0.length : Int) ≠ (p1.length : Int) then some false else Fw (Bi (AH p0 p1) 0) fun _ => some true)
theorem Co (Y : Nat → Prop) (w0 : World) (v1 : Value) (v2 : Value) (p0 : List (Int × (Int × (Int × Int × Int × Int) × (Int × Int × Int × Int)) × (List (Int × Int × Int)))) (p1 : List (Int × (Int × (Int × Int × Int × Int) × (Int × Int × Int × Int)) × (List (Int × Int × Int)))) (r : Bool) (H : AV p0 p1 = some r) (h_v1 : Sl w0 (NX []) A2 v1 p0) (h_v2 : Sl w0 (NX []) A2 v2 p1) :
    Calls Try.prog 33 #[v1, v2, .func (.func 34) #[] #[]] w0 fun e w' => e = .returned (.bool r) ∧ Below w0.heap.size w0 w' := by
 refine enter Try.func33 Aa Try.ntmps33 Aa fun a F => ?_
 have W := Stw.start Y w0
 obtain ⟨v3, h1, h_v1⟩ := h_v1.ex Bd
 obtain ⟨v4, h2, h_v2⟩ := h_v2.ex Bd
 unfold AV at H
 refine Ak (Ae ?_)
 refine ls F W Aa (Ag F Aa).q fun a w F W => ?_
 refine Af (Ad (Ak (Ak (Ae ?_))))
 refine ls F W Aa (Ah F Aa).q fun a w F W => ?_
 refine ls F W Aa (B6 (r := A2) (l := p0) D1 Aa F Aa (AU Bd h1 (Aq h_v1))).q fun a w F W => ?_
 refine ls F W Aa (Ah F Aa).q fun a w F W => ?_
 refine ls F W Aa (B6 (r := A2) (l := p1) D1 Aa F Aa (AU Bd h2 (Aq h_v2))).q fun a w F W => ?_
 refine ls F W Aa (E6 F Aa Aa).q fun a w F W => ?_
 refine Af (Ad ?_)
 refine AA F Aa (fun hb => ?_) fun hb => ?_
 ·
  have H := AM (Ba hb) H
  rw [hb] at F
  clear hb
  refine Ak (Ae ?_)
  refine ls F W Aa (Ag F Aa).q fun a w F W => ?_
  refine Af (Ad (Aw (AD ?_)))
  have H := AG H
  subst H
  refine AE (.inl Aa) F W Aa (Av F Aa) ?_
  exact ⟨rfl, W.done⟩
 have H := AL (A8 hb) H
 rw [hb] at F
 clear hb
 refine Ax (Ad ?_)
 obtain ⟨o1, G1, K1, L1⟩ := HR H
 refine AF (fun a w => some (Sum.inl ()) = some o1 ∧ Fr 32 [] [(6, .bool false)] a ∧ Stw ⟨Y, [], w0⟩ [] [] w) ?_ ?_
 ·
  have H := G1
  clear G1 K1
  refine Ak (Ae ?_)
  refine ls F W Aa (Ah F Aa).q fun a w F W => ?_
  refine ls F W Aa (B6 (r := A2) (l := p0) D1 Aa F Aa (AU Bd h1 (Aq h_v1))).q fun a w F W => ?_
  refine ls F W Aa (Ah F Aa).q fun a w F W => ?_
  refine Af (Ad (AC ?_))
  refine Bx H (fun s a w => Fr 32 [] [(1, v2), (2, .func (.func 34) #[] #[]), (6, .bool false), (15, v1), (16, .int .i64 (p0.length : Int)), (17, .int .i64 s)] a ∧ Stw ⟨Y, [], w0⟩ [] [] w) ⟨F.re ⟨rfl, Aa, Aa, Aa, Aa, Aa, trivial⟩, W⟩ fun s o a w H L2 hR => ?_
  obtain ⟨x1, rfl⟩ : ∃ x, x = s := ⟨s, rfl⟩
  obtain ⟨F, W⟩ := hR
  have F : Fr 32 [] [(1, v2), (2, .func (.func 34) #[] #[]), (6, .bool false), (15, v1), (16, .int .i64 (p0.length : Int)), (17, .int .i64 x1)] a := F
  have W : Stw ⟨Y, [], w0⟩ [] [] w := W
  rw [AH] at H
  refine Ak (Ae ?_)
  refine ls F W Aa (BM F Aa Aa).q fun a w F W => ?_
  refine Af (Ad (Ak ?_))
  refine AA F Aa (fun hb => ?_) fun hb => ?_
  ·
   have H := AM (Ba hb) H
   rw [hb] at F
   clear hb
   refine Ax (Ad (Ak (AC (Ak (Ae ?_)))))
   refine ls F W Aa (Ah F Aa).q fun a w F W => ?_
   obtain ⟨x2, h3, H⟩ := Ao H
   obtain ⟨v5, h4, h5⟩ := Cv h1 h3
   have h6 : Ce v5 = [.int .i64 x2.1, .int .i64 x2.2.1.1, .int .i64 x2.2.1.2.1.1, .int .i64 x2.2.1.2.1.2.1, .int .i64 x2.2.1.2.1.2.2.1, .int .i64 x2.2.1.2.1.2.2.2, .int .i64 x2.2.1.2.2.1, .int .i64 x2.2.1.2.2.2.1, .int .i64 x2.2.1.2.2.2.2.1, .int .i64 x2.2.1.2.2.2.2.2, (v5.2.2.1)] := congrArg (fun q : Int × (Int × (Int × Int × Int × Int) × (Int × Int × Int × Int)) × (List (Int × Int × Int)) => ([.int .i64 q.1, .int .i64 q.2.1.1, .int .i64 q.2.1.2.1.1, .int .i64 q.2.1.2.1.2.1, .int .i64 q.2.1.2.1.2.2.1, .int .i64 q.2.1.2.1.2.2.2, .int .i64 q.2.1.2.2.1, .int .i64 q.2.1.2.2.2.1, .int .i64 q.2.1.2.2.2.2.1, .int .i64 q.2.1.2.2.2.2.2, (v5.2.2.1)] : List Value)) h5
   refine ls F W Aa (A1 (r := CC) Fb F Aa Aa (Aq h_v1) h4).q fun a w F W => ?_
   refine ls F W Aa (AR (y := Value.agg #[.int .i64 x2.1, .int .i64 x2.2.1.1, .int .i64 x2.2.1.2.1.1, .int .i64 x2.2.1.2.1.2.1, .int .i64 x2.2.1.2.1.2.2.1, .int .i64 x2.2.1.2.1.2.2.2, .int .i64 x2.2.1.2.2.1, .int .i64 x2.2.1.2.2.2.1, .int .i64 x2.2.1.2.2.2.2.1, .int .i64 x2.2.1.2.2.2.2.2, (v5.2.2.1)]) (j := 0) (i := x1) (enc := Ce) F Aa Aa (Aq h_v1) h4 D9 CE (by rw [h6]; rfl)).q fun a w F W => ?_
   refine B9 (cs := [.int .i64 0, .int .i64 0, .int .i64 0, .int .i64 0, .int .i64 0, .int .i64 0, .int .i64 0, .int .i64 0, .int .i64 0, .int .i64 0, .slice none 0 0]) F W Aa JR Aa fun b1 a w F W => ?_
   refine ls F W Aa (Ag F Aa).q fun a w F W => ?_
   refine Br (vs := [.int .i64 x2.1, .int .i64 x2.2.1.1, .int .i64 x2.2.1.2.1.1, .int .i64 x2.2.1.2.1.2.1, .int .i64 x2.2.1.2.1.2.2.1, .int .i64 x2.2.1.2.1.2.2.2, .int .i64 x2.2.1.2.2.1, .int .i64 x2.2.1.2.2.2.1, .int .i64 x2.2.1.2.2.2.2.1, .int .i64 x2.2.1.2.2.2.2.2, (v5.2.2.1)]) (M' := [(b1, [.int .i64 x2.1, .int .i64 x2.2.1.1, .int .i64 x2.2.1.2.1.1, .int .i64 x2.2.1.2.1.2.1, .int .i64 x2.2.1.2.1.2.2.1, .int .i64 x2.2.1.2.1.2.2.2, .int .i64 x2.2.1.2.2.1, .int .i64 x2.2.1.2.2.2.1, .int .i64 x2.2.1.2.2.2.2.1, .int .i64 x2.2.1.2.2.2.2.2, (v5.2.2.1)])]) 0 F W Aa Aa Aa CE Aa Aa Aa (Am Aa (Am Aa (Am Aa (Am Aa (Am Aa (Am Aa (Am Aa (Am Aa (Am Aa (Am Aa (Am ((CH (Aq h_v1) h4 (Bh.snd (Bh.snd Bh.here)) (congrArg (fun q : Int × (Int × (Int × Int × Int × Int) × (Int × Int × Int × Int)) × (List (Int × Int × Int)) => q.2.2) h5)) _ W).one CA))))))))))) Aa fun w W => ?_
   refine Af (Ad (Ak (Ae ?_)))
   iterate 2 refine ls F W Aa (Ah F Aa).q fun a w F W => ?_
   obtain ⟨x3, h7, H⟩ := Ao H
   obtain ⟨v6, h8, h9⟩ := Cv h2 h7
   have h10 : Ce v6 = [.int .i64 x3.1, .int .i64 x3.2.1.1, .int .i64 x3.2.1.2.1.1, .int .i64 x3.2.1.2.1.2.1, .int .i64 x3.2.1.2.1.2.2.1, .int .i64 x3.2.1.2.1.2.2.2, .int .i64 x3.2.1.2.2.1, .int .i64 x3.2.1.2.2.2.1, .int .i64 x3.2.1.2.2.2.2.1, .int .i64 x3.2.1.2.2.2.2.2, (v6.2.2.1)] := congrArg (fun q : Int × (Int × (Int × Int × Int × Int) × (Int × Int × Int × Int)) × (List (Int × Int × Int)) => ([.int .i64 q.1, .int .i64 q.2.1.1, .int .i64 q.2.1.2.1.1, .int .i64 q.2.1.2.1.2.1, .int .i64 q.2.1.2.1.2.2.1, .int .i64 q.2.1.2.1.2.2.2, .int .i64 q.2.1.2.2.1, .int .i64 q.2.1.2.2.2.1, .int .i64 q.2.1.2.2.2.2.1, .int .i64 q.2.1.2.2.2.2.2, (v6.2.2.1)] : List Value)) h9
   refine ls F W Aa (A1 (r := CC) Fb F Aa Aa (Aq h_v2) h8).q fun a w F W => ?_
   refine ls F W Aa (AR (y := Value.agg #[.int .i64 x3.1, .int .i64 x3.2.1.1, .int .i64 x3.2.1.2.1.1, .int .i64 x3.2.1.2.1.2.1, .int .i64 x3.2.1.2.1.2.2.1, .int .i64 x3.2.1.2.1.2.2.2, .int .i64 x3.2.1.2.2.1, .int .i64 x3.2.1.2.2.2.1, .int .i64 x3.2.1.2.2.2.2.1, .int .i64 x3.2.1.2.2.2.2.2, (v6.2.2.1)]) (j := 0) (i := x1) (enc := Ce) F Aa Aa (Aq h_v2) h8 D9 CE (by rw [h10]; rfl)).q fun a w F W => ?_
   refine B9 (cs := [.int .i64 0, .int .i64 0, .int .i64 0, .int .i64 0, .int .i64 0, .int .i64 0, .int .i64 0, .int .i64 0, .int .i64 0, .int .i64 0, .slice none 0 0]) F W Aa JR Aa fun b2 a w F W => ?_
   refine Br (vs := [.int .i64 x3.1, .int .i64 x3.2.1.1, .int .i64 x3.2.1.2.1.1, .int .i64 x3.2.1.2.1.2.1, .int .i64 x3.2.1.2.1.2.2.1, .int .i64 x3.2.1.2.1.2.2.2, .int .i64 x3.2.1.2.2.1, .int .i64 x3.2.1.2.2.2.1, .int .i64 x3.2.1.2.2.2.2.1, .int .i64 x3.2.1.2.2.2.2.2, (v6.2.2.1)]) (M' := [(b2, [.int .i64 x3.1, .int .i64 x3.2.1.1, .int .i64 x3.2.1.2.1.1, .int .i64 x3.2.1.2.1.2.1, .int .i64 x3.2.1.2.1.2.2.1, .int .i64 x3.2.1.2.1.2.2.2, .int .i64 x3.2.1.2.2.1, .int .i64 x3.2.1.2.2.2.1, .int .i64 x3.2.1.2.2.2.2.1, .int .i64 x3.2.1.2.2.2.2.2, (v6.2.2.1)]), (b1, [.int .i64 x2.1, .int .i64 x2.2.1.1, .int .i64 x2.2.1.2.1.1, .int .i64 x2.2.1.2.1.2.1, .int .i64 x2.2.1.2.1.2.2.1, .int .i64 x2.2.1.2.1.2.2.2, .int .i64 x2.2.1.2.2.1, .int .i64 x2.2.1.2.2.2.1, .int .i64 x2.2.1.2.2.2.2.1, .int .i64 x2.2.1.2.2.2.2.2, (v5.2.2.1)])]) 0 F W Aa Aa Aa CE Aa Aa Aa (Am Aa (Am Aa (Am Aa (Am Aa (Am Aa (Am Aa (Am Aa (Am Aa (Am Aa (Am Aa (Am ((CH (Aq h_v2) h8 (Bh.snd (Bh.snd Bh.here)) (congrArg (fun q : Int × (Int × (Int × Int × Int × Int) × (Int × Int × Int × Int)) × (List (Int × Int × Int)) => q.2.2) h9)) _ W).one CA))))))))))) Aa fun w W => ?_
   refine Af (Ad (Ak (Ae ?_)))
   refine ls F W Aa (Ah F Aa).q fun a w F W => ?_
   refine ls F W Aa (As (v := Value.agg #[.int .i64 x2.1, .int .i64 x2.2.1.1, .int .i64 x2.2.1.2.1.1, .int .i64 x2.2.1.2.1.2.1, .int .i64 x2.2.1.2.1.2.2.1, .int .i64 x2.2.1.2.1.2.2.2, .int .i64 x2.2.1.2.2.1, .int .i64 x2.2.1.2.2.2.1, .int .i64 x2.2.1.2.2.2.2.1, .int .i64 x2.2.1.2.2.2.2.2, (v5.2.2.1)]) 1 F Aa Aa CE Aa).q fun a w F W => ?_
   refine ls F W Aa (As (v := Value.agg #[.int .i64 x3.1, .int .i64 x3.2.1.1, .int .i64 x3.2.1.2.1.1, .int .i64 x3.2.1.2.1.2.1, .int .i64 x3.2.1.2.1.2.2.1, .int .i64 x3.2.1.2.1.2.2.2, .int .i64 x3.2.1.2.2.1, .int .i64 x3.2.1.2.2.2.1, .int .i64 x3.2.1.2.2.2.2.1, .int .i64 x3.2.1.2.2.2.2.2, (v6.2.2.1)]) 0 F Aa Aa CE Aa).q fun a w F W => ?_
   obtain ⟨x4, h11, H⟩ := Ao H
   refine ls F W Aa (Er (ws := [.agg #[.int .i64 x2.1, .int .i64 x2.2.1.1, .int .i64 x2.2.1.2.1.1, .int .i64 x2.2.1.2.1.2.1, .int .i64 x2.2.1.2.1.2.2.1, .int .i64 x2.2.1.2.1.2.2.2, .int .i64 x2.2.1.2.2.1, .int .i64 x2.2.1.2.2.2.1, .int .i64 x2.2.1.2.2.2.2.1, .int .i64 x2.2.1.2.2.2.2.2, (v5.2.2.1)], .agg #[.int .i64 x3.1, .int .i64 x3.2.1.1, .int .i64 x3.2.1.2.1.1, .int .i64 x3.2.1.2.1.2.1, .int .i64 x3.2.1.2.1.2.2.1, .int .i64 x3.2.1.2.1.2.2.2, .int .i64 x3.2.1.2.2.1, .int .i64 x3.2.1.2.2.2.1, .int .i64 x3.2.1.2.2.2.2.1, .int .i64 x3.2.1.2.2.2.2.2, (v6.2.2.1)]]) (v := Value.bool x4) F Pj Aa (fun w W => JO any w ((v5.2.2.1)) ((v6.2.2.1)) x2 x3 _ h11 (((CH (Aq h_v1) h4 (Bh.snd (Bh.snd Bh.here)) (congrArg (fun q : Int × (Int × (Int × Int × Int × Int) × (Int × Int × Int × Int)) × (List (Int × Int × Int)) => q.2.2) h5)) : CB _ _ _ _ _ _) w W).nx (((CH (Aq h_v2) h8 (Bh.snd (Bh.snd Bh.here)) (congrArg (fun q : Int × (Int × (Int × Int × Int × Int) × (Int × Int × Int × Int)) × (List (Int × Int × Int)) => q.2.2) h9)) : CB _ _ _ _ _ _) w W).nx)) fun a w F W => ?_
   refine ls F W Aa (Fm F Aa).q fun a w F W => ?_
   refine Af (Ad ?_)
   refine AA F Aa (fun hb => ?_) fun hb => ?_
   ·
    have H := AM hb H
    rw [hb] at F
    clear hb
    refine Ak (Ae ?_)
    refine ls F W Aa (Ag F Aa).q fun a w F W => ?_
    refine Af (Ad (Aw (AJ ?_)))
    iterate 2 refine AD ?_
    refine AJ (AD ?_)
    have H := L2 _ H
    have H := L1 _ H
    have H := AG H
    subst H
    refine AE (.inl Aa) F W Aa (Av F Aa) ?_
    exact ⟨rfl, W.done⟩
   have H := AL (by rw [hb]; decide) H
   rw [hb] at F
   clear hb
   refine Ax (AS (Ad (Ae ?_)))
   refine ls F W Aa (Cf F Aa Aa Aa).q fun a w F W => ?_
   refine ls F W Aa (Ah F Aa).q fun a w F W => ?_
   refine Af (Ad ?_)
   have W := W.sub (M' := []) (Z' := []) (List.nil_sublist _) (List.Sublist.refl _)
   exact ⟨_, H, F.re ⟨rfl, Aa, Aa, Aa, Aa, Aa, trivial⟩, W⟩
  have H := AL (A8 hb) H
  rw [hb] at F
  clear hb
  refine Bz ?_
  iterate 2 refine B1 ?_
  refine BA (Ad ?_)
  have H := L2 _ H
  exact ⟨H, F.re ⟨rfl, trivial⟩, W⟩
 rintro a w ⟨hj, F, W⟩
 have H := K1 _ hj
 clear hj G1 K1 L1
 refine Ak (Ae ?_)
 refine ls F W Aa (Ag F Aa).q fun a w F W => ?_
 refine Af (Ad (Aw ?_))
 have H := AG H
 subst H
 refine AE (.inl Aa) F W Aa (Av F Aa) ?_
 exact ⟨rfl, W.done⟩
theorem OJ : Has Try.prog 33 := ⟨fun args w => An Try.func33 rfl (by decide) args w⟩
noncomputable def E5 (p0 : List (Int × (Int × (Int × Int × Int × Int) × (Int × Int × Int × Int)) × (List (Int × Int × Int)))) (p1 : List (Int × (Int × (Int × Int × Int × Int) × (Int × Int × Int × Int)) × (List (Int × Int × Int)))) : Option Bool := (AV p0 p1).bind fun x1 => some x1
theorem Ji (Y : Nat → Prop) (w0 : World) (v1 : Value) (v2 : Value) (p0 : List (Int × (Int × (Int × Int × Int × Int) × (Int × Int × Int × Int)) × (List (Int × Int × Int)))) (p1 : List (Int × (Int × (Int × Int × Int × Int) × (Int × Int × Int × Int)) × (List (Int × Int × Int)))) (r : Bool) (H : E5 p0 p1 = some r) (h_v1 : Sl w0 (NX []) A2 v1 p0) (h_v2 : Sl w0 (NX []) A2 v2 p1) :
    Calls Try.prog 12 #[v1, v2] w0 fun e w' => e = .returned (.bool r) ∧ Below w0.heap.size w0 w' := by
 refine enter Try.func12 Aa Try.ntmps12 Aa fun a F => ?_
 have W := Stw.start Y w0
 obtain ⟨v3, h1, h_v1⟩ := h_v1.ex Bd
 obtain ⟨v4, h2, h_v2⟩ := h_v2.ex Bd
 unfold E5 at H
 refine Ak (Ae ?_)
 refine ls F W Aa (Ag F Aa).q fun a w F W => ?_
 refine Af (Ad (Ak (Ae ?_)))
 iterate 2 refine ls F W Aa (Ah F Aa).q fun a w F W => ?_
 obtain ⟨x1, h3, H⟩ := Ao H
 refine ls F W Aa (AQ (v := Value.bool x1) F OJ Aa (fun w W => Co any w (v1) (v2) p0 p1 _ h3 (((AU Bd h1 (Aq h_v1)) : CB _ _ _ _ _ _) w W).nx (((AU Bd h2 (Aq h_v2)) : CB _ _ _ _ _ _) w W).nx)) fun a w F W => ?_
 refine ls F W Aa (Ag F Aa).q fun a w F W => ?_
 refine Af (Ad (Aw ?_))
 have H := AG H
 subst H
 refine AE (.inl Aa) F W Aa (Av F Aa) ?_
 exact ⟨rfl, W.done⟩
theorem Pf : Has Try.prog 12 := ⟨fun args w => An Try.func12 rfl (by decide) args w⟩
noncomputable def EX (p0 : Int × Int × Int × Int) : Int → Option (Int ⊕ (Unit ⊕ Bool))
  | x1 => (if x1 < 4 then ((ix ([p0.1, p0.2.1, p0.2.2.1, p0.2.2.2] : List Int) x1).bind fun x3 => (if x3 < 0 then some true else (ix ([p0.1, p0.2.1, p0.2.2.1, p0.2.2.2] : List Int) x1).bind fun x4 => some (decide ((A0 x1) < x4)))).bind fun x2 => (if x2 = true then some (.inr (.inr false)) else some (.inl (CL (x1 + 1)))) else some (.inr (.inl ())))
noncomputable def FS (p0 : Int × Int × Int × Int) : Option Bool := Fw (Bi (EX p0) 0) fun _ => some true
theorem Jo (Y : Nat → Prop) (w0 : World)  (p0 : Int × Int × Int × Int) (r : Bool) (H : FS p0 = some r)  :
    Calls Try.prog 13 #[.agg #[.int .i64 p0.1, .int .i64 p0.2.1, .int .i64 p0.2.2.1, .int .i64 p0.2.2.2]] w0 fun e w' => e = .returned (.bool r) ∧ Below w0.heap.size w0 w' := by
 refine enter Try.func13 Aa Try.ntmps13 Aa fun a F => ?_
 have W := Stw.start Y w0
 unfold FS at H
 refine Ak (Ae ?_)
 refine BT (cs := [.int .i64 p0.1, .int .i64 p0.2.1, .int .i64 p0.2.2.1, .int .i64 p0.2.2.2]) F W Aa Aa Aa fun b1 a w F W => ?_
 refine ls F W Aa (Ag F Aa).q fun a w F W => ?_
 refine Af (Ad ?_)
 obtain ⟨o1, G1, K1, L1⟩ := HR H
 refine AF (fun a w => some (Sum.inl ()) = some o1 ∧ Fr 20 [] [(2, .bool false)] a ∧ Stw ⟨Y, [], w0⟩ [(b1, [.int .i64 p0.1, .int .i64 p0.2.1, .int .i64 p0.2.2.1, .int .i64 p0.2.2.2])] [] w) ?_ ?_
 ·
  have H := G1
  clear G1 K1
  refine Ak (Ae ?_)
  refine ls F W Aa (Ag F Aa).q fun a w F W => ?_
  refine Af (Ad (AC ?_))
  refine Bx H (fun s a w => Fr 20 [] [(1, .pointer (some ⟨b1, 0, none⟩)), (2, .bool false), (3, .int .i64 s)] a ∧ Stw ⟨Y, [], w0⟩ [(b1, [.int .i64 p0.1, .int .i64 p0.2.1, .int .i64 p0.2.2.1, .int .i64 p0.2.2.2])] [] w) ⟨F.re ⟨rfl, Aa, Aa, trivial⟩, W⟩ fun s o a w H L2 hR => ?_
  obtain ⟨x1, rfl⟩ : ∃ x, x = s := ⟨s, rfl⟩
  obtain ⟨F, W⟩ := hR
  have F : Fr 20 [] [(1, .pointer (some ⟨b1, 0, none⟩)), (2, .bool false), (3, .int .i64 x1)] a := F
  have W : Stw ⟨Y, [], w0⟩ [(b1, [.int .i64 p0.1, .int .i64 p0.2.1, .int .i64 p0.2.2.1, .int .i64 p0.2.2.2])] [] w := W
  rw [EX] at H
  refine Ak (Ak (Ae ?_))
  refine ls F W Aa (Ah F Aa).q fun a w F W => ?_
  refine ls F W Aa (BM F Aa Aa).q fun a w F W => ?_
  refine Af (Ad ?_)
  refine AA F Aa (fun hb => ?_) fun hb => ?_
  ·
   have H := AM (Ba hb) H
   rw [hb] at F
   clear hb
   refine Ax (Ad (Ak (AC ?_)))
   obtain ⟨o3, G3, K3⟩ := Ao H
   refine AF (fun a w => ∃ x2 : Bool, some (x2) = some o3 ∧ Fr 20 [] [(1, .pointer (some ⟨b1, 0, none⟩)), (2, .bool false), (3, .int .i64 x1), (19, .bool x2)] a ∧ Stw ⟨Y, [], w0⟩ [(b1, [.int .i64 p0.1, .int .i64 p0.2.1, .int .i64 p0.2.2.1, .int .i64 p0.2.2.2])] [] w) ?_ ?_
   ·
    have H := G3
    clear G3 K3
    refine Cq W MO (by kernel_rfl) ?_
    refine qs F Aa (Ah F Aa).q fun a F => ?_
    obtain ⟨x3, h1, H⟩ := Ao H
    refine qs F Aa (Bn (0 + (x1).toNat * 1) Jj F Aa Aa Aa h1 Aa).q fun a F => ?_
    refine qs F Aa (As (v := Value.int .i64 x3) 0 F Aa Aa T3 (Cd (base := 0) (m := 4) (l := [p0.1, p0.2.1, p0.2.2.1, p0.2.2.2]) (enc := Value.int .i64) Aa h1)).q fun a F => ?_
    refine qs F Aa (BM F Aa Aa).q fun a F => ?_
    refine qs F Aa (Ah F Aa).q fun a F => ?_
    rcases Bool.eq_false_or_eq_true (decide (x3 < 0)) with hb | hb
    ·
     have H := AM (Ba hb) H
     rw [hb] at F
     clear hb
     iterate 6 refine B5 F (BC F Aa Aa Aa Aa Aa) Aa Aa fun a F => ?_
     refine qs F Aa (Az F Aa Aa Aa).q fun a F => ?_
     refine AY fun w W => ?_
     refine Ad ?_
     exact ⟨_, H, F.re ⟨rfl, Aa, Aa, Aa, trivial⟩, W⟩
    have H := AL (A8 hb) H
    rw [hb] at F
    clear hb
    refine BB F (Aj F Aa Aa Aa Aa) Aa (Ap Aa) (Ah F Aa).q fun a F => ?_
    obtain ⟨x4, h2, H⟩ := Ao H
    refine BB F (Aj F Aa Aa Aa Aa) Aa (Ap Aa) (Bn (0 + (x1).toNat * 1) Jj F Aa Aa Aa h2 Aa).q fun a F => ?_
    refine BB F (Aj F Aa Aa Aa Aa) Aa (Ap Aa) (As (v := Value.int .i64 x4) 0 F Aa Aa T3 (Cd (base := 0) (m := 4) (l := [p0.1, p0.2.1, p0.2.2.1, p0.2.2.2]) (enc := Value.int .i64) Aa h2)).q fun a F => ?_
    refine BB F (Aj F Aa Aa Aa Aa) Aa (Ap Aa) (Ah F Aa).q fun a F => ?_
    refine BB F (Aj F Aa Aa Aa Aa) Aa (Ap Aa) (AQ (v := Value.int .i64 (A0 x1)) F Np Aa (fun w W => FO any w x1 _ Aa)) fun a F => ?_
    refine BB F (Aj F Aa Aa Aa Aa) Aa (Ap Aa) (Fy F Aa Aa).q fun a F => ?_
    refine qs F Aa (Au F Aa Aa Aa).q fun a F => ?_
    refine AY fun w W => ?_
    refine Ad ?_
    exact ⟨_, H, F.re ⟨rfl, Aa, Aa, Aa, trivial⟩, W⟩
   rintro a w ⟨x2, hj, F, W⟩
   have hj := AG hj
   subst hj
   have H := K3
   clear G3 K3
   refine AA F Aa (fun hb => ?_) fun hb => ?_
   ·
    have H := AM hb H
    rw [hb] at F
    clear hb
    refine Ak (Ae ?_)
    refine ls F W Aa (Ag F Aa).q fun a w F W => ?_
    refine Af (Ad (Aw (AJ ?_)))
    iterate 2 refine AD ?_
    refine AJ (AD ?_)
    have H := L2 _ H
    have H := L1 _ H
    have H := AG H
    subst H
    refine AE (.inl Aa) F W Aa (Av F Aa) ?_
    exact ⟨rfl, W.done⟩
   have H := AL (by rw [hb]; decide) H
   rw [hb] at F
   clear hb
   refine Ax (AS (Ad (Ae ?_)))
   refine ls F W Aa (Ah F Aa).q fun a w F W => ?_
   refine ls F W Aa (Cf F Aa Aa Aa).q fun a w F W => ?_
   refine ls F W Aa (Ag F Aa).q fun a w F W => ?_
   refine Af (Ad ?_)
   exact ⟨_, H, F.re ⟨rfl, Aa, Aa, trivial⟩, W⟩
  have H := AL (A8 hb) H
  rw [hb] at F
  clear hb
  refine Bz ?_
  iterate 2 refine B1 ?_
  refine BA (Ad ?_)
  have H := L2 _ H
  exact ⟨H, F.re ⟨rfl, trivial⟩, W⟩
 rintro a w ⟨hj, F, W⟩
 have H := K1 _ hj
 clear hj G1 K1 L1
 refine Ak (Ae ?_)
 refine ls F W Aa (Ag F Aa).q fun a w F W => ?_
 refine Af (Ad (Aw ?_))
 have H := AG H
 subst H
 refine AE (.inl Aa) F W Aa (Av F Aa) ?_
 exact ⟨rfl, W.done⟩
end Go.Proofs.Ytkjjioigbpkifaa
