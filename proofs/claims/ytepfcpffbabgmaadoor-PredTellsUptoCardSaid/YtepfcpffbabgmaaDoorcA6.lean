/- The functions of layer 26, Gx. Conditions: none. -/
import Derived.Test.YtepfcpffbabgmaaDoorcA5
namespace Go.Proofs.YtepfcpffbabgmaaDoor
open Go Go.RowKit
set_option linter.unusedVariables false
set_option linter.unusedSimpArgs false
set_option maxRecDepth 20000
theorem Ss : Has Tryd.prog 15 := ⟨fun args w => Ao Tryd.func15 rfl (by decide) args w⟩
noncomputable def Eg (fRec : Tr24 → Tr24 → Option Bool) (p0 : Tr24) (p1 : Tr24) : Int → Option (Int ⊕ (Unit ⊕ Bool))
  | x1 => (if x1 < (p0.un.2.2.2.length : Int) then (ix p0.un.2.2.2 x1).bind fun x2 => (ix p1.un.2.2.2 x1).bind fun x3 => (fRec x2 x3).bind fun x4 => (if (!x4) = true then some (.inr (.inr false)) else some (.inl (A1 (x1 + 1)))) else some (.inr (.inl ())))
noncomputable def Eo (fRec : Tr24 → Tr24 → Option Bool) (p0 : Tr24) (p1 : Tr24) : Option Bool := (if (decide (p0.un.1 ≠ p1.un.1) || (decide (p0.un.2.1 ≠ p1.un.2.1) || (decide (p0.un.2.2.1 ≠ p1.un.2.2.1) || decide ((p0.un.2.2.2.length : Int) ≠ (p1.un.2.2.2.length : Int))))) = true then some false else IX (A3 (Eg fRec p0 p1) 0) fun _ => some true)
noncomputable def D1 : Nat → Tr24 → Tr24 → Option Bool
  | 0 => fun _ _ => none
  | n + 1 => Eo (D1 n)
noncomputable def HZ (p0 : Tr24) (p1 : Tr24) : Option Bool := Fx fun n => D1 n p0 p1
theorem MN (fRec : Tr24 → Tr24 → Option Bool) (ih : ∀ (Y : Nat → Prop) (w0 : World) (v1 : Value) (v2 : Value) (p0 : Tr24) (p1 : Tr24) (r : Bool) (H : fRec p0 p1 = some r) (h_v1 : Sl w0 (NX []) CJ v1 p0.un.2.2.2) (h_v2 : Sl w0 (NX []) CJ v2 p1.un.2.2.2), Calls Tryd.prog 15 #[.agg #[.int .i64 p0.un.1, .int .i64 p0.un.2.1, .int .i64 p0.un.2.2.1, v1], .agg #[.int .i64 p1.un.1, .int .i64 p1.un.2.1, .int .i64 p1.un.2.2.1, v2]] w0 fun e w' => e = .returned (.bool r) ∧ Below w0.heap.size w0 w') (Y : Nat → Prop) (w0 : World) (v1 : Value) (v2 : Value) (p0 : Tr24) (p1 : Tr24) (r : Bool) (H : Eo fRec p0 p1 = some r) (h_v1 : Sl w0 (NX []) CJ v1 p0.un.2.2.2) (h_v2 : Sl w0 (NX []) CJ v2 p1.un.2.2.2) :
    Calls Tryd.prog 15 #[.agg #[.int .i64 p0.un.1, .int .i64 p0.un.2.1, .int .i64 p0.un.2.2.1, v1], .agg #[.int .i64 p1.un.1, .int .i64 p1.un.2.1, .int .i64 p1.un.2.2.1, v2]] w0 fun e w' => e = .returned (.bool r) ∧ Below w0.heap.size w0 w' := by
 refine enter Tryd.func15 Aa Tryd.ntmps15 Aa fun a F => ?_
 have W := Stw.start Y w0
 obtain ⟨v3, h1, h_v1⟩ := h_v1.ex C7
 obtain ⟨v4, h2, h_v2⟩ := h_v2.ex C7
 unfold Eo at H
 refine Aj (Ae ?_)
 refine C5 (cs := [.int .i64 p0.un.1, .int .i64 p0.un.2.1, .int .i64 p0.un.2.2.1, v1]) F W Aa Aa Aa fun b1 a w F W => ?_
 refine C5 (cs := [.int .i64 p1.un.1, .int .i64 p1.un.2.1, .int .i64 p1.un.2.2.1, v2]) F W Aa Aa Aa fun b2 a w F W => ?_
 refine ls F W Aa (Ah F Aa).q fun a w F W => ?_
 refine Ag (Ad (Aj ?_))
 refine AO (fun a w => Fr 53 [] [(2, .pointer (some ⟨b1, 0, none⟩)), (3, .pointer (some ⟨b2, 0, none⟩)), (4, .bool false), (33, .bool (decide (p0.un.1 ≠ p1.un.1) || (decide (p0.un.2.1 ≠ p1.un.2.1) || (decide (p0.un.2.2.1 ≠ p1.un.2.2.1) || decide ((p0.un.2.2.2.length : Int) ≠ (p1.un.2.2.2.length : Int))))))] a ∧ Stw ⟨Y, [], w0⟩ [(b2, [.int .i64 p1.un.1, .int .i64 p1.un.2.1, .int .i64 p1.un.2.2.1, v2]), (b1, [.int .i64 p0.un.1, .int .i64 p0.un.2.1, .int .i64 p0.un.2.2.1, v1])] [] w) ?_ ?_
 ·
  refine Ae ?_
  refine ls F W Aa (Ak BZ Aa Aa Aa T3 F Aa 0 Aa).q fun a w F W => ?_
  refine ls F W Aa (Aq (v := Value.int .i64 p0.un.1) 1 F Aa Aa T3 Aa).q fun a w F W => ?_
  refine ls F W Aa (Ak BZ Aa Aa Aa T3 F Aa 0 Aa).q fun a w F W => ?_
  refine ls F W Aa (Aq (v := Value.int .i64 p1.un.1) 0 F Aa Aa T3 Aa).q fun a w F W => ?_
  refine ls F W Aa (E7 F Aa Aa).q fun a w F W => ?_
  refine ls F W Aa (Ai F Aa).q fun a w F W => ?_
  rcases Bool.eq_false_or_eq_true (decide (p0.un.1 ≠ p1.un.1)) with hb0 | hb0
  ·
   rw [hb0] at F
   iterate 5 refine CD F Aa Aa Aa Aa Aa Aa Aa fun a F => ?_
   refine ls F W Aa (Au F Aa Aa Aa).q fun a w F W => ?_
   refine ls F W Aa (Ai F Aa).q fun a w F W => ?_
   iterate 5 refine CD F Aa Aa Aa Aa Aa Aa Aa fun a F => ?_
   refine ls F W Aa (Au F Aa Aa Aa).q fun a w F W => ?_
   refine ls F W Aa (Ai F Aa).q fun a w F W => ?_
   iterate 7 refine CD F Aa Aa Aa Aa Aa Aa Aa fun a F => ?_
   refine ls F W Aa (Au F Aa Aa Aa).q fun a w F W => ?_
   refine Ag (Ad ?_)
   exact ⟨F.re ⟨rfl, Aa, Aa, (by show some (Value.bool true) = some (Value.bool (decide (p0.un.1 ≠ p1.un.1) || (decide (p0.un.2.1 ≠ p1.un.2.1) || (decide (p0.un.2.2.1 ≠ p1.un.2.2.1) || decide ((p0.un.2.2.2.length : Int) ≠ (p1.un.2.2.2.length : Int)))))); try rw [hb0]; all_goals simp only [Bool.not_true, Bool.not_false, Bool.true_and, Bool.false_and, Bool.true_or, Bool.false_or, Bool.and_true, Bool.or_false, cond_true, cond_false]), trivial⟩, W⟩
  rw [hb0] at F
  refine AL F W (Af F Aa Aa Aa Aa) Aa (An Aa) (Ak BZ Aa Aa Aa T3 F Aa 1 Aa).q fun a w F W => ?_
  refine AL F W (Af F Aa Aa Aa Aa) Aa (An Aa) (Aq (v := Value.int .i64 p0.un.2.1) 1 F Aa Aa T3 Aa).q fun a w F W => ?_
  refine AL F W (Af F Aa Aa Aa Aa) Aa (An Aa) (Ak BZ Aa Aa Aa T3 F Aa 1 Aa).q fun a w F W => ?_
  refine AL F W (Af F Aa Aa Aa Aa) Aa (An Aa) (Aq (v := Value.int .i64 p1.un.2.1) 0 F Aa Aa T3 Aa).q fun a w F W => ?_
  refine AL F W (Af F Aa Aa Aa Aa) Aa (An Aa) (E7 F Aa Aa).q fun a w F W => ?_
  refine ls F W Aa (As F Aa Aa Aa).q fun a w F W => ?_
  refine ls F W Aa (Ai F Aa).q fun a w F W => ?_
  rcases Bool.eq_false_or_eq_true (decide (p0.un.2.1 ≠ p1.un.2.1)) with hb1 | hb1
  ·
   rw [hb1] at F
   iterate 5 refine CD F Aa Aa Aa Aa Aa Aa Aa fun a F => ?_
   refine ls F W Aa (Au F Aa Aa Aa).q fun a w F W => ?_
   refine ls F W Aa (Ai F Aa).q fun a w F W => ?_
   iterate 7 refine CD F Aa Aa Aa Aa Aa Aa Aa fun a F => ?_
   refine ls F W Aa (Au F Aa Aa Aa).q fun a w F W => ?_
   refine Ag (Ad ?_)
   exact ⟨F.re ⟨rfl, Aa, Aa, (by show some (Value.bool true) = some (Value.bool (decide (p0.un.1 ≠ p1.un.1) || (decide (p0.un.2.1 ≠ p1.un.2.1) || (decide (p0.un.2.2.1 ≠ p1.un.2.2.1) || decide ((p0.un.2.2.2.length : Int) ≠ (p1.un.2.2.2.length : Int)))))); try rw [hb1]; try rw [hb0]; all_goals simp only [Bool.not_true, Bool.not_false, Bool.true_and, Bool.false_and, Bool.true_or, Bool.false_or, Bool.and_true, Bool.or_false, cond_true, cond_false]), trivial⟩, W⟩
  rw [hb1] at F
  refine AL F W (Af F Aa Aa Aa Aa) Aa (An Aa) (Ak BZ Aa Aa Aa T3 F Aa 2 Aa).q fun a w F W => ?_
  refine AL F W (Af F Aa Aa Aa Aa) Aa (An Aa) (Aq (v := Value.int .i64 p0.un.2.2.1) 1 F Aa Aa T3 Aa).q fun a w F W => ?_
  refine AL F W (Af F Aa Aa Aa Aa) Aa (An Aa) (Ak BZ Aa Aa Aa T3 F Aa 2 Aa).q fun a w F W => ?_
  refine AL F W (Af F Aa Aa Aa Aa) Aa (An Aa) (Aq (v := Value.int .i64 p1.un.2.2.1) 0 F Aa Aa T3 Aa).q fun a w F W => ?_
  refine AL F W (Af F Aa Aa Aa Aa) Aa (An Aa) (E7 F Aa Aa).q fun a w F W => ?_
  refine ls F W Aa (As F Aa Aa Aa).q fun a w F W => ?_
  refine ls F W Aa (Ai F Aa).q fun a w F W => ?_
  rcases Bool.eq_false_or_eq_true (decide (p0.un.2.2.1 ≠ p1.un.2.2.1)) with hb2 | hb2
  ·
   rw [hb2] at F
   iterate 7 refine CD F Aa Aa Aa Aa Aa Aa Aa fun a F => ?_
   refine ls F W Aa (Au F Aa Aa Aa).q fun a w F W => ?_
   refine Ag (Ad ?_)
   exact ⟨F.re ⟨rfl, Aa, Aa, (by show some (Value.bool true) = some (Value.bool (decide (p0.un.1 ≠ p1.un.1) || (decide (p0.un.2.1 ≠ p1.un.2.1) || (decide (p0.un.2.2.1 ≠ p1.un.2.2.1) || decide ((p0.un.2.2.2.length : Int) ≠ (p1.un.2.2.2.length : Int)))))); try rw [hb2]; try rw [hb1]; try rw [hb0]; all_goals simp only [Bool.not_true, Bool.not_false, Bool.true_and, Bool.false_and, Bool.true_or, Bool.false_or, Bool.and_true, Bool.or_false, cond_true, cond_false]), trivial⟩, W⟩
  rw [hb2] at F
  refine AL F W (Af F Aa Aa Aa Aa) Aa (An Aa) (Ak BZ Aa Aa Aa ER F Aa 3 Aa).q fun a w F W => ?_
  refine AL F W (Af F Aa Aa Aa Aa) Aa (An Aa) (Aq (v := v1) 1 F Aa Aa ER Aa).q fun a w F W => ?_
  refine AL F W (Af F Aa Aa Aa Aa) Aa (An Aa) (CT (r := CJ) (l := p0.un.2.2.2) ID Aa F Aa (AP C7 h1 (Av h_v1))).q fun a w F W => ?_
  refine AL F W (Af F Aa Aa Aa Aa) Aa (An Aa) (Ak BZ Aa Aa Aa ER F Aa 3 Aa).q fun a w F W => ?_
  refine AL F W (Af F Aa Aa Aa Aa) Aa (An Aa) (Aq (v := v2) 0 F Aa Aa ER Aa).q fun a w F W => ?_
  refine AL F W (Af F Aa Aa Aa Aa) Aa (An Aa) (CT (r := CJ) (l := p1.un.2.2.2) ID Aa F Aa (AP C7 h2 (Av h_v2))).q fun a w F W => ?_
  refine AL F W (Af F Aa Aa Aa Aa) Aa (An Aa) (E7 F Aa Aa).q fun a w F W => ?_
  refine ls F W Aa (As F Aa Aa Aa).q fun a w F W => ?_
  refine Ag (Ad ?_)
  exact ⟨F.re ⟨rfl, Aa, Aa, (by show some (Value.bool (decide ((p0.un.2.2.2.length : Int) ≠ (p1.un.2.2.2.length : Int)))) = some (Value.bool (decide (p0.un.1 ≠ p1.un.1) || (decide (p0.un.2.1 ≠ p1.un.2.1) || (decide (p0.un.2.2.1 ≠ p1.un.2.2.1) || decide ((p0.un.2.2.2.length : Int) ≠ (p1.un.2.2.2.length : Int)))))); try rw [hb2]; try rw [hb1]; try rw [hb0]; all_goals simp only [Bool.not_true, Bool.not_false, Bool.true_and, Bool.false_and, Bool.true_or, Bool.false_or, Bool.and_true, Bool.or_false, cond_true, cond_false]), trivial⟩, W⟩
 rintro a w ⟨F, W⟩
 refine Ay F Aa (fun hb => ?_) fun hb => ?_
 ·
  have H := AW hb H
  rw [hb] at F
  clear hb
  refine Aj (Ae ?_)
  refine ls F W Aa (Ah F Aa).q fun a w F W => ?_
  refine Ag (Ad (Az (AR ?_)))
  have H := AM H
  subst H
  refine AQ (.inl Aa) F W Aa (AD F Aa) ?_
  exact ⟨rfl, W.done⟩
 have H := AX (by rw [hb]; decide) H
 rw [hb] at F
 clear hb
 refine Aw (Ad ?_)
 obtain ⟨o1, G1, K1, L1⟩ := OP H
 refine AO (fun a w => some (Sum.inl ()) = some o1 ∧ Fr 53 [] [(4, .bool false)] a ∧ Stw ⟨Y, [], w0⟩ [(b2, [.int .i64 p1.un.1, .int .i64 p1.un.2.1, .int .i64 p1.un.2.2.1, v2]), (b1, [.int .i64 p0.un.1, .int .i64 p0.un.2.1, .int .i64 p0.un.2.2.1, v1])] [] w) ?_ ?_
 ·
  have H := G1
  clear G1 K1
  refine Aj (Ae ?_)
  refine ls F W Aa (Ah F Aa).q fun a w F W => ?_
  refine Ag (Ad (AA ?_))
  have W := W.frontM (i := 1) Aa Aa
  have W := W.frontM (i := 1) Aa Aa
  refine BI H (fun s a w => Fr 53 [] [(2, .pointer (some ⟨b1, 0, none⟩)), (3, .pointer (some ⟨b2, 0, none⟩)), (4, .bool false), (5, .int .i64 s)] a ∧ Stw ⟨Y, [], w0⟩ [(b2, [.int .i64 p1.un.1, .int .i64 p1.un.2.1, .int .i64 p1.un.2.2.1, v2]), (b1, [.int .i64 p0.un.1, .int .i64 p0.un.2.1, .int .i64 p0.un.2.2.1, v1])] [] w) ⟨F.re ⟨rfl, Aa, Aa, Aa, trivial⟩, W⟩ fun s o a w H L2 hR => ?_
  obtain ⟨x1, rfl⟩ : ∃ x, x = s := ⟨s, rfl⟩
  obtain ⟨F, W⟩ := hR
  have F : Fr 53 [] [(2, .pointer (some ⟨b1, 0, none⟩)), (3, .pointer (some ⟨b2, 0, none⟩)), (4, .bool false), (5, .int .i64 x1)] a := F
  have W : Stw ⟨Y, [], w0⟩ [(b2, [.int .i64 p1.un.1, .int .i64 p1.un.2.1, .int .i64 p1.un.2.2.1, v2]), (b1, [.int .i64 p0.un.1, .int .i64 p0.un.2.1, .int .i64 p0.un.2.2.1, v1])] [] w := W
  rw [Eg] at H
  refine Aj (Aj (Ae ?_))
  refine ls F W Aa (Ai F Aa).q fun a w F W => ?_
  refine ls F W Aa (Ak BZ Aa Aa Aa ER F Aa 3 Aa).q fun a w F W => ?_
  refine ls F W Aa (Aq (v := v1) 1 F Aa Aa ER Aa).q fun a w F W => ?_
  refine ls F W Aa (CT (r := CJ) (l := p0.un.2.2.2) ID Aa F Aa (AP C7 h1 (Av h_v1))).q fun a w F W => ?_
  refine ls F W Aa (Cy F Aa Aa).q fun a w F W => ?_
  refine Ag (Ad ?_)
  refine Ay F Aa (fun hb => ?_) fun hb => ?_
  ·
   have H := AW (Bm hb) H
   rw [hb] at F
   clear hb
   refine Aw (Ad (Aj (AA (Aj ?_))))
   refine BS W MO (by kernel_rfl) ?_
   refine qs F Aa (Ak BZ Aa Aa Aa ER F Aa 3 Aa).q fun a F => ?_
   refine qs F Aa (Aq (v := v1) 1 F Aa Aa ER Aa).q fun a F => ?_
   refine qs F Aa (Ai F Aa).q fun a F => ?_
   obtain ⟨x2, h3, H⟩ := Am H
   obtain ⟨v5, h4, h5⟩ := DL h1 h3
   have h6 : E5 v5 = [.int .i64 x2.un.1, .int .i64 x2.un.2.1, .int .i64 x2.un.2.2.1, (v5.2.2.2.1)] := congrArg (fun q : Tr24 => ([.int .i64 q.un.1, .int .i64 q.un.2.1, .int .i64 q.un.2.2.1, (v5.2.2.2.1)] : List Value)) h5
   refine qs F Aa (AG (r := Gd) KF F Aa Aa (Av h_v1) h4).q fun a F => ?_
   refine qs F Aa (Ax (y := Value.agg #[.int .i64 x2.un.1, .int .i64 x2.un.2.1, .int .i64 x2.un.2.2.1, (v5.2.2.2.1)]) (j := 0) (i := x1) (enc := E5) F Aa Aa (Av h_v1) h4 Id FC (by rw [h6]; rfl)).q fun a F => ?_
   refine qs F Aa (Ak BZ Aa Aa Aa ER F Aa 3 Aa).q fun a F => ?_
   refine qs F Aa (Aq (v := v2) 0 F Aa Aa ER Aa).q fun a F => ?_
   refine qs F Aa (Ai F Aa).q fun a F => ?_
   obtain ⟨x3, h7, H⟩ := Am H
   obtain ⟨v6, h8, h9⟩ := DL h2 h7
   have h10 : E5 v6 = [.int .i64 x3.un.1, .int .i64 x3.un.2.1, .int .i64 x3.un.2.2.1, (v6.2.2.2.1)] := congrArg (fun q : Tr24 => ([.int .i64 q.un.1, .int .i64 q.un.2.1, .int .i64 q.un.2.2.1, (v6.2.2.2.1)] : List Value)) h9
   refine qs F Aa (AG (r := Gd) KF F Aa Aa (Av h_v2) h8).q fun a F => ?_
   refine qs F Aa (Ax (y := Value.agg #[.int .i64 x3.un.1, .int .i64 x3.un.2.1, .int .i64 x3.un.2.2.1, (v6.2.2.2.1)]) (j := 0) (i := x1) (enc := E5) F Aa Aa (Av h_v2) h8 Id FC (by rw [h10]; rfl)).q fun a F => ?_
   obtain ⟨x4, h11, H⟩ := Am H
   refine qs F Aa (AU (v := Value.bool x4) F Ss Aa (fun w W => ih any w ((v5.2.2.2.1)) ((v6.2.2.2.1)) x2 x3 _ h11 (((CG (Av h_v1) h4 (A5.snd (A5.snd (A5.snd A5.here))) (congrArg (fun q : Tr24 => q.un.2.2.2) h5)) : EC _ _ _ _ _ _) w W).nx (((CG (Av h_v2) h8 (A5.snd (A5.snd (A5.snd A5.here))) (congrArg (fun q : Tr24 => q.un.2.2.2) h9)) : EC _ _ _ _ _ _) w W).nx)) fun a F => ?_
   refine qs F Aa (ET F Aa).q fun a F => ?_
   refine A2 fun w W => ?_
   refine Ad ?_
   refine Ay F Aa (fun hb => ?_) fun hb => ?_
   ·
    have H := AW hb H
    rw [hb] at F
    clear hb
    refine Aj (Ae ?_)
    refine ls F W Aa (Ah F Aa).q fun a w F W => ?_
    refine Ag (Ad (Az (Bk ?_)))
    iterate 2 refine AR ?_
    refine Bk (AR ?_)
    have H := L2 _ H
    have H := L1 _ H
    have H := AM H
    subst H
    refine AQ (.inl Aa) F W Aa (AD F Aa) ?_
    exact ⟨rfl, W.done⟩
   have H := AX (by rw [hb]; decide) H
   rw [hb] at F
   clear hb
   refine Aw (A8 (Ad (Ae ?_)))
   refine ls F W Aa (Ai F Aa).q fun a w F W => ?_
   refine ls F W Aa (BC F Aa Aa Aa).q fun a w F W => ?_
   refine ls F W Aa (Ah F Aa).q fun a w F W => ?_
   refine Ag (Ad ?_)
   have W := W.frontM (i := 1) Aa Aa
   have W := W.frontM (i := 1) Aa Aa
   exact ⟨_, H, F.re ⟨rfl, Aa, Aa, Aa, trivial⟩, W⟩
  have H := AX (Bl hb) H
  rw [hb] at F
  clear hb
  refine Bx ?_
  iterate 2 refine BO ?_
  refine Bz (Ad ?_)
  have W := W.frontM (i := 1) Aa Aa
  have W := W.frontM (i := 1) Aa Aa
  have H := L2 _ H
  exact ⟨H, F.re ⟨rfl, trivial⟩, W⟩
 rintro a w ⟨hj, F, W⟩
 have H := K1 _ hj
 clear hj G1 K1 L1
 refine Aj (Ae ?_)
 refine ls F W Aa (Ah F Aa).q fun a w F W => ?_
 refine Ag (Ad (Az ?_))
 have H := AM H
 subst H
 refine AQ (.inl Aa) F W Aa (AD F Aa) ?_
 exact ⟨rfl, W.done⟩
theorem Ny : ∀ (n : Nat) (Y : Nat → Prop) (w0 : World) (v1 : Value) (v2 : Value) (p0 : Tr24) (p1 : Tr24) (r : Bool) (H : D1 n p0 p1 = some r) (h_v1 : Sl w0 (NX []) CJ v1 p0.un.2.2.2) (h_v2 : Sl w0 (NX []) CJ v2 p1.un.2.2.2), Calls Tryd.prog 15 #[.agg #[.int .i64 p0.un.1, .int .i64 p0.un.2.1, .int .i64 p0.un.2.2.1, v1], .agg #[.int .i64 p1.un.1, .int .i64 p1.un.2.1, .int .i64 p1.un.2.2.1, v2]] w0 fun e w' => e = .returned (.bool r) ∧ Below w0.heap.size w0 w' := by
  intro n
  induction n with
  | zero => intro Y w0 v1 v2 p0 p1 r H; exact nomatch H
  | succ n ih => intro Y w0 v1 v2 p0 p1 r H h_v1 h_v2; exact MN (D1 n) ih Y w0 v1 v2 p0 p1 r H h_v1 h_v2
theorem Kp (Y : Nat → Prop) (w0 : World) (v1 : Value) (v2 : Value) (p0 : Tr24) (p1 : Tr24) (r : Bool) (H : HZ p0 p1 = some r) (h_v1 : Sl w0 (NX []) CJ v1 p0.un.2.2.2) (h_v2 : Sl w0 (NX []) CJ v2 p1.un.2.2.2) :
    Calls Tryd.prog 15 #[.agg #[.int .i64 p0.un.1, .int .i64 p0.un.2.1, .int .i64 p0.un.2.2.1, v1], .agg #[.int .i64 p1.un.1, .int .i64 p1.un.2.1, .int .i64 p1.un.2.2.1, v2]] w0 fun e w' => e = .returned (.bool r) ∧ Below w0.heap.size w0 w' := by
  obtain ⟨n, H⟩ := Cs H
  exact Ny n Y w0 v1 v2 p0 p1 r H h_v1 h_v2
theorem Sp : Has Tryd.prog 17 := ⟨fun args w => Ao Tryd.func17 rfl (by decide) args w⟩
noncomputable def Dq (fRec : Tr24 → Int → Int → (Int × Int × Int × Int) → Option Bool) (p0 : Tr24) (p1 : Int) (p2 : Int) (p3 : Int × Int × Int × Int) : (Int × Int) → Option ((Int × Int) ⊕ Int)
  | (x7, x8) => (if x8 < (p0.un.2.2.2.length : Int) then ((ix p0.un.2.2.2 x8).bind fun x10 => (fRec x10 p1 p2 p3).bind fun x11 => (if x11 = true then some (A1 (x7 + 1)) else some x7)).bind fun x9 => some (.inl (x9, A1 (x8 + 1))) else some (.inr x7))
noncomputable def Ej (fRec : Tr24 → Int → Int → (Int × Int × Int × Int) → Option Bool) (p0 : Tr24) (p1 : Int) (p2 : Int) (p3 : Int × Int × Int × Int) : Option Bool := (if p0.un.1 = 1 then some true else (if p0.un.1 = 3 then (if 0 ≤ p0.un.2.1 then (if p0.un.2.1 < 6 then (Ib p0.un.2.1 p1 p2 p3).bind fun x2 => some (decide (x2 = p0.un.2.2.1)) else some false) else some false).bind fun x1 => some x1 else (if p0.un.1 = 4 then (if 0 < (p0.un.2.2.2.length : Int) then (ix p0.un.2.2.2 0).bind fun x4 => (fRec x4 p1 p2 p3).bind fun x5 => some (!x5) else some false).bind fun x3 => some x3 else (A3 (Dq fRec p0 p1 p2 p3) (0, 0)).bind fun x6 => some (bif decide (p0.un.1 = 5) then (decide (x6 = (p0.un.2.2.2.length : Int)) || (decide (p0.un.1 = 6) && decide (0 < x6))) else (decide (p0.un.1 = 6) && decide (0 < x6))))))
noncomputable def Dv : Nat → Tr24 → Int → Int → (Int × Int × Int × Int) → Option Bool
  | 0 => fun _ _ _ _ => none
  | n + 1 => Ej (Dv n)
noncomputable def Ln (p0 : Tr24) (p1 : Int) (p2 : Int) (p3 : Int × Int × Int × Int) : Option Bool := Fx fun n => Dv n p0 p1 p2 p3
theorem Mn (fRec : Tr24 → Int → Int → (Int × Int × Int × Int) → Option Bool) (ih : ∀ (Y : Nat → Prop) (w0 : World) (v1 : Value) (p0 : Tr24) (p1 : Int) (p2 : Int) (p3 : Int × Int × Int × Int) (r : Bool) (H : fRec p0 p1 p2 p3 = some r) (h_v1 : Sl w0 (NX []) CJ v1 p0.un.2.2.2), Calls Tryd.prog 17 #[.agg #[.int .i64 p0.un.1, .int .i64 p0.un.2.1, .int .i64 p0.un.2.2.1, v1], .int .i64 p1, .int .i64 p2, .agg #[.int .i64 p3.1, .int .i64 p3.2.1, .int .i64 p3.2.2.1, .int .i64 p3.2.2.2]] w0 fun e w' => e = .returned (.bool r) ∧ Below w0.heap.size w0 w') (Y : Nat → Prop) (w0 : World) (v1 : Value) (p0 : Tr24) (p1 : Int) (p2 : Int) (p3 : Int × Int × Int × Int) (r : Bool) (H : Ej fRec p0 p1 p2 p3 = some r) (h_v1 : Sl w0 (NX []) CJ v1 p0.un.2.2.2) :
    Calls Tryd.prog 17 #[.agg #[.int .i64 p0.un.1, .int .i64 p0.un.2.1, .int .i64 p0.un.2.2.1, v1], .int .i64 p1, .int .i64 p2, .agg #[.int .i64 p3.1, .int .i64 p3.2.1, .int .i64 p3.2.2.1, .int .i64 p3.2.2.2]] w0 fun e w' => e = .returned (.bool r) ∧ Below w0.heap.size w0 w' := by
 refine enter Tryd.func17 Aa Tryd.ntmps17 Aa fun a F => ?_
 have W := Stw.start Y w0
 obtain ⟨v2, h1, h_v1⟩ := h_v1.ex C7
 unfold Ej at H
 refine Aj (Ae ?_)
 refine C5 (cs := [.int .i64 p0.un.1, .int .i64 p0.un.2.1, .int .i64 p0.un.2.2.1, v1]) F W Aa Aa Aa fun b1 a w F W => ?_
 refine C5 (cs := [.int .i64 p3.1, .int .i64 p3.2.1, .int .i64 p3.2.2.1, .int .i64 p3.2.2.2]) F W Aa Aa Aa fun b2 a w F W => ?_
 refine ls F W Aa (Ah F Aa).q fun a w F W => ?_
 refine Ag (Ad (Aj (Aj (Ae ?_))))
 refine ls F W Aa (Ak BZ Aa Aa Aa T3 F Aa 0 Aa).q fun a w F W => ?_
 refine ls F W Aa (Aq (v := Value.int .i64 p0.un.1) 1 F Aa Aa T3 Aa).q fun a w F W => ?_
 refine ls F W Aa (Bq F Aa Aa).q fun a w F W => ?_
 refine Ag (Ad ?_)
 refine Ay F Aa (fun hb => ?_) fun hb => ?_
 ·
  have H := AW (Bm hb) H
  rw [hb] at F
  clear hb
  refine Aj (Ae ?_)
  refine ls F W Aa (Ah F Aa).q fun a w F W => ?_
  refine Ag (Ad (Az (AR ?_)))
  have H := AM H
  subst H
  refine AQ (.inl Aa) F W Aa (AD F Aa) ?_
  exact ⟨rfl, W.done⟩
 have H := AX (Bl hb) H
 rw [hb] at F
 clear hb
 refine Aw (Ad (Aj (Aj (Ae ?_))))
 refine ls F W Aa (Ak BZ Aa Aa Aa T3 F Aa 0 Aa).q fun a w F W => ?_
 refine ls F W Aa (Aq (v := Value.int .i64 p0.un.1) 1 F Aa Aa T3 Aa).q fun a w F W => ?_
 refine ls F W Aa (Bq F Aa Aa).q fun a w F W => ?_
 refine Ag (Ad ?_)
 refine Ay F Aa (fun hb => ?_) fun hb => ?_
 ·
  have H := AW (Bm hb) H
  rw [hb] at F
  clear hb
  obtain ⟨o1, G1, K1⟩ := Am H
  refine AO (fun a w => ∃ x1 : Bool, some (x1) = some o1 ∧ Fr 91 [] [(1, .int .i64 p1), (2, .int .i64 p2), (4, .pointer (some ⟨b1, 0, none⟩)), (7, .pointer (some ⟨b2, 0, none⟩)), (8, .bool x1)] a ∧ Stw ⟨Y, [], w0⟩ [(b2, [.int .i64 p3.1, .int .i64 p3.2.1, .int .i64 p3.2.2.1, .int .i64 p3.2.2.2]), (b1, [.int .i64 p0.un.1, .int .i64 p0.un.2.1, .int .i64 p0.un.2.2.1, v1])] [] w) ?_ ?_
  ·
   have H := G1
   clear G1 K1
   refine BS W MO (by kernel_rfl) ?_
   refine qs F Aa (Ak BZ Aa Aa Aa T3 F Aa 1 Aa).q fun a F => ?_
   refine qs F Aa (Aq (v := Value.int .i64 p0.un.2.1) 1 F Aa Aa T3 Aa).q fun a F => ?_
   refine qs F Aa (D6 F Aa Aa).q fun a F => ?_
   refine qs F Aa (Ai F Aa).q fun a F => ?_
   rcases Bool.eq_false_or_eq_true (decide (0 ≤ p0.un.2.1)) with hb | hb
   ·
    have H := AW (Bm hb) H
    rw [hb] at F
    clear hb
    refine Bi F (Af F Aa Aa Aa Aa) Aa (An Aa) (Ak BZ Aa Aa Aa T3 F Aa 1 Aa).q fun a F => ?_
    refine Bi F (Af F Aa Aa Aa Aa) Aa (An Aa) (Aq (v := Value.int .i64 p0.un.2.1) 1 F Aa Aa T3 Aa).q fun a F => ?_
    refine Bi F (Af F Aa Aa Aa Aa) Aa (An Aa) (Cy F Aa Aa).q fun a F => ?_
    refine qs F Aa (Au F Aa Aa Aa).q fun a F => ?_
    refine qs F Aa (Ai F Aa).q fun a F => ?_
    rcases Bool.eq_false_or_eq_true (decide (p0.un.2.1 < 6)) with hb | hb
    ·
     have H := AW (Bm hb) H
     rw [hb] at F
     clear hb
     refine Bi F (Af F Aa Aa Aa Aa) Aa (An Aa) (Ak BZ Aa Aa Aa T3 F Aa 1 Aa).q fun a F => ?_
     refine Bi F (Af F Aa Aa Aa Aa) Aa (An Aa) (Aq (v := Value.int .i64 p0.un.2.1) 1 F Aa Aa T3 Aa).q fun a F => ?_
     iterate 2 refine Bi F (Af F Aa Aa Aa Aa) Aa (An Aa) (Ai F Aa).q fun a F => ?_
     refine Bi F (Af F Aa Aa Aa Aa) Aa (An Aa) (Aq (v := Value.agg #[.int .i64 p3.1, .int .i64 p3.2.1, .int .i64 p3.2.2.1, .int .i64 p3.2.2.2]) 0 F Aa Aa Qh Aa).q fun a F => ?_
     obtain ⟨x2, h2, H⟩ := Am H
     refine Bi F (Af F Aa Aa Aa Aa) Aa (An Aa) (AU (v := Value.int .i64 x2) F SL Aa (fun w W => Mc any w p0.un.2.1 p1 p2 p3 _ h2)) fun a F => ?_
     refine Bi F (Af F Aa Aa Aa Aa) Aa (An Aa) (Ak BZ Aa Aa Aa T3 F Aa 2 Aa).q fun a F => ?_
     refine Bi F (Af F Aa Aa Aa Aa) Aa (An Aa) (Aq (v := Value.int .i64 p0.un.2.2.1) 1 F Aa Aa T3 Aa).q fun a F => ?_
     refine Bi F (Af F Aa Aa Aa Aa) Aa (An Aa) (Bq F Aa Aa).q fun a F => ?_
     refine qs F Aa (Au F Aa Aa Aa).q fun a F => ?_
     refine qs F Aa (Ah F Aa).q fun a F => ?_
     refine A2 fun w W => ?_
     refine Ad ?_
     have W := W.frontM (i := 1) Aa Aa
     have W := W.frontM (i := 1) Aa Aa
     exact ⟨_, H, F.re ⟨rfl, Aa, Aa, Aa, Aa, trivial⟩, W⟩
    have H := AX (Bl hb) H
    rw [hb] at F
    clear hb
    iterate 9 refine Ca F (AH F Aa Aa Aa Aa Aa) Aa Aa fun a F => ?_
    refine qs F Aa (As F Aa Aa Aa).q fun a F => ?_
    refine qs F Aa (Ah F Aa).q fun a F => ?_
    refine A2 fun w W => ?_
    refine Ad ?_
    have W := W.frontM (i := 1) Aa Aa
    have W := W.frontM (i := 1) Aa Aa
    exact ⟨_, H, F.re ⟨rfl, Aa, Aa, Aa, Aa, trivial⟩, W⟩
   have H := AX (Bl hb) H
   rw [hb] at F
   clear hb
   iterate 3 refine Ca F (AH F Aa Aa Aa Aa Aa) Aa Aa fun a F => ?_
   refine qs F Aa (As F Aa Aa Aa).q fun a F => ?_
   refine qs F Aa (Ai F Aa).q fun a F => ?_
   iterate 9 refine Ca F (AH F Aa Aa Aa Aa Aa) Aa Aa fun a F => ?_
   refine qs F Aa (As F Aa Aa Aa).q fun a F => ?_
   refine qs F Aa (Ah F Aa).q fun a F => ?_
   refine A2 fun w W => ?_
   refine Ad ?_
   have W := W.frontM (i := 1) Aa Aa
   have W := W.frontM (i := 1) Aa Aa
   exact ⟨_, H, F.re ⟨rfl, Aa, Aa, Aa, Aa, trivial⟩, W⟩
  rintro a w ⟨x1, hj, F, W⟩
  have hj := AM hj
  subst hj
  have H := K1
  clear G1 K1
  refine Az (AR ?_)
  have H := AM H
  subst H
  refine AQ (.inl Aa) F W Aa (AD F Aa) ?_
  exact ⟨rfl, W.done⟩
 have H := AX (Bl hb) H
 rw [hb] at F
 clear hb
 refine Aw (Ad (Aj (Aj (Ae ?_))))
 refine ls F W Aa (Ak BZ Aa Aa Aa T3 F Aa 0 Aa).q fun a w F W => ?_
 refine ls F W Aa (Aq (v := Value.int .i64 p0.un.1) 1 F Aa Aa T3 Aa).q fun a w F W => ?_
 refine ls F W Aa (Bq F Aa Aa).q fun a w F W => ?_
 refine Ag (Ad ?_)
 refine Ay F Aa (fun hb => ?_) fun hb => ?_
 ·
  have H := AW (Bm hb) H
  rw [hb] at F
  clear hb
  obtain ⟨o2, G2, K2⟩ := Am H
  refine AO (fun a w => ∃ x3 : Bool, some (x3) = some o2 ∧ Fr 91 [] [(1, .int .i64 p1), (2, .int .i64 p2), (4, .pointer (some ⟨b1, 0, none⟩)), (7, .pointer (some ⟨b2, 0, none⟩)), (8, .bool x3)] a ∧ Stw ⟨Y, [], w0⟩ [(b2, [.int .i64 p3.1, .int .i64 p3.2.1, .int .i64 p3.2.2.1, .int .i64 p3.2.2.2]), (b1, [.int .i64 p0.un.1, .int .i64 p0.un.2.1, .int .i64 p0.un.2.2.1, v1])] [] w) ?_ ?_
  ·
   have H := G2
   clear G2 K2
   refine BS W MO (by kernel_rfl) ?_
   refine qs F Aa (Ak BZ Aa Aa Aa ER F Aa 3 Aa).q fun a F => ?_
   refine qs F Aa (Aq (v := v1) 1 F Aa Aa ER Aa).q fun a F => ?_
   refine qs F Aa (CT (r := CJ) (l := p0.un.2.2.2) ID Aa F Aa (AP C7 h1 (Av h_v1))).q fun a F => ?_
   refine qs F Aa (EW F Aa Aa).q fun a F => ?_
   refine qs F Aa (Ai F Aa).q fun a F => ?_
   rcases Bool.eq_false_or_eq_true (decide (0 < (p0.un.2.2.2.length : Int))) with hb | hb
   ·
    have H := AW (Bm hb) H
    rw [hb] at F
    clear hb
    refine Bi F (Af F Aa Aa Aa Aa) Aa (An Aa) (Ak BZ Aa Aa Aa ER F Aa 3 Aa).q fun a F => ?_
    refine Bi F (Af F Aa Aa Aa Aa) Aa (An Aa) (Aq (v := v1) 1 F Aa Aa ER Aa).q fun a F => ?_
    obtain ⟨x4, h3, H⟩ := Am H
    obtain ⟨v3, h4, h5⟩ := DL h1 h3
    have h6 : E5 v3 = [.int .i64 x4.un.1, .int .i64 x4.un.2.1, .int .i64 x4.un.2.2.1, (v3.2.2.2.1)] := congrArg (fun q : Tr24 => ([.int .i64 q.un.1, .int .i64 q.un.2.1, .int .i64 q.un.2.2.1, (v3.2.2.2.1)] : List Value)) h5
    refine Bi F (Af F Aa Aa Aa Aa) Aa (An Aa) (AG (r := Gd) KF F Aa Aa (Av h_v1) h4).q fun a F => ?_
    refine Bi F (Af F Aa Aa Aa Aa) Aa (An Aa) (Ax (y := Value.agg #[.int .i64 x4.un.1, .int .i64 x4.un.2.1, .int .i64 x4.un.2.2.1, (v3.2.2.2.1)]) (j := 0) (i := 0) (enc := E5) F Aa Aa (Av h_v1) h4 Id FC (by rw [h6]; rfl)).q fun a F => ?_
    iterate 2 refine Bi F (Af F Aa Aa Aa Aa) Aa (An Aa) (Ai F Aa).q fun a F => ?_
    refine Bi F (Af F Aa Aa Aa Aa) Aa (An Aa) (Aq (v := Value.agg #[.int .i64 p3.1, .int .i64 p3.2.1, .int .i64 p3.2.2.1, .int .i64 p3.2.2.2]) 0 F Aa Aa Qh Aa).q fun a F => ?_
    obtain ⟨x5, h7, H⟩ := Am H
    refine Bi F (Af F Aa Aa Aa Aa) Aa (An Aa) (AU (v := Value.bool x5) F Sp Aa (fun w W => ih any w ((v3.2.2.2.1)) x4 p1 p2 p3 _ h7 (((CG (Av h_v1) h4 (A5.snd (A5.snd (A5.snd A5.here))) (congrArg (fun q : Tr24 => q.un.2.2.2) h5)) : EC _ _ _ _ _ _) w W).nx)) fun a F => ?_
    refine Bi F (Af F Aa Aa Aa Aa) Aa (An Aa) (ET F Aa).q fun a F => ?_
    refine qs F Aa (Au F Aa Aa Aa).q fun a F => ?_
    refine qs F Aa (Ah F Aa).q fun a F => ?_
    refine A2 fun w W => ?_
    refine Ad ?_
    have W := W.frontM (i := 1) Aa Aa
    have W := W.frontM (i := 1) Aa Aa
    exact ⟨_, H, F.re ⟨rfl, Aa, Aa, Aa, Aa, trivial⟩, W⟩
   have H := AX (Bl hb) H
   rw [hb] at F
   clear hb
   iterate 9 refine Ca F (AH F Aa Aa Aa Aa Aa) Aa Aa fun a F => ?_
   refine qs F Aa (As F Aa Aa Aa).q fun a F => ?_
   refine qs F Aa (Ah F Aa).q fun a F => ?_
   refine A2 fun w W => ?_
   refine Ad ?_
   have W := W.frontM (i := 1) Aa Aa
   have W := W.frontM (i := 1) Aa Aa
   exact ⟨_, H, F.re ⟨rfl, Aa, Aa, Aa, Aa, trivial⟩, W⟩
  rintro a w ⟨x3, hj, F, W⟩
  have hj := AM hj
  subst hj
  have H := K2
  clear G2 K2
  refine Az (AR ?_)
  have H := AM H
  subst H
  refine AQ (.inl Aa) F W Aa (AD F Aa) ?_
  exact ⟨rfl, W.done⟩
 have H := AX (Bl hb) H
 rw [hb] at F
 clear hb
 refine Aw (Ad (Aj (Ae ?_)))
 refine ls F W Aa (Ah F Aa).q fun a w F W => ?_
 refine Ag (Ad ?_)
 obtain ⟨o3, G3, K3⟩ := Am H
 refine AO (fun a w => ∃ x6 : Int, some (x6) = some o3 ∧ Fr 91 [] [(4, .pointer (some ⟨b1, 0, none⟩)), (8, .bool false), (9, .int .i64 x6)] a ∧ Stw ⟨Y, [], w0⟩ [(b2, [.int .i64 p3.1, .int .i64 p3.2.1, .int .i64 p3.2.2.1, .int .i64 p3.2.2.2]), (b1, [.int .i64 p0.un.1, .int .i64 p0.un.2.1, .int .i64 p0.un.2.2.1, v1])] [] w) ?_ ?_
 ·
  have H := G3
  clear G3 K3
  refine Aj (Ae ?_)
  refine ls F W Aa (Ah F Aa).q fun a w F W => ?_
  refine Ag (Ad (AA ?_))
  have W := W.frontM (i := 1) Aa Aa
  have W := W.frontM (i := 1) Aa Aa
  refine BI H (fun s a w => Fr 91 [] [(1, .int .i64 p1), (2, .int .i64 p2), (4, .pointer (some ⟨b1, 0, none⟩)), (7, .pointer (some ⟨b2, 0, none⟩)), (8, .bool false), (9, .int .i64 s.1), (10, .int .i64 s.2)] a ∧ Stw ⟨Y, [], w0⟩ [(b2, [.int .i64 p3.1, .int .i64 p3.2.1, .int .i64 p3.2.2.1, .int .i64 p3.2.2.2]), (b1, [.int .i64 p0.un.1, .int .i64 p0.un.2.1, .int .i64 p0.un.2.2.1, v1])] [] w) ⟨F.re ⟨rfl, Aa, Aa, Aa, Aa, Aa, Aa, trivial⟩, W⟩ fun s o a w H L4 hR => ?_
  obtain ⟨x7, x8⟩ := s
  obtain ⟨F, W⟩ := hR
  have F : Fr 91 [] [(1, .int .i64 p1), (2, .int .i64 p2), (4, .pointer (some ⟨b1, 0, none⟩)), (7, .pointer (some ⟨b2, 0, none⟩)), (8, .bool false), (9, .int .i64 x7), (10, .int .i64 x8)] a := F
  have W : Stw ⟨Y, [], w0⟩ [(b2, [.int .i64 p3.1, .int .i64 p3.2.1, .int .i64 p3.2.2.1, .int .i64 p3.2.2.2]), (b1, [.int .i64 p0.un.1, .int .i64 p0.un.2.1, .int .i64 p0.un.2.2.1, v1])] [] w := W
  rw [Dq] at H
  refine Aj (Aj (Ae ?_))
  refine ls F W Aa (Ai F Aa).q fun a w F W => ?_
  refine ls F W Aa (Ak BZ Aa Aa Aa ER F Aa 3 Aa).q fun a w F W => ?_
  refine ls F W Aa (Aq (v := v1) 1 F Aa Aa ER Aa).q fun a w F W => ?_
  refine ls F W Aa (CT (r := CJ) (l := p0.un.2.2.2) ID Aa F Aa (AP C7 h1 (Av h_v1))).q fun a w F W => ?_
  refine ls F W Aa (Cy F Aa Aa).q fun a w F W => ?_
  refine Ag (Ad ?_)
  refine Ay F Aa (fun hb => ?_) fun hb => ?_
  ·
   have H := AW (Bm hb) H
   rw [hb] at F
   clear hb
   refine Aw (Ad ?_)
   obtain ⟨o5, G5, K5⟩ := Am H
   refine AO (fun a w => ∃ x9 : Int, some (x9) = some o5 ∧ Fr 91 [] [(1, .int .i64 p1), (2, .int .i64 p2), (4, .pointer (some ⟨b1, 0, none⟩)), (7, .pointer (some ⟨b2, 0, none⟩)), (8, .bool false), (9, .int .i64 x9), (10, .int .i64 x8)] a ∧ Stw ⟨Y, [], w0⟩ [(b2, [.int .i64 p3.1, .int .i64 p3.2.1, .int .i64 p3.2.2.1, .int .i64 p3.2.2.2]), (b1, [.int .i64 p0.un.1, .int .i64 p0.un.2.1, .int .i64 p0.un.2.2.1, v1])] [] w) ?_ ?_
   ·
    have H := G5
    clear G5 K5
    refine AA (Aj ?_)
    refine BS W MO (by kernel_rfl) ?_
    refine qs F Aa (Ak BZ Aa Aa Aa ER F Aa 3 Aa).q fun a F => ?_
    refine qs F Aa (Aq (v := v1) 1 F Aa Aa ER Aa).q fun a F => ?_
    refine qs F Aa (Ai F Aa).q fun a F => ?_
    obtain ⟨x10, h8, H⟩ := Am H
    obtain ⟨v4, h9, h10⟩ := DL h1 h8
    have h11 : E5 v4 = [.int .i64 x10.un.1, .int .i64 x10.un.2.1, .int .i64 x10.un.2.2.1, (v4.2.2.2.1)] := congrArg (fun q : Tr24 => ([.int .i64 q.un.1, .int .i64 q.un.2.1, .int .i64 q.un.2.2.1, (v4.2.2.2.1)] : List Value)) h10
    refine qs F Aa (AG (r := Gd) KF F Aa Aa (Av h_v1) h9).q fun a F => ?_
    refine qs F Aa (Ax (y := Value.agg #[.int .i64 x10.un.1, .int .i64 x10.un.2.1, .int .i64 x10.un.2.2.1, (v4.2.2.2.1)]) (j := 0) (i := x8) (enc := E5) F Aa Aa (Av h_v1) h9 Id FC (by rw [h11]; rfl)).q fun a F => ?_
    iterate 2 refine qs F Aa (Ai F Aa).q fun a F => ?_
    refine qs F Aa (Aq (v := Value.agg #[.int .i64 p3.1, .int .i64 p3.2.1, .int .i64 p3.2.2.1, .int .i64 p3.2.2.2]) 0 F Aa Aa Qh Aa).q fun a F => ?_
    obtain ⟨x11, h12, H⟩ := Am H
    refine qs F Aa (AU (v := Value.bool x11) F Sp Aa (fun w W => ih any w ((v4.2.2.2.1)) x10 p1 p2 p3 _ h12 (((CG (Av h_v1) h9 (A5.snd (A5.snd (A5.snd A5.here))) (congrArg (fun q : Tr24 => q.un.2.2.2) h10)) : EC _ _ _ _ _ _) w W).nx)) fun a F => ?_
    refine A2 fun w W => ?_
    refine Ad ?_
    refine Ay F Aa (fun hb => ?_) fun hb => ?_
    ·
     have H := AW hb H
     rw [hb] at F
     clear hb
     refine Ae ?_
     refine ls F W Aa (Ai F Aa).q fun a w F W => ?_
     refine ls F W Aa (BC F Aa Aa Aa).q fun a w F W => ?_
     refine ls F W Aa (Ah F Aa).q fun a w F W => ?_
     refine Ag (A8 (Ad ?_))
     have W := W.frontM (i := 1) Aa Aa
     have W := W.frontM (i := 1) Aa Aa
     exact ⟨_, H, F.re ⟨rfl, Aa, Aa, Aa, Aa, Aa, Aa, trivial⟩, W⟩
    have H := AX (by rw [hb]; decide) H
    rw [hb] at F
    clear hb
    refine Aw (A8 (Ad ?_))
    have W := W.frontM (i := 1) Aa Aa
    have W := W.frontM (i := 1) Aa Aa
    exact ⟨_, H, F.re ⟨rfl, Aa, Aa, Aa, Aa, Aa, Aa, trivial⟩, W⟩
   rintro a w ⟨x9, hj, F, W⟩
   have hj := AM hj
   subst hj
   have H := K5
   clear G5 K5
   refine Ae ?_
   refine ls F W Aa (Ai F Aa).q fun a w F W => ?_
   refine ls F W Aa (BC F Aa Aa Aa).q fun a w F W => ?_
   refine ls F W Aa (Ah F Aa).q fun a w F W => ?_
   refine Ag (Ad ?_)
   have W := W.frontM (i := 1) Aa Aa
   have W := W.frontM (i := 1) Aa Aa
   exact ⟨_, H, F.re ⟨rfl, Aa, Aa, Aa, Aa, Aa, Aa, trivial⟩, W⟩
  have H := AX (Bl hb) H
  rw [hb] at F
  clear hb
  refine Bx ?_
  iterate 2 refine BO ?_
  refine Bz (Ad ?_)
  have W := W.frontM (i := 1) Aa Aa
  have W := W.frontM (i := 1) Aa Aa
  have H := L4 _ H
  exact ⟨_, H, F.re ⟨rfl, Aa, Aa, trivial⟩, W⟩
 rintro a w ⟨x6, hj, F, W⟩
 have hj := AM hj
 subst hj
 have H := K3
 clear G3 K3
 refine AO (fun a w => Fr 91 [] [(8, .bool (bif decide (p0.un.1 = 5) then (decide (x6 = (p0.un.2.2.2.length : Int)) || (decide (p0.un.1 = 6) && decide (0 < x6))) else (decide (p0.un.1 = 6) && decide (0 < x6))))] a ∧ Stw ⟨Y, [], w0⟩ [(b2, [.int .i64 p3.1, .int .i64 p3.2.1, .int .i64 p3.2.2.1, .int .i64 p3.2.2.2]), (b1, [.int .i64 p0.un.1, .int .i64 p0.un.2.1, .int .i64 p0.un.2.2.1, v1])] [] w) ?_ ?_
 ·
  refine Ae ?_
  refine ls F W Aa (Ak BZ Aa Aa Aa T3 F Aa 0 Aa).q fun a w F W => ?_
  refine ls F W Aa (Aq (v := Value.int .i64 p0.un.1) 1 F Aa Aa T3 Aa).q fun a w F W => ?_
  refine ls F W Aa (Bq F Aa Aa).q fun a w F W => ?_
  refine ls F W Aa (Ai F Aa).q fun a w F W => ?_
  rcases Bool.eq_false_or_eq_true (decide (p0.un.1 = 5)) with hb0 | hb0
  ·
   rw [hb0] at F
   refine AL F W (Af F Aa Aa Aa Aa) Aa (An Aa) (Ai F Aa).q fun a w F W => ?_
   refine AL F W (Af F Aa Aa Aa Aa) Aa (An Aa) (Ak BZ Aa Aa Aa ER F Aa 3 Aa).q fun a w F W => ?_
   refine AL F W (Af F Aa Aa Aa Aa) Aa (An Aa) (Aq (v := v1) 1 F Aa Aa ER Aa).q fun a w F W => ?_
   refine AL F W (Af F Aa Aa Aa Aa) Aa (An Aa) (CT (r := CJ) (l := p0.un.2.2.2) ID Aa F Aa (AP C7 h1 (Av h_v1))).q fun a w F W => ?_
   refine AL F W (Af F Aa Aa Aa Aa) Aa (An Aa) (Bq F Aa Aa).q fun a w F W => ?_
   refine ls F W Aa (Au F Aa Aa Aa).q fun a w F W => ?_
   refine ls F W Aa (Ai F Aa).q fun a w F W => ?_
   rcases Bool.eq_false_or_eq_true (decide (x6 = (p0.un.2.2.2.length : Int))) with hb1 | hb1
   ·
    rw [hb1] at F
    iterate 4 refine CD F Aa Aa Aa Aa Aa Aa Aa fun a F => ?_
    iterate 2 refine Qu F Aa Aa Aa Aa Aa Aa fun a F => ?_
    refine CD F Aa Aa Aa Aa Aa Aa Aa fun a F => ?_
    refine ls F W Aa (Au F Aa Aa Aa).q fun a w F W => ?_
    refine ls F W Aa (Ah F Aa).q fun a w F W => ?_
    refine Ag (Ad ?_)
    exact ⟨F.re ⟨(by show some (Value.bool true) = some (Value.bool (bif decide (p0.un.1 = 5) then (decide (x6 = (p0.un.2.2.2.length : Int)) || (decide (p0.un.1 = 6) && decide (0 < x6))) else (decide (p0.un.1 = 6) && decide (0 < x6)))); try rw [hb1]; try rw [hb0]; all_goals simp only [Bool.not_true, Bool.not_false, Bool.true_and, Bool.false_and, Bool.true_or, Bool.false_or, Bool.and_true, Bool.or_false, cond_true, cond_false]), trivial⟩, W⟩
   rw [hb1] at F
   refine AL F W (Af F Aa Aa Aa Aa) Aa (An Aa) (Ak BZ Aa Aa Aa T3 F Aa 0 Aa).q fun a w F W => ?_
   refine AL F W (Af F Aa Aa Aa Aa) Aa (An Aa) (Aq (v := Value.int .i64 p0.un.1) 1 F Aa Aa T3 Aa).q fun a w F W => ?_
   refine AL F W (Af F Aa Aa Aa Aa) Aa (An Aa) (Bq F Aa Aa).q fun a w F W => ?_
   refine AL F W (Af F Aa Aa Aa Aa) Aa (An Aa) (Ai F Aa).q fun a w F W => ?_
   rcases Bool.eq_false_or_eq_true (decide (p0.un.1 = 6)) with hb2 | hb2
   ·
    rw [hb2] at F
    refine AL F W (Af F Aa Aa Aa Aa) Aa (An Aa) (Ai F Aa).q fun a w F W => ?_
    refine AL F W (Af F Aa Aa Aa Aa) Aa (An Aa) (EW F Aa Aa).q fun a w F W => ?_
    refine AL F W (Af F Aa Aa Aa Aa) Aa (An Aa) (Au F Aa Aa Aa).q fun a w F W => ?_
    refine ls F W Aa (As F Aa Aa Aa).q fun a w F W => ?_
    refine ls F W Aa (Ah F Aa).q fun a w F W => ?_
    refine Ag (Ad ?_)
    exact ⟨F.re ⟨(by show some (Value.bool (decide (0 < x6))) = some (Value.bool (bif decide (p0.un.1 = 5) then (decide (x6 = (p0.un.2.2.2.length : Int)) || (decide (p0.un.1 = 6) && decide (0 < x6))) else (decide (p0.un.1 = 6) && decide (0 < x6)))); try rw [hb1]; try rw [hb0]; try rw [hb2]; all_goals simp only [Bool.not_true, Bool.not_false, Bool.true_and, Bool.false_and, Bool.true_or, Bool.false_or, Bool.and_true, Bool.or_false, cond_true, cond_false]), trivial⟩, W⟩
   rw [hb2] at F
   iterate 2 refine CD F Aa Aa Aa Aa Aa Aa Aa fun a F => ?_
   refine AL F W (Af F Aa Aa Aa Aa) Aa (An Aa) (As F Aa Aa Aa).q fun a w F W => ?_
   refine ls F W Aa (As F Aa Aa Aa).q fun a w F W => ?_
   refine ls F W Aa (Ah F Aa).q fun a w F W => ?_
   refine Ag (Ad ?_)
   exact ⟨F.re ⟨(by show some (Value.bool false) = some (Value.bool (bif decide (p0.un.1 = 5) then (decide (x6 = (p0.un.2.2.2.length : Int)) || (decide (p0.un.1 = 6) && decide (0 < x6))) else (decide (p0.un.1 = 6) && decide (0 < x6)))); try rw [hb1]; try rw [hb0]; try rw [hb2]; all_goals simp only [Bool.not_true, Bool.not_false, Bool.true_and, Bool.false_and, Bool.true_or, Bool.false_or, Bool.and_true, Bool.or_false, cond_true, cond_false]), trivial⟩, W⟩
  rw [hb0] at F
  iterate 5 refine CD F Aa Aa Aa Aa Aa Aa Aa fun a F => ?_
  refine ls F W Aa (As F Aa Aa Aa).q fun a w F W => ?_
  refine ls F W Aa (Ai F Aa).q fun a w F W => ?_
  refine AL F W (Af F Aa Aa Aa Aa) Aa (An Aa) (Ak BZ Aa Aa Aa T3 F Aa 0 Aa).q fun a w F W => ?_
  refine AL F W (Af F Aa Aa Aa Aa) Aa (An Aa) (Aq (v := Value.int .i64 p0.un.1) 1 F Aa Aa T3 Aa).q fun a w F W => ?_
  refine AL F W (Af F Aa Aa Aa Aa) Aa (An Aa) (Bq F Aa Aa).q fun a w F W => ?_
  refine AL F W (Af F Aa Aa Aa Aa) Aa (An Aa) (Ai F Aa).q fun a w F W => ?_
  rcases Bool.eq_false_or_eq_true (decide (p0.un.1 = 6)) with hb1 | hb1
  ·
   rw [hb1] at F
   refine AL F W (Af F Aa Aa Aa Aa) Aa (An Aa) (Ai F Aa).q fun a w F W => ?_
   refine AL F W (Af F Aa Aa Aa Aa) Aa (An Aa) (EW F Aa Aa).q fun a w F W => ?_
   refine AL F W (Af F Aa Aa Aa Aa) Aa (An Aa) (Au F Aa Aa Aa).q fun a w F W => ?_
   refine ls F W Aa (As F Aa Aa Aa).q fun a w F W => ?_
   refine ls F W Aa (Ah F Aa).q fun a w F W => ?_
   refine Ag (Ad ?_)
   exact ⟨F.re ⟨(by show some (Value.bool (decide (0 < x6))) = some (Value.bool (bif decide (p0.un.1 = 5) then (decide (x6 = (p0.un.2.2.2.length : Int)) || (decide (p0.un.1 = 6) && decide (0 < x6))) else (decide (p0.un.1 = 6) && decide (0 < x6)))); try rw [hb0]; try rw [hb1]; all_goals simp only [Bool.not_true, Bool.not_false, Bool.true_and, Bool.false_and, Bool.true_or, Bool.false_or, Bool.and_true, Bool.or_false, cond_true, cond_false]), trivial⟩, W⟩
  rw [hb1] at F
  iterate 2 refine CD F Aa Aa Aa Aa Aa Aa Aa fun a F => ?_
  refine AL F W (Af F Aa Aa Aa Aa) Aa (An Aa) (As F Aa Aa Aa).q fun a w F W => ?_
  refine ls F W Aa (As F Aa Aa Aa).q fun a w F W => ?_
  refine ls F W Aa (Ah F Aa).q fun a w F W => ?_
  refine Ag (Ad ?_)
  exact ⟨F.re ⟨(by show some (Value.bool false) = some (Value.bool (bif decide (p0.un.1 = 5) then (decide (x6 = (p0.un.2.2.2.length : Int)) || (decide (p0.un.1 = 6) && decide (0 < x6))) else (decide (p0.un.1 = 6) && decide (0 < x6)))); try rw [hb0]; try rw [hb1]; all_goals simp only [Bool.not_true, Bool.not_false, Bool.true_and, Bool.false_and, Bool.true_or, Bool.false_or, Bool.and_true, Bool.or_false, cond_true, cond_false]), trivial⟩, W⟩
 rintro a w ⟨F, W⟩
 refine Az ?_
 have H := AM H
 subst H
 refine AQ (.inl Aa) F W Aa (AD F Aa) ?_
 exact ⟨rfl, W.done⟩
theorem M5 : ∀ (n : Nat) (Y : Nat → Prop) (w0 : World) (v1 : Value) (p0 : Tr24) (p1 : Int) (p2 : Int) (p3 : Int × Int × Int × Int) (r : Bool) (H : Dv n p0 p1 p2 p3 = some r) (h_v1 : Sl w0 (NX []) CJ v1 p0.un.2.2.2), Calls Tryd.prog 17 #[.agg #[.int .i64 p0.un.1, .int .i64 p0.un.2.1, .int .i64 p0.un.2.2.1, v1], .int .i64 p1, .int .i64 p2, .agg #[.int .i64 p3.1, .int .i64 p3.2.1, .int .i64 p3.2.2.1, .int .i64 p3.2.2.2]] w0 fun e w' => e = .returned (.bool r) ∧ Below w0.heap.size w0 w' := by
  intro n
  induction n with
  | zero => intro Y w0 v1 p0 p1 p2 p3 r H; exact nomatch H
  | succ n ih => intro Y w0 v1 p0 p1 p2 p3 r H h_v1; exact Mn (Dv n) ih Y w0 v1 p0 p1 p2 p3 r H h_v1
theorem NR (Y : Nat → Prop) (w0 : World) (v1 : Value) (p0 : Tr24) (p1 : Int) (p2 : Int) (p3 : Int × Int × Int × Int) (r : Bool) (H : Ln p0 p1 p2 p3 = some r) (h_v1 : Sl w0 (NX []) CJ v1 p0.un.2.2.2) :
    Calls Tryd.prog 17 #[.agg #[.int .i64 p0.un.1, .int .i64 p0.un.2.1, .int .i64 p0.un.2.2.1, v1], .int .i64 p1, .int .i64 p2, .agg #[.int .i64 p3.1, .int .i64 p3.2.1, .int .i64 p3.2.2.1, .int .i64 p3.2.2.2]] w0 fun e w' => e = .returned (.bool r) ∧ Below w0.heap.size w0 w' := by
  obtain ⟨n, H⟩ := Cs H
  exact M5 n Y w0 v1 p0 p1 p2 p3 r H h_v1
theorem Qv : (Tryd.prog.info? 24).bind (·.zero) = some (.agg #[.int .i64 0, .int .i64 0, .int .i64 0, .slice none 0 0]) := by kernel_rfl
theorem Rx : Bt Tryd.prog 24 [.int .i64 0, .int .i64 0, .int .i64 0, .slice none 0 0] [(0, 1), (1, 1), (2, 1), (3, 1)] := ⟨⟨.agg #[.int .i64 0, .int .i64 0, .int .i64 0, .slice none 0 0], by kernel_rfl, rfl⟩, ⟨_, BZ, fun w => by kernel_rfl⟩⟩
theorem SK : Has Tryd.prog 22 := ⟨fun args w => Ao Tryd.func22 rfl (by decide) args w⟩
noncomputable def CQ (fRec : Tr31 → Option Tr24) (p0 : Tr31) : (Int × List Tr24) → Option ((Int × List Tr24) ⊕ (List Tr24))
  | (x2, x3) => (if x2 < (p0.un.2.2.2.length : Int) then (ix p0.un.2.2.2 x2).bind fun x4 => (fRec x4).bind fun x5 => (F7 x3 ([x5] : List Tr24)).bind fun x6 => some (.inl (A1 (x2 + 1), x6)) else some (.inr x3))
noncomputable def DD (fRec : Tr31 → Option Tr24) (p0 : Tr31) : Option Tr24 := (A3 (CQ fRec p0) (0, [])).bind fun x1 => some (Tr24.of (p0.un.1, p0.un.2.1, p0.un.2.2.1, x1))
noncomputable def C3 : Nat → Tr31 → Option Tr24
  | 0 => fun _ => none
  | n + 1 => DD (C3 n)
noncomputable def IA (p0 : Tr31) : Option Tr24 := Fx fun n => C3 n p0
theorem Lh (fRec : Tr31 → Option Tr24) (ih : ∀ (Y : Nat → Prop) (w0 : World) (v1 : Value) (p0 : Tr31) (r : Tr24) (H : fRec p0 = some r) (h_v1 : Sl w0 (NX []) BJ v1 p0.un.2.2.2), Calls Tryd.prog 22 #[.agg #[.int .i64 p0.un.1, .int .i64 p0.un.2.1, .int .i64 p0.un.2.2.1, v1]] w0 fun e w' => ∃ x : Value, e = .returned (.agg #[.int .i64 r.un.1, .int .i64 r.un.2.1, .int .i64 r.un.2.2.1, x]) ∧ Stw ⟨Y, [], w0⟩ [] [row (x) 24 CJ r.un.2.2.2] w') (Y : Nat → Prop) (w0 : World) (v1 : Value) (p0 : Tr31) (r : Tr24) (H : DD fRec p0 = some r) (h_v1 : Sl w0 (NX []) BJ v1 p0.un.2.2.2) :
    Calls Tryd.prog 22 #[.agg #[.int .i64 p0.un.1, .int .i64 p0.un.2.1, .int .i64 p0.un.2.2.1, v1]] w0 fun e w' => ∃ x : Value, e = .returned (.agg #[.int .i64 r.un.1, .int .i64 r.un.2.1, .int .i64 r.un.2.2.1, x]) ∧ Stw ⟨Y, [], w0⟩ [] [row (x) 24 CJ r.un.2.2.2] w' := by
 refine enter Tryd.func22 Aa Tryd.ntmps22 Aa fun a F => ?_
 have W := Stw.start Y w0
 obtain ⟨v2, h1, h_v1⟩ := h_v1.ex CB
 unfold DD at H
 refine Aj (Ae ?_)
 refine C5 (cs := [.int .i64 p0.un.1, .int .i64 p0.un.2.1, .int .i64 p0.un.2.2.1, v1]) F W Aa Aa Aa fun b1 a w F W => ?_
 refine CK (cs := [.int .i64 0, .int .i64 0, .int .i64 0, .slice none 0 0]) F W Aa Qv Aa fun b2 a w F W => ?_
 refine Ag (Ad (Aj (Ae ?_)))
 refine ls F W Aa (Ak CM Aa Aa Aa T3 F Aa 0 Aa).q fun a w F W => ?_
 refine ls F W Aa (Aq (v := Value.int .i64 p0.un.1) 1 F Aa Aa T3 Aa).q fun a w F W => ?_
 refine ls F W Aa (Ak CM Aa Aa Aa T3 F Aa 1 Aa).q fun a w F W => ?_
 refine ls F W Aa (Aq (v := Value.int .i64 p0.un.2.1) 1 F Aa Aa T3 Aa).q fun a w F W => ?_
 refine ls F W Aa (Ak CM Aa Aa Aa T3 F Aa 2 Aa).q fun a w F W => ?_
 refine ls F W Aa (Aq (v := Value.int .i64 p0.un.2.2.1) 1 F Aa Aa T3 Aa).q fun a w F W => ?_
 refine ls F W Aa (DQ (v := Value.agg #[.int .i64 p0.un.1, .int .i64 p0.un.2.1, .int .i64 p0.un.2.2.1, .slice none 0 0]) Rx F Aa Aa Aa).q fun a w F W => ?_
 refine CK (cs := [.int .i64 0, .int .i64 0, .int .i64 0, .slice none 0 0]) F W Aa Qv Aa fun b3 a w F W => ?_
 refine BN (vs := [.int .i64 p0.un.1, .int .i64 p0.un.2.1, .int .i64 p0.un.2.2.1, .slice none 0 0]) (M' := [(b3, [.int .i64 p0.un.1, .int .i64 p0.un.2.1, .int .i64 p0.un.2.2.1, .slice none 0 0]), (b2, [.int .i64 0, .int .i64 0, .int .i64 0, .slice none 0 0]), (b1, [.int .i64 p0.un.1, .int .i64 p0.un.2.1, .int .i64 p0.un.2.2.1, v1])]) 0 F W Aa Aa Aa FC Aa Aa Aa Aa Aa fun w W => ?_
 refine Ag (Ad ?_)
 obtain ⟨o1, G1, K1⟩ := Am H
 refine AO (fun a w => ∃ x1 : List Tr24, ∃ v3 : Value, some (x1) = some o1 ∧ Fr 31 [] [(2, .pointer (some ⟨b2, 0, none⟩)), (3, .pointer (some ⟨b3, 0, none⟩))] a ∧ Stw ⟨Y, [], w0⟩ [(b3, [.int .i64 p0.un.1, .int .i64 p0.un.2.1, .int .i64 p0.un.2.2.1, v3]), (b2, [.int .i64 0, .int .i64 0, .int .i64 0, .slice none 0 0]), (b1, [.int .i64 p0.un.1, .int .i64 p0.un.2.1, .int .i64 p0.un.2.2.1, v1])] [row v3 24 CJ x1] w) ?_ ?_
 ·
  have H := G1
  clear G1 K1
  refine Aj (Ae ?_)
  refine ls F W Aa (Ah F Aa).q fun a w F W => ?_
  refine Ag (Ad (AA ?_))
  have W := W.nilRow 24 CJ
  have W := W.frontM (i := 2) Aa Aa
  have W := W.frontM (i := 2) Aa Aa
  have W := W.frontM (i := 2) Aa Aa
  refine BI H (fun s a w => ∃ v4 : Value, Fr 31 [] [(1, .pointer (some ⟨b1, 0, none⟩)), (2, .pointer (some ⟨b2, 0, none⟩)), (3, .pointer (some ⟨b3, 0, none⟩)), (4, .int .i64 s.1)] a ∧ Stw ⟨Y, [], w0⟩ [(b3, [.int .i64 p0.un.1, .int .i64 p0.un.2.1, .int .i64 p0.un.2.2.1, v4]), (b2, [.int .i64 0, .int .i64 0, .int .i64 0, .slice none 0 0]), (b1, [.int .i64 p0.un.1, .int .i64 p0.un.2.1, .int .i64 p0.un.2.2.1, v1])] [row v4 24 CJ s.2] w) ⟨(Value.slice none 0 0), F.re ⟨rfl, Aa, Aa, Aa, trivial⟩, W⟩ fun s o a w H L2 hR => ?_
  obtain ⟨x2, x3⟩ := s
  obtain ⟨v4, F, W⟩ := hR
  have F : Fr 31 [] [(1, .pointer (some ⟨b1, 0, none⟩)), (2, .pointer (some ⟨b2, 0, none⟩)), (3, .pointer (some ⟨b3, 0, none⟩)), (4, .int .i64 x2)] a := F
  have W : Stw ⟨Y, [], w0⟩ [(b3, [.int .i64 p0.un.1, .int .i64 p0.un.2.1, .int .i64 p0.un.2.2.1, v4]), (b2, [.int .i64 0, .int .i64 0, .int .i64 0, .slice none 0 0]), (b1, [.int .i64 p0.un.1, .int .i64 p0.un.2.1, .int .i64 p0.un.2.2.1, v1])] [row v4 24 CJ x3] w := W
  rw [CQ] at H
  refine Aj (Aj (Ae ?_))
  refine ls F W Aa (Ai F Aa).q fun a w F W => ?_
  refine ls F W Aa (Ak CM Aa Aa Aa Fp F Aa 3 Aa).q fun a w F W => ?_
  refine ls F W Aa (Aq (v := v1) 2 F Aa Aa Fp Aa).q fun a w F W => ?_
  refine ls F W Aa (CT (r := BJ) (l := p0.un.2.2.2) GA Aa F Aa (AP CB h1 (Av h_v1))).q fun a w F W => ?_
  refine ls F W Aa (Cy F Aa Aa).q fun a w F W => ?_
  refine Ag (Ad ?_)
  refine Ay F Aa (fun hb => ?_) fun hb => ?_
  ·
   have H := AW (Bm hb) H
   rw [hb] at F
   clear hb
   refine Aw (Ad (Aj (AA ?_)))
   obtain ⟨v5, h2, W⟩ := W.exR C7
   refine Eb [(true, 0), (true, 1), (true, 2), (true, 3), (true, 4), (true, 5), (true, 6), (false, 7), (false, 8), (false, 9), (true, 10), (false, 11)] (CN ⟨Y, [], w0⟩ [(some 9, b3, [.int .i64 p0.un.1, .int .i64 p0.un.2.1, .int .i64 p0.un.2.2.1, v4]), (some 7, b1, [.int .i64 p0.un.1, .int .i64 p0.un.2.1, .int .i64 p0.un.2.2.1, v1])] []) (fun ch a d v w h => by cases d <;> exact h) MO (by kernel_rfl) W (fun w W => ⟨_, _, W, (Ab (fun _ => (.head _)) (Ab (fun _ => (.tail _ (.tail _ (.head _)))) Al)), Al⟩) fun w W => ?_
   refine A6 (R := []) F Aa Aa (yC fun M Z hN hZ => Ak BZ Aa Aa Aa ER F Aa 3 Aa) Aa Aa fun a F => ?_
   refine A6 (R := [9]) F Aa Aa (yC fun M Z hN hZ => B6 (cs := [.int .i64 p0.un.1, .int .i64 p0.un.2.1, .int .i64 p0.un.2.2.1, v4]) (v := v4) F Aa (hN ((some 9), b3, [.int .i64 p0.un.1, .int .i64 p0.un.2.1, .int .i64 p0.un.2.2.1, v4]) (.head _) Aa) ER Aa) (by kernel_rfl) Aa fun a F => ?_
   refine A6 (R := []) F Aa Aa (yC fun M Z hN hZ => Ak CM Aa Aa Aa Fp F Aa 3 Aa) Aa Aa fun a F => ?_
   refine A6 (R := [7, 6, 5]) F Aa Aa (yC fun M Z hN hZ => B6 (cs := [.int .i64 p0.un.1, .int .i64 p0.un.2.1, .int .i64 p0.un.2.2.1, v1]) (v := v1) F Aa (hN ((some 7), b1, [.int .i64 p0.un.1, .int .i64 p0.un.2.1, .int .i64 p0.un.2.2.1, v1]) (.tail _ (.head _)) Aa) Fp Aa) (by kernel_rfl) Aa fun a F => ?_
   refine A6 (R := []) F Aa Aa (yC fun M Z hN hZ => Ai F Aa) Aa Aa fun a F => ?_
   obtain ⟨x4, h3, H⟩ := Am H
   obtain ⟨v6, h4, h5⟩ := DL h1 h3
   have h6 : Fd v6 = [.int .i64 x4.un.1, .int .i64 x4.un.2.1, .int .i64 x4.un.2.2.1, (v6.2.2.2.1)] := congrArg (fun q : Tr31 => ([.int .i64 q.un.1, .int .i64 q.un.2.1, .int .i64 q.un.2.2.1, (v6.2.2.2.1)] : List Value)) h5
   refine A6 (R := []) F Aa Aa (yC fun M Z hN hZ => AG (r := Gm) Ke F Aa Aa (Av h_v1) h4) Aa Aa fun a F => ?_
   refine A6 (R := []) F Aa Aa (yC fun M Z hN hZ => Ax (y := Value.agg #[.int .i64 x4.un.1, .int .i64 x4.un.2.1, .int .i64 x4.un.2.2.1, (v6.2.2.2.1)]) (j := 0) (i := x2) (enc := Fd) F Aa Aa (Av h_v1) h4 IH EA (by rw [h6]; rfl)) Aa Aa fun a F => ?_
   refine BG Aa ?_
   obtain ⟨x5, h7, H⟩ := Am H
   refine BD (Ml := []) (Zl := []) (M := [(b3, [.int .i64 p0.un.1, .int .i64 p0.un.2.1, .int .i64 p0.un.2.2.1, v4]), (b2, [.int .i64 0, .int .i64 0, .int .i64 0, .slice none 0 0]), (b1, [.int .i64 p0.un.1, .int .i64 p0.un.2.1, .int .i64 p0.un.2.2.1, v1])]) (Z := [row v4 24 Gd v5]) (β := Value) (rv := fun x => .agg #[.int .i64 x5.un.1, .int .i64 x5.un.2.1, .int .i64 x5.un.2.2.1, x]) (MM := fun x => []) (ZZ := fun x => [row x 24 CJ x5.un.2.2.2]) F W SK Aa Aa (fun hL => ih _ w ((v6.2.2.2.1)) x4 _ h7 ((CG (Av h_v1) h4 (A5.snd (A5.snd (A5.snd A5.here))) (congrArg (fun q : Tr31 => q.un.2.2.2) h5)) w W).nx) fun x a w F W => ?_
   obtain ⟨v7, rfl⟩ : ∃ y, y = x := ⟨x, rfl⟩
   have W : Stw ⟨Y, [], w0⟩ [(b3, [.int .i64 p0.un.1, .int .i64 p0.un.2.1, .int .i64 p0.un.2.2.1, v4]), (b2, [.int .i64 0, .int .i64 0, .int .i64 0, .slice none 0 0]), (b1, [.int .i64 p0.un.1, .int .i64 p0.un.2.1, .int .i64 p0.un.2.2.1, v1])] [row v7 24 CJ x5.un.2.2.2, row v4 24 Gd v5] w := W
   refine AC (N2 := []) (NZ2 := []) (N3 := [(some 9, b3, [.int .i64 p0.un.1, .int .i64 p0.un.2.1, .int .i64 p0.un.2.2.1, v4]), (some 7, b1, [.int .i64 p0.un.1, .int .i64 p0.un.2.1, .int .i64 p0.un.2.2.1, v1])]) (NZ3 := []) W Aa Aa (Ab (fun _ => (.head _)) (Ab (fun h => Ac (by kernel_rfl) h) Al)) Al ?_
   refine BG Aa ?_
   have W := W.freeze
   refine GE (z := Value.agg #[.int .i64 0, .int .i64 0, .int .i64 0, .slice none 0 0]) (cs := [.int .i64 x5.un.1, .int .i64 x5.un.2.1, .int .i64 x5.un.2.2.1, v7]) CJ ([x5] : List Tr24) F W Aa KF Qv Aa Aa Aa (Cl Aa Aa Aa Dx) Aa Aa ⟨[Value.int .i64 x5.un.1, Value.int .i64 x5.un.2.1, Value.int .i64 x5.un.2.2.1, v7], _, Aa, (Pc.2 ⟨[Value.int .i64 x5.un.1], [Value.int .i64 x5.un.2.1, Value.int .i64 x5.un.2.2.1, v7], Aa, Aa, ⟨[Value.int .i64 x5.un.2.1], [Value.int .i64 x5.un.2.2.1, v7], Aa, Aa, ⟨[Value.int .i64 x5.un.2.2.1], [v7], Aa, Aa, ⟨_, Aa, (W.item (i := 0) Aa)⟩⟩⟩⟩), Aa⟩ fun v8 a w F W => ?_
   refine AC (N2 := []) (NZ2 := []) (N3 := [(some 9, b3, [.int .i64 p0.un.1, .int .i64 p0.un.2.1, .int .i64 p0.un.2.2.1, v4]), (some 7, b1, [.int .i64 p0.un.1, .int .i64 p0.un.2.1, .int .i64 p0.un.2.2.1, v1])]) (NZ3 := []) W Aa Aa (Ab (fun _ => (.head _)) (Ab (fun h => Ac (by kernel_rfl) h) Al)) Al ?_
   refine BG Aa ?_
   have W := W.frontZ (i := 2) Aa Aa
   have W := W.hideR C7 h2
   obtain ⟨x6, h8, H⟩ := Am H
   refine E8 (r := CJ) (i := 0) F W Aa KF Aa Aa Aa Aa (FN W 1 Aa) h8 Aa fun v9 a w F W => ?_
   have W : Stw ⟨Y, [], w0⟩ [(b3, [.int .i64 p0.un.1, .int .i64 p0.un.2.1, .int .i64 p0.un.2.2.1, v4]), (b2, [.int .i64 0, .int .i64 0, .int .i64 0, .slice none 0 0]), (b1, [.int .i64 p0.un.1, .int .i64 p0.un.2.1, .int .i64 p0.un.2.2.1, v1])] [row v9 24 CJ x6, row v8 24 CJ ([x5] : List Tr24), Hi v7 CJ x5.un.2.2.2] w := W
   refine AC (N2 := []) (NZ2 := []) (N3 := [(some 9, b3, [.int .i64 p0.un.1, .int .i64 p0.un.2.1, .int .i64 p0.un.2.2.1, v4]), (some 7, b1, [.int .i64 p0.un.1, .int .i64 p0.un.2.1, .int .i64 p0.un.2.2.1, v1])]) (NZ3 := []) W Aa Aa (Ab (fun h => Ac (by kernel_rfl) h) (Ab (fun h => Ac (by kernel_rfl) h) Al)) Al ?_
   refine A6 (R := []) F Aa Aa (yC fun M Z hN hZ => Ak BZ Aa Aa Aa ER F Aa 3 Aa) Aa Aa fun a F => ?_
   refine BG Aa ?_
   refine HK (M' := [(b3, [.int .i64 p0.un.1, .int .i64 p0.un.2.1, .int .i64 p0.un.2.2.1, v9]), (b2, [.int .i64 0, .int .i64 0, .int .i64 0, .slice none 0 0]), (b1, [.int .i64 p0.un.1, .int .i64 p0.un.2.1, .int .i64 p0.un.2.2.1, v1])]) 0 F W Aa Aa Aa ER (W.one (k := 0) Aa) Aa Aa fun w W => ?_
   refine AC (N2 := []) (NZ2 := []) (N3 := [(some 9, b3, [.int .i64 p0.un.1, .int .i64 p0.un.2.1, .int .i64 p0.un.2.2.1, v4]), (some 7, b1, [.int .i64 p0.un.1, .int .i64 p0.un.2.1, .int .i64 p0.un.2.2.1, v1])]) (NZ3 := []) W Aa Aa (Ab (fun h => Ac (by kernel_rfl) h) (Ab (fun h => Ac (by kernel_rfl) h) Al)) Al ?_
   refine DS (A8 (Ad (Ae ?_)))
   refine ls F W Aa (Ai F Aa).q fun a w F W => ?_
   refine ls F W Aa (BC F Aa Aa Aa).q fun a w F W => ?_
   refine ls F W Aa (Ah F Aa).q fun a w F W => ?_
   refine Ag (Ad ?_)
   have W := W.frontM (i := 2) Aa Aa
   have W := W.frontM (i := 2) Aa Aa
   have W := W.frontM (i := 2) Aa Aa
   have W := W.sub (M' := [(b3, [.int .i64 p0.un.1, .int .i64 p0.un.2.1, .int .i64 p0.un.2.2.1, v9]), (b2, [.int .i64 0, .int .i64 0, .int .i64 0, .slice none 0 0]), (b1, [.int .i64 p0.un.1, .int .i64 p0.un.2.1, .int .i64 p0.un.2.2.1, v1])]) (Z' := [row v9 24 CJ x6]) (List.Sublist.refl _) (List.Sublist.cons_cons _ (List.nil_sublist _))
   exact ⟨_, H, (v9), F.re ⟨rfl, Aa, Aa, Aa, trivial⟩, W⟩
  have H := AX (Bl hb) H
  rw [hb] at F
  clear hb
  refine Bx ?_
  iterate 2 refine BO ?_
  refine Bz (Ad ?_)
  have W := W.frontM (i := 2) Aa Aa
  have W := W.frontM (i := 2) Aa Aa
  have W := W.frontM (i := 2) Aa Aa
  have H := L2 _ H
  exact ⟨_, (v4), H, F.re ⟨rfl, Aa, trivial⟩, W⟩
 rintro a w ⟨x1, v3, hj, F, W⟩
 have hj := AM hj
 subst hj
 have H := K1
 clear G1 K1
 refine Aj (Ae ?_)
 refine ls F W Aa (Aq (v := Value.agg #[.int .i64 p0.un.1, .int .i64 p0.un.2.1, .int .i64 p0.un.2.2.1, v3]) 0 F Aa Aa FC Aa).q fun a w F W => ?_
 refine BN (vs := [.int .i64 p0.un.1, .int .i64 p0.un.2.1, .int .i64 p0.un.2.2.1, v3]) (M' := [(b3, [.int .i64 p0.un.1, .int .i64 p0.un.2.1, .int .i64 p0.un.2.2.1, v3]), (b2, [.int .i64 p0.un.1, .int .i64 p0.un.2.1, .int .i64 p0.un.2.2.1, v3]), (b1, [.int .i64 p0.un.1, .int .i64 p0.un.2.1, .int .i64 p0.un.2.2.1, v1])]) 1 F W Aa Aa Aa FC Aa Aa Aa (AB Aa (AB Aa (AB Aa (AB (W.one (k := 0) Aa) CZ)))) Aa fun w W => ?_
 refine Ag (Ad (Az ?_))
 have H := AM H
 subst H
 refine AQ (.inl Aa) F W Aa (D3 1 F Aa Aa FC Aa) ?_
 have W := W.sub (M' := []) (Z' := [row v3 24 CJ x1]) (List.nil_sublist _) (List.Sublist.refl _)
 exact ⟨(v3), Aa, W⟩
theorem LL : ∀ (n : Nat) (Y : Nat → Prop) (w0 : World) (v1 : Value) (p0 : Tr31) (r : Tr24) (H : C3 n p0 = some r) (h_v1 : Sl w0 (NX []) BJ v1 p0.un.2.2.2), Calls Tryd.prog 22 #[.agg #[.int .i64 p0.un.1, .int .i64 p0.un.2.1, .int .i64 p0.un.2.2.1, v1]] w0 fun e w' => ∃ x : Value, e = .returned (.agg #[.int .i64 r.un.1, .int .i64 r.un.2.1, .int .i64 r.un.2.2.1, x]) ∧ Stw ⟨Y, [], w0⟩ [] [row (x) 24 CJ r.un.2.2.2] w' := by
  intro n
  induction n with
  | zero => intro Y w0 v1 p0 r H; exact nomatch H
  | succ n ih => intro Y w0 v1 p0 r H h_v1; exact Lh (C3 n) ih Y w0 v1 p0 r H h_v1
theorem MU (Y : Nat → Prop) (w0 : World) (v1 : Value) (p0 : Tr31) (r : Tr24) (H : IA p0 = some r) (h_v1 : Sl w0 (NX []) BJ v1 p0.un.2.2.2) :
    Calls Tryd.prog 22 #[.agg #[.int .i64 p0.un.1, .int .i64 p0.un.2.1, .int .i64 p0.un.2.2.1, v1]] w0 fun e w' => ∃ x : Value, e = .returned (.agg #[.int .i64 r.un.1, .int .i64 r.un.2.1, .int .i64 r.un.2.2.1, x]) ∧ Stw ⟨Y, [], w0⟩ [] [row (x) 24 CJ r.un.2.2.2] w' := by
  obtain ⟨n, H⟩ := Cs H
  exact LL n Y w0 v1 p0 r H h_v1
theorem R2 : Has Tryd.prog 24 := ⟨fun args w => Ao Tryd.func24 rfl (by decide) args w⟩
noncomputable def Dl (fRec : Tr24 → Option Tr24) (x1 : Tr24) : (Int × List Tr24) → Option ((Int × List Tr24) ⊕ (List Tr24))
  | (x6, x7) => (if x6 < (x1.un.2.2.2.length : Int) then (ix x1.un.2.2.2 x6).bind fun x8 => (fRec (Tr24.of (4, 0, 0, ([x8] : List Tr24)))).bind fun x9 => (F7 x7 ([x9] : List Tr24)).bind fun x10 => some (.inl (A1 (x6 + 1), x10)) else some (.inr x7))
noncomputable def C8 (fRec : Tr24 → Option Tr24) (p0 : Tr24) : (Int × List Tr24) → Option ((Int × List Tr24) ⊕ (List Tr24))
  | (x12, x13) => (if x12 < (p0.un.2.2.2.length : Int) then (ix p0.un.2.2.2 x12).bind fun x14 => (fRec x14).bind fun x15 => (F7 x13 ([x15] : List Tr24)).bind fun x16 => some (.inl (A1 (x12 + 1), x16)) else some (.inr x13))
noncomputable def En (fRec : Tr24 → Option Tr24) (p0 : Tr24) : Option Tr24 := IX (if p0.un.1 = 4 then (ix p0.un.2.2.2 0).bind fun x1 => (if x1.un.1 = 1 then some (.inr (Tr24.of (2, 0, 0, ([] : List Tr24)))) else (if x1.un.1 = 2 then some (.inr (Tr24.of (1, 0, 0, ([] : List Tr24)))) else (if x1.un.1 = 4 then (ix x1.un.2.2.2 0).bind fun x2 => (fRec x2).bind fun x3 => some (.inr x3) else (if x1.un.1 = 3 then some (.inr p0) else (if x1.un.1 = 6 then some 5 else some 6).bind fun x4 => (A3 (Dl fRec x1) (0, [])).bind fun x5 => some (.inr (Tr24.of (x4, 0, 0, x5))))))) else some (.inl ())) fun _ => (A3 (C8 fRec p0) (0, [])).bind fun x11 => some (Tr24.of (p0.un.1, p0.un.2.1, p0.un.2.2.1, x11))
noncomputable def CV : Nat → Tr24 → Option Tr24
  | 0 => fun _ => none
  | n + 1 => En (CV n)
noncomputable def Li (p0 : Tr24) : Option Tr24 := Fx fun n => CV n p0
theorem MR (fRec : Tr24 → Option Tr24) (ih : ∀ (Y : Nat → Prop) (w0 : World) (v1 : Value) (p0 : Tr24) (r : Tr24) (H : fRec p0 = some r) (s_v1 : Sl w0 Y CJ v1 p0.un.2.2.2), Calls Tryd.prog 24 #[.agg #[.int .i64 p0.un.1, .int .i64 p0.un.2.1, .int .i64 p0.un.2.2.1, v1]] w0 fun e w' => ∃ x : Value, e = .returned (.agg #[.int .i64 r.un.1, .int .i64 r.un.2.1, .int .i64 r.un.2.2.1, x]) ∧ Stw ⟨Y, [], w0⟩ [] [Hi (x) CJ r.un.2.2.2] w') (Y : Nat → Prop) (w0 : World) (v1 : Value) (p0 : Tr24) (r : Tr24) (H : En fRec p0 = some r) (s_v1 : Sl w0 Y CJ v1 p0.un.2.2.2) :
    Calls Tryd.prog 24 #[.agg #[.int .i64 p0.un.1, .int .i64 p0.un.2.1, .int .i64 p0.un.2.2.1, v1]] w0 fun e w' => ∃ x : Value, e = .returned (.agg #[.int .i64 r.un.1, .int .i64 r.un.2.1, .int .i64 r.un.2.2.1, x]) ∧ Stw ⟨Y, [], w0⟩ [] [Hi (x) CJ r.un.2.2.2] w' := by
 refine enter Tryd.func24 Aa Tryd.ntmps24 Aa fun a F => ?_
 have W := Stw.start Y w0
 obtain ⟨v2, h1, s_v1⟩ := s_v1.ex C7
 have h_v1 := W.nx s_v1
 unfold En at H
 refine Aj (Ae ?_)
 refine C5 (cs := [.int .i64 p0.un.1, .int .i64 p0.un.2.1, .int .i64 p0.un.2.2.1, v1]) F W Aa Aa Aa fun b1 a w F W => ?_
 refine CK (cs := [.int .i64 0, .int .i64 0, .int .i64 0, .slice none 0 0]) F W Aa Qv Aa fun b2 a w F W => ?_
 refine Ag (Ad ?_)
 obtain ⟨o1, G1, K1, L1⟩ := OP H
 refine AO (fun a w => some (Sum.inl ()) = some o1 ∧ Fr 87 [] [(1, .pointer (some ⟨b1, 0, none⟩)), (2, .pointer (some ⟨b2, 0, none⟩))] a ∧ Stw ⟨Y, [], w0⟩ [(b2, [.int .i64 0, .int .i64 0, .int .i64 0, .slice none 0 0]), (b1, [.int .i64 p0.un.1, .int .i64 p0.un.2.1, .int .i64 p0.un.2.2.1, v1])] [] w) ?_ ?_
 ·
  have H := G1
  clear G1 K1
  refine Aj (Ae ?_)
  refine ls F W Aa (Ak BZ Aa Aa Aa T3 F Aa 0 Aa).q fun a w F W => ?_
  refine ls F W Aa (Aq (v := Value.int .i64 p0.un.1) 1 F Aa Aa T3 Aa).q fun a w F W => ?_
  refine ls F W Aa (Bq F Aa Aa).q fun a w F W => ?_
  refine Ag (Ad ?_)
  refine Ay F Aa (fun hb => ?_) fun hb => ?_
  ·
   have H := AW (Bm hb) H
   rw [hb] at F
   clear hb
   refine Aj (Ae ?_)
   refine ls F W Aa (Ak BZ Aa Aa Aa ER F Aa 3 Aa).q fun a w F W => ?_
   refine ls F W Aa (Aq (v := v1) 1 F Aa Aa ER Aa).q fun a w F W => ?_
   obtain ⟨x1, h2, H⟩ := Am H
   obtain ⟨v3, h3, h4⟩ := DL h1 h2
   have h5 : E5 v3 = [.int .i64 x1.un.1, .int .i64 x1.un.2.1, .int .i64 x1.un.2.2.1, (v3.2.2.2.1)] := congrArg (fun q : Tr24 => ([.int .i64 q.un.1, .int .i64 q.un.2.1, .int .i64 q.un.2.2.1, (v3.2.2.2.1)] : List Value)) h4
   refine ls F W Aa (AG (r := Gd) KF F Aa Aa (Av h_v1) h3).q fun a w F W => ?_
   refine ls F W Aa (Ax (y := Value.agg #[.int .i64 x1.un.1, .int .i64 x1.un.2.1, .int .i64 x1.un.2.2.1, (v3.2.2.2.1)]) (j := 0) (i := 0) (enc := E5) F Aa Aa (Av h_v1) h3 Id FC (by rw [h5]; rfl)).q fun a w F W => ?_
   refine CK (cs := [.int .i64 0, .int .i64 0, .int .i64 0, .slice none 0 0]) F W Aa Qv Aa fun b3 a w F W => ?_
   refine BN (vs := [.int .i64 x1.un.1, .int .i64 x1.un.2.1, .int .i64 x1.un.2.2.1, (v3.2.2.2.1)]) (M' := [(b3, [.int .i64 x1.un.1, .int .i64 x1.un.2.1, .int .i64 x1.un.2.2.1, (v3.2.2.2.1)]), (b2, [.int .i64 0, .int .i64 0, .int .i64 0, .slice none 0 0]), (b1, [.int .i64 p0.un.1, .int .i64 p0.un.2.1, .int .i64 p0.un.2.2.1, v1])]) 0 F W Aa Aa Aa FC Aa Aa Aa (AB Aa (AB Aa (AB Aa (AB ((CG (Av h_v1) h3 (A5.snd (A5.snd (A5.snd A5.here))) (congrArg (fun q : Tr24 => q.un.2.2.2) h4)) _ W).one CZ)))) Aa fun w W => ?_
   refine Ag (Ad (Aj (Aj (Ae ?_))))
   refine ls F W Aa (Ak BZ Aa Aa Aa T3 F Aa 0 Aa).q fun a w F W => ?_
   refine ls F W Aa (Aq (v := Value.int .i64 x1.un.1) 0 F Aa Aa T3 Aa).q fun a w F W => ?_
   refine ls F W Aa (Bq F Aa Aa).q fun a w F W => ?_
   refine Ag (Ad ?_)
   refine Ay F Aa (fun hb => ?_) fun hb => ?_
   ·
    have H := AW (Bm hb) H
    rw [hb] at F
    clear hb
    refine Aj (Ae ?_)
    refine ls F W Aa (DQ (v := Value.agg #[.int .i64 2, .int .i64 0, .int .i64 0, .slice none 0 0]) Rx F Aa Aa Aa).q fun a w F W => ?_
    refine BN (vs := [.int .i64 2, .int .i64 0, .int .i64 0, .slice none 0 0]) (M' := [(b3, [.int .i64 x1.un.1, .int .i64 x1.un.2.1, .int .i64 x1.un.2.2.1, (v3.2.2.2.1)]), (b2, [.int .i64 2, .int .i64 0, .int .i64 0, .slice none 0 0]), (b1, [.int .i64 p0.un.1, .int .i64 p0.un.2.1, .int .i64 p0.un.2.2.1, v1])]) 1 F W Aa Aa Aa FC Aa Aa Aa Aa Aa fun w W => ?_
    refine Ag (Ad (Az ?_))
    iterate 2 refine AR ?_
    have H := L1 _ H
    have H := AM H
    subst H
    refine AQ (.inl Aa) F W Aa (D3 1 F Aa Aa FC Aa) ?_
    have W := W.note (Sl.nil (r := CJ))
    have W := W.sub (M' := []) (Z' := [Hi (Value.slice none 0 0) CJ ([])]) (List.nil_sublist _) (List.Sublist.refl _)
    exact ⟨(Value.slice none 0 0), Aa, W⟩
   have H := AX (Bl hb) H
   rw [hb] at F
   clear hb
   refine Aw (Ad (Aj (Aj (Ae ?_))))
   refine ls F W Aa (Ak BZ Aa Aa Aa T3 F Aa 0 Aa).q fun a w F W => ?_
   refine ls F W Aa (Aq (v := Value.int .i64 x1.un.1) 0 F Aa Aa T3 Aa).q fun a w F W => ?_
   refine ls F W Aa (Bq F Aa Aa).q fun a w F W => ?_
   refine Ag (Ad ?_)
   refine Ay F Aa (fun hb => ?_) fun hb => ?_
   ·
    have H := AW (Bm hb) H
    rw [hb] at F
    clear hb
    refine Aj (Ae ?_)
    refine ls F W Aa (DQ (v := Value.agg #[.int .i64 1, .int .i64 0, .int .i64 0, .slice none 0 0]) Rx F Aa Aa Aa).q fun a w F W => ?_
    refine BN (vs := [.int .i64 1, .int .i64 0, .int .i64 0, .slice none 0 0]) (M' := [(b3, [.int .i64 x1.un.1, .int .i64 x1.un.2.1, .int .i64 x1.un.2.2.1, (v3.2.2.2.1)]), (b2, [.int .i64 1, .int .i64 0, .int .i64 0, .slice none 0 0]), (b1, [.int .i64 p0.un.1, .int .i64 p0.un.2.1, .int .i64 p0.un.2.2.1, v1])]) 1 F W Aa Aa Aa FC Aa Aa Aa Aa Aa fun w W => ?_
    refine Ag (Ad (Az ?_))
    iterate 2 refine AR ?_
    have H := L1 _ H
    have H := AM H
    subst H
    refine AQ (.inl Aa) F W Aa (D3 1 F Aa Aa FC Aa) ?_
    have W := W.note (Sl.nil (r := CJ))
    have W := W.sub (M' := []) (Z' := [Hi (Value.slice none 0 0) CJ ([])]) (List.nil_sublist _) (List.Sublist.refl _)
    exact ⟨(Value.slice none 0 0), Aa, W⟩
   have H := AX (Bl hb) H
   rw [hb] at F
   clear hb
   refine Aw (Ad (Aj (Aj (Ae ?_))))
   refine ls F W Aa (Ak BZ Aa Aa Aa T3 F Aa 0 Aa).q fun a w F W => ?_
   refine ls F W Aa (Aq (v := Value.int .i64 x1.un.1) 0 F Aa Aa T3 Aa).q fun a w F W => ?_
   refine ls F W Aa (Bq F Aa Aa).q fun a w F W => ?_
   refine Ag (Ad ?_)
   refine Ay F Aa (fun hb => ?_) fun hb => ?_
   ·
    have H := AW (Bm hb) H
    rw [hb] at F
    clear hb
    refine Aj ?_
    obtain ⟨v4, h6, h7⟩ := Sl.ex C7 (Sl.at_ s_v1 h3 (A5.snd (A5.snd (A5.snd A5.here))) (congrArg (fun q : Tr24 => q.un.2.2.2) h4))
    have h8 := W.nx h7
    refine Ae ?_
    refine ls F W Aa (Ak BZ Aa Aa Aa ER F Aa 3 Aa).q fun a w F W => ?_
    refine ls F W Aa (Aq (v := (v3.2.2.2.1)) 0 F Aa Aa ER Aa).q fun a w F W => ?_
    obtain ⟨x2, h9, H⟩ := Am H
    obtain ⟨v5, h10, h11⟩ := DL h6 h9
    have h12 : E5 v5 = [.int .i64 x2.un.1, .int .i64 x2.un.2.1, .int .i64 x2.un.2.2.1, (v5.2.2.2.1)] := congrArg (fun q : Tr24 => ([.int .i64 q.un.1, .int .i64 q.un.2.1, .int .i64 q.un.2.2.1, (v5.2.2.2.1)] : List Value)) h11
    refine ls F W Aa (AG (r := Gd) KF F Aa Aa (Av h8) h10).q fun a w F W => ?_
    refine ls F W Aa (Ax (y := Value.agg #[.int .i64 x2.un.1, .int .i64 x2.un.2.1, .int .i64 x2.un.2.2.1, (v5.2.2.2.1)]) (j := 0) (i := 0) (enc := E5) F Aa Aa (Av h8) h10 Id FC (by rw [h12]; rfl)).q fun a w F W => ?_
    obtain ⟨x3, h13, H⟩ := Am H
    refine BD (Ml := []) (Zl := []) (M := [(b3, [.int .i64 x1.un.1, .int .i64 x1.un.2.1, .int .i64 x1.un.2.2.1, (v3.2.2.2.1)]), (b2, [.int .i64 0, .int .i64 0, .int .i64 0, .slice none 0 0]), (b1, [.int .i64 p0.un.1, .int .i64 p0.un.2.1, .int .i64 p0.un.2.2.1, v1])]) (Z := []) (β := Value) (rv := fun x => .agg #[.int .i64 x3.un.1, .int .i64 x3.un.2.1, .int .i64 x3.un.2.2.1, x]) (MM := fun x => []) (ZZ := fun x => [Hi x CJ x3.un.2.2.2]) F W R2 Aa Aa (fun hL => ih _ w ((v5.2.2.2.1)) x2 _ h13 (Sl.at_ (W.old h7) h10 (A5.snd (A5.snd (A5.snd A5.here))) (congrArg (fun q : Tr24 => q.un.2.2.2) h11))) fun x a w F W => ?_
    obtain ⟨v6, rfl⟩ : ∃ y, y = x := ⟨x, rfl⟩
    have W : Stw ⟨Y, [], w0⟩ [(b3, [.int .i64 x1.un.1, .int .i64 x1.un.2.1, .int .i64 x1.un.2.2.1, (v3.2.2.2.1)]), (b2, [.int .i64 0, .int .i64 0, .int .i64 0, .slice none 0 0]), (b1, [.int .i64 p0.un.1, .int .i64 p0.un.2.1, .int .i64 p0.un.2.2.1, v1])] [Hi v6 CJ x3.un.2.2.2] w := W
    refine BN (vs := [.int .i64 x3.un.1, .int .i64 x3.un.2.1, .int .i64 x3.un.2.2.1, v6]) (M' := [(b3, [.int .i64 x1.un.1, .int .i64 x1.un.2.1, .int .i64 x1.un.2.2.1, (v3.2.2.2.1)]), (b2, [.int .i64 x3.un.1, .int .i64 x3.un.2.1, .int .i64 x3.un.2.2.1, v6]), (b1, [.int .i64 p0.un.1, .int .i64 p0.un.2.1, .int .i64 p0.un.2.2.1, v1])]) 1 F W Aa Aa Aa FC Aa Aa Aa (AB Aa (AB Aa (AB Aa (AB (W.oneF (k := 0) Aa) CZ)))) Aa fun w W => ?_
    refine Ag (Ad (Az ?_))
    iterate 2 refine AR ?_
    have H := L1 _ H
    have H := AM H
    subst H
    refine AQ (.inl Aa) F W Aa (D3 1 F Aa Aa FC Aa) ?_
    have W := W.sub (M' := []) (Z' := [Hi v6 CJ x3.un.2.2.2]) (List.nil_sublist _) (List.Sublist.refl _)
    exact ⟨(v6), Aa, W⟩
   have H := AX (Bl hb) H
   rw [hb] at F
   clear hb
   refine Aw (Ad (Aj (Aj (Ae ?_))))
   refine ls F W Aa (Ak BZ Aa Aa Aa T3 F Aa 0 Aa).q fun a w F W => ?_
   refine ls F W Aa (Aq (v := Value.int .i64 x1.un.1) 0 F Aa Aa T3 Aa).q fun a w F W => ?_
   refine ls F W Aa (Bq F Aa Aa).q fun a w F W => ?_
   refine Ag (Ad ?_)
   refine Ay F Aa (fun hb => ?_) fun hb => ?_
   ·
    have H := AW (Bm hb) H
    rw [hb] at F
    clear hb
    refine Aj (Ae ?_)
    refine ls F W Aa (Aq (v := Value.agg #[.int .i64 p0.un.1, .int .i64 p0.un.2.1, .int .i64 p0.un.2.2.1, v1]) 2 F Aa Aa FC Aa).q fun a w F W => ?_
    refine BN (vs := [.int .i64 p0.un.1, .int .i64 p0.un.2.1, .int .i64 p0.un.2.2.1, v1]) (M' := [(b3, [.int .i64 x1.un.1, .int .i64 x1.un.2.1, .int .i64 x1.un.2.2.1, (v3.2.2.2.1)]), (b2, [.int .i64 p0.un.1, .int .i64 p0.un.2.1, .int .i64 p0.un.2.2.1, v1]), (b1, [.int .i64 p0.un.1, .int .i64 p0.un.2.1, .int .i64 p0.un.2.2.1, v1])]) 1 F W Aa Aa Aa FC Aa Aa Aa (AB Aa (AB Aa (AB Aa (AB h_v1.one CZ)))) Aa fun w W => ?_
    refine Ag (Ad (Az ?_))
    iterate 2 refine AR ?_
    have H := L1 _ H
    have H := AM H
    subst H
    refine AQ (.inl Aa) F W Aa (D3 1 F Aa Aa FC Aa) ?_
    have W := W.note (Sl.hide C7 h1 (W.old s_v1))
    have W := W.sub (M' := []) (Z' := [Hi v1 CJ p0.un.2.2.2]) (List.nil_sublist _) (List.Sublist.refl _)
    exact ⟨(v1), Aa, W⟩
   have H := AX (Bl hb) H
   rw [hb] at F
   clear hb
   refine Aw (Ad (Aj (Ae ?_)))
   refine ls F W Aa (DQ (v := Value.agg #[.int .i64 6, .int .i64 0, .int .i64 0, .slice none 0 0]) Rx F Aa Aa Aa).q fun a w F W => ?_
   refine CK (cs := [.int .i64 0, .int .i64 0, .int .i64 0, .slice none 0 0]) F W Aa Qv Aa fun b4 a w F W => ?_
   refine BN (vs := [.int .i64 6, .int .i64 0, .int .i64 0, .slice none 0 0]) (M' := [(b4, [.int .i64 6, .int .i64 0, .int .i64 0, .slice none 0 0]), (b3, [.int .i64 x1.un.1, .int .i64 x1.un.2.1, .int .i64 x1.un.2.2.1, (v3.2.2.2.1)]), (b2, [.int .i64 0, .int .i64 0, .int .i64 0, .slice none 0 0]), (b1, [.int .i64 p0.un.1, .int .i64 p0.un.2.1, .int .i64 p0.un.2.2.1, v1])]) 0 F W Aa Aa Aa FC Aa Aa Aa Aa Aa fun w W => ?_
   refine Ag (Ad ?_)
   obtain ⟨o2, G2, K2⟩ := Am H
   refine AO (fun a w => ∃ x4 : Int, some (x4) = some o2 ∧ Fr 87 [] [(1, .pointer (some ⟨b1, 0, none⟩)), (2, .pointer (some ⟨b2, 0, none⟩)), (3, .pointer (some ⟨b3, 0, none⟩)), (4, .pointer (some ⟨b4, 0, none⟩))] a ∧ Stw ⟨Y, [], w0⟩ [(b4, [.int .i64 x4, .int .i64 0, .int .i64 0, .slice none 0 0]), (b3, [.int .i64 x1.un.1, .int .i64 x1.un.2.1, .int .i64 x1.un.2.2.1, (v3.2.2.2.1)]), (b2, [.int .i64 0, .int .i64 0, .int .i64 0, .slice none 0 0]), (b1, [.int .i64 p0.un.1, .int .i64 p0.un.2.1, .int .i64 p0.un.2.2.1, v1])] [] w) ?_ ?_
   ·
    have H := G2
    clear G2 K2
    refine Aj (Ae ?_)
    refine ls F W Aa (Ak BZ Aa Aa Aa T3 F Aa 0 Aa).q fun a w F W => ?_
    refine ls F W Aa (Aq (v := Value.int .i64 x1.un.1) 1 F Aa Aa T3 Aa).q fun a w F W => ?_
    refine ls F W Aa (Bq F Aa Aa).q fun a w F W => ?_
    refine Ag (Ad ?_)
    refine Ay F Aa (fun hb => ?_) fun hb => ?_
    ·
     have H := AW (Bm hb) H
     rw [hb] at F
     clear hb
     refine Ae ?_
     refine ls F W Aa (Ak BZ Aa Aa Aa T3 F Aa 0 Aa).q fun a w F W => ?_
     refine BN (vs := [.int .i64 5]) (M' := [(b4, [.int .i64 5, .int .i64 0, .int .i64 0, .slice none 0 0]), (b3, [.int .i64 x1.un.1, .int .i64 x1.un.2.1, .int .i64 x1.un.2.2.1, (v3.2.2.2.1)]), (b2, [.int .i64 0, .int .i64 0, .int .i64 0, .slice none 0 0]), (b1, [.int .i64 p0.un.1, .int .i64 p0.un.2.1, .int .i64 p0.un.2.2.1, v1])]) 0 F W Aa Aa Aa T3 Aa Aa Aa Aa Aa fun w W => ?_
     refine Ag (Ad ?_)
     have W := W.frontM (i := 3) Aa Aa
     have W := W.frontM (i := 3) Aa Aa
     have W := W.frontM (i := 3) Aa Aa
     have W := W.frontM (i := 3) Aa Aa
     exact ⟨_, H, F.re ⟨rfl, Aa, Aa, Aa, trivial⟩, W⟩
    have H := AX (Bl hb) H
    rw [hb] at F
    clear hb
    refine Aw (Ad ?_)
    have W := W.frontM (i := 3) Aa Aa
    have W := W.frontM (i := 3) Aa Aa
    have W := W.frontM (i := 3) Aa Aa
    have W := W.frontM (i := 3) Aa Aa
    exact ⟨_, H, F.re ⟨rfl, Aa, Aa, Aa, trivial⟩, W⟩
   rintro a w ⟨x4, hj, F, W⟩
   have hj := AM hj
   subst hj
   have H := K2
   clear G2 K2
   obtain ⟨o3, G3, K3⟩ := Am H
   refine AO (fun a w => ∃ x5 : List Tr24, ∃ v7 : Value, some (x5) = some o3 ∧ Fr 87 [] [(1, .pointer (some ⟨b1, 0, none⟩)), (2, .pointer (some ⟨b2, 0, none⟩)), (4, .pointer (some ⟨b4, 0, none⟩))] a ∧ Stw ⟨Y, [], w0⟩ [(b4, [.int .i64 x4, .int .i64 0, .int .i64 0, v7]), (b3, [.int .i64 x1.un.1, .int .i64 x1.un.2.1, .int .i64 x1.un.2.2.1, (v3.2.2.2.1)]), (b2, [.int .i64 0, .int .i64 0, .int .i64 0, .slice none 0 0]), (b1, [.int .i64 p0.un.1, .int .i64 p0.un.2.1, .int .i64 p0.un.2.2.1, v1])] [row v7 24 CJ x5] w) ?_ ?_
   ·
    have H := G3
    clear G3 K3
    refine Aj (Ae ?_)
    refine ls F W Aa (Ah F Aa).q fun a w F W => ?_
    refine Ag (Ad (AA ?_))
    have W := W.nilRow 24 CJ
    have W := W.frontM (i := 3) Aa Aa
    have W := W.frontM (i := 3) Aa Aa
    have W := W.frontM (i := 3) Aa Aa
    have W := W.frontM (i := 3) Aa Aa
    refine BI H (fun s a w => ∃ v8 : Value, Fr 87 [] [(1, .pointer (some ⟨b1, 0, none⟩)), (2, .pointer (some ⟨b2, 0, none⟩)), (3, .pointer (some ⟨b3, 0, none⟩)), (4, .pointer (some ⟨b4, 0, none⟩)), (5, .int .i64 s.1)] a ∧ Stw ⟨Y, [], w0⟩ [(b4, [.int .i64 x4, .int .i64 0, .int .i64 0, v8]), (b3, [.int .i64 x1.un.1, .int .i64 x1.un.2.1, .int .i64 x1.un.2.2.1, (v3.2.2.2.1)]), (b2, [.int .i64 0, .int .i64 0, .int .i64 0, .slice none 0 0]), (b1, [.int .i64 p0.un.1, .int .i64 p0.un.2.1, .int .i64 p0.un.2.2.1, v1])] [row v8 24 CJ s.2] w) ⟨(Value.slice none 0 0), F.re ⟨rfl, Aa, Aa, Aa, Aa, trivial⟩, W⟩ fun s o a w H L4 hR => ?_
    obtain ⟨x6, x7⟩ := s
    obtain ⟨v8, F, W⟩ := hR
    have F : Fr 87 [] [(1, .pointer (some ⟨b1, 0, none⟩)), (2, .pointer (some ⟨b2, 0, none⟩)), (3, .pointer (some ⟨b3, 0, none⟩)), (4, .pointer (some ⟨b4, 0, none⟩)), (5, .int .i64 x6)] a := F
    have W : Stw ⟨Y, [], w0⟩ [(b4, [.int .i64 x4, .int .i64 0, .int .i64 0, v8]), (b3, [.int .i64 x1.un.1, .int .i64 x1.un.2.1, .int .i64 x1.un.2.2.1, (v3.2.2.2.1)]), (b2, [.int .i64 0, .int .i64 0, .int .i64 0, .slice none 0 0]), (b1, [.int .i64 p0.un.1, .int .i64 p0.un.2.1, .int .i64 p0.un.2.2.1, v1])] [row v8 24 CJ x7] w := W
    rw [Dl] at H
    refine Aj (Aj (Ae ?_))
    refine ls F W Aa (Ai F Aa).q fun a w F W => ?_
    refine ls F W Aa (Ak BZ Aa Aa Aa ER F Aa 3 Aa).q fun a w F W => ?_
    refine ls F W Aa (Aq (v := (v3.2.2.2.1)) 1 F Aa Aa ER Aa).q fun a w F W => ?_
    refine ls F W Aa (CT (r := CJ) (l := x1.un.2.2.2) ID Aa F Aa (CG (Av h_v1) h3 (A5.snd (A5.snd (A5.snd A5.here))) (congrArg (fun q : Tr24 => q.un.2.2.2) h4))).q fun a w F W => ?_
    refine ls F W Aa (Cy F Aa Aa).q fun a w F W => ?_
    refine Ag (Ad ?_)
    refine Ay F Aa (fun hb => ?_) fun hb => ?_
    ·
     have H := AW (Bm hb) H
     rw [hb] at F
     clear hb
     refine Aw (Ad (Aj (AA ?_)))
     obtain ⟨v9, h14, W⟩ := W.exR C7
     obtain ⟨v10, h15, h16⟩ := Sl.ex C7 (Sl.at_ s_v1 h3 (A5.snd (A5.snd (A5.snd A5.here))) (congrArg (fun q : Tr24 => q.un.2.2.2) h4))
     have h17 := W.nx h16
     refine Eb [(true, 0), (true, 1), (true, 2), (true, 3), (true, 4), (true, 5), (true, 6), (false, 7), (true, 8), (false, 9), (false, 10), (false, 11), (true, 12), (false, 13)] (CN ⟨Y, [], w0⟩ [(some 11, b4, [.int .i64 x4, .int .i64 0, .int .i64 0, v8]), (some 7, b3, [.int .i64 x1.un.1, .int .i64 x1.un.2.1, .int .i64 x1.un.2.2.1, (v3.2.2.2.1)])] []) (fun ch a d v w h => by cases d <;> exact h) MO (by kernel_rfl) W (fun w W => ⟨_, _, W, (Ab (fun _ => (.head _)) (Ab (fun _ => (.tail _ (.head _))) Al)), Al⟩) fun w W => ?_
     refine A6 (R := []) F Aa Aa (yC fun M Z hN hZ => Ak BZ Aa Aa Aa ER F Aa 3 Aa) Aa Aa fun a F => ?_
     refine A6 (R := [11]) F Aa Aa (yC fun M Z hN hZ => B6 (cs := [.int .i64 x4, .int .i64 0, .int .i64 0, v8]) (v := v8) F Aa (hN ((some 11), b4, [.int .i64 x4, .int .i64 0, .int .i64 0, v8]) (.head _) Aa) ER Aa) (by kernel_rfl) Aa fun a F => ?_
     refine A6 (R := []) F Aa Aa (yC fun M Z hN hZ => Ak BZ Aa Aa Aa ER F Aa 3 Aa) Aa Aa fun a F => ?_
     refine A6 (R := [7, 6, 5]) F Aa Aa (yC fun M Z hN hZ => B6 (cs := [.int .i64 x1.un.1, .int .i64 x1.un.2.1, .int .i64 x1.un.2.2.1, (v3.2.2.2.1)]) (v := (v3.2.2.2.1)) F Aa (hN ((some 7), b3, [.int .i64 x1.un.1, .int .i64 x1.un.2.1, .int .i64 x1.un.2.2.1, (v3.2.2.2.1)]) (.tail _ (.head _)) Aa) ER Aa) (by kernel_rfl) Aa fun a F => ?_
     refine A6 (R := []) F Aa Aa (yC fun M Z hN hZ => Ai F Aa) Aa Aa fun a F => ?_
     obtain ⟨x8, h18, H⟩ := Am H
     obtain ⟨v11, h19, h20⟩ := DL h15 h18
     have h21 : E5 v11 = [.int .i64 x8.un.1, .int .i64 x8.un.2.1, .int .i64 x8.un.2.2.1, (v11.2.2.2.1)] := congrArg (fun q : Tr24 => ([.int .i64 q.un.1, .int .i64 q.un.2.1, .int .i64 q.un.2.2.1, (v11.2.2.2.1)] : List Value)) h20
     refine A6 (R := []) F Aa Aa (yC fun M Z hN hZ => AG (r := Gd) KF F Aa Aa (Av h17) h19) Aa Aa fun a F => ?_
     refine A6 (R := []) F Aa Aa (yC fun M Z hN hZ => Ax (y := Value.agg #[.int .i64 x8.un.1, .int .i64 x8.un.2.1, .int .i64 x8.un.2.2.1, (v11.2.2.2.1)]) (j := 0) (i := x6) (enc := E5) F Aa Aa (Av h17) h19 Id FC (by rw [h21]; rfl)) Aa Aa fun a F => ?_
     refine BG Aa ?_
     refine GE (z := Value.agg #[.int .i64 0, .int .i64 0, .int .i64 0, .slice none 0 0]) (cs := [.int .i64 x8.un.1, .int .i64 x8.un.2.1, .int .i64 x8.un.2.2.1, (v11.2.2.2.1)]) CJ ([x8] : List Tr24) F W Aa KF Qv Aa Aa Aa (Cl Aa Aa Aa Dx) Aa Aa ⟨[Value.int .i64 x8.un.1, Value.int .i64 x8.un.2.1, Value.int .i64 x8.un.2.2.1, (v11.2.2.2.1)], _, Aa, (Pc.2 ⟨[Value.int .i64 x8.un.1], [Value.int .i64 x8.un.2.1, Value.int .i64 x8.un.2.2.1, (v11.2.2.2.1)], Aa, Aa, ⟨[Value.int .i64 x8.un.2.1], [Value.int .i64 x8.un.2.2.1, (v11.2.2.2.1)], Aa, Aa, ⟨[Value.int .i64 x8.un.2.2.1], [(v11.2.2.2.1)], Aa, Aa, ⟨_, Aa, (Sl.at_ (W.old h16) h19 (A5.snd (A5.snd (A5.snd A5.here))) (congrArg (fun q : Tr24 => q.un.2.2.2) h20))⟩⟩⟩⟩), Aa⟩ fun v12 a w F W => ?_
     refine AC (N2 := []) (NZ2 := []) (N3 := [(some 11, b4, [.int .i64 x4, .int .i64 0, .int .i64 0, v8]), (some 7, b3, [.int .i64 x1.un.1, .int .i64 x1.un.2.1, .int .i64 x1.un.2.2.1, (v3.2.2.2.1)])]) (NZ3 := []) W Aa Aa (Ab (fun _ => (.head _)) (Ab (fun h => Ac (by kernel_rfl) h) Al)) Al ?_
     refine A6 (R := []) F Aa Aa (yC fun M Z hN hZ => DQ (v := Value.agg #[.int .i64 4, .int .i64 0, .int .i64 0, v12]) Rx F Aa (Cl Aa Aa Aa (Cl Aa (FG (W.one (k := 0) Aa)) Aa Dx)) Aa) Aa Aa fun a F => ?_
     refine BG Aa ?_
     obtain ⟨x9, h22, H⟩ := Am H
     have W := W.freeze
     refine BD (Ml := []) (Zl := []) (M := [(b4, [.int .i64 x4, .int .i64 0, .int .i64 0, v8]), (b3, [.int .i64 x1.un.1, .int .i64 x1.un.2.1, .int .i64 x1.un.2.2.1, (v3.2.2.2.1)]), (b2, [.int .i64 0, .int .i64 0, .int .i64 0, .slice none 0 0]), (b1, [.int .i64 p0.un.1, .int .i64 p0.un.2.1, .int .i64 p0.un.2.2.1, v1])]) (Z := [Hi v12 CJ ([x8] : List Tr24), row v8 24 Gd v9]) (β := Value) (rv := fun x => .agg #[.int .i64 x9.un.1, .int .i64 x9.un.2.1, .int .i64 x9.un.2.2.1, x]) (MM := fun x => []) (ZZ := fun x => [Hi x CJ x9.un.2.2.2]) F W R2 Aa Aa (fun hL => ih _ w (v12) (Tr24.of (4, 0, 0, ([x8] : List Tr24))) _ h22 (W.item (i := 0) Aa)) fun x a w F W => ?_
     obtain ⟨v13, rfl⟩ : ∃ y, y = x := ⟨x, rfl⟩
     have W : Stw ⟨Y, [], w0⟩ [(b4, [.int .i64 x4, .int .i64 0, .int .i64 0, v8]), (b3, [.int .i64 x1.un.1, .int .i64 x1.un.2.1, .int .i64 x1.un.2.2.1, (v3.2.2.2.1)]), (b2, [.int .i64 0, .int .i64 0, .int .i64 0, .slice none 0 0]), (b1, [.int .i64 p0.un.1, .int .i64 p0.un.2.1, .int .i64 p0.un.2.2.1, v1])] [Hi v13 CJ x9.un.2.2.2, Hi v12 CJ ([x8] : List Tr24), row v8 24 Gd v9] w := W
     refine AC (N2 := []) (NZ2 := []) (N3 := [(some 11, b4, [.int .i64 x4, .int .i64 0, .int .i64 0, v8]), (some 7, b3, [.int .i64 x1.un.1, .int .i64 x1.un.2.1, .int .i64 x1.un.2.2.1, (v3.2.2.2.1)])]) (NZ3 := []) W Aa Aa (Ab (fun _ => (.head _)) (Ab (fun h => Ac (by kernel_rfl) h) Al)) Al ?_
     refine BG Aa ?_
     refine GE (z := Value.agg #[.int .i64 0, .int .i64 0, .int .i64 0, .slice none 0 0]) (cs := [.int .i64 x9.un.1, .int .i64 x9.un.2.1, .int .i64 x9.un.2.2.1, v13]) CJ ([x9] : List Tr24) F W Aa KF Qv Aa Aa Aa (Cl Aa Aa Aa Dx) Aa Aa ⟨[Value.int .i64 x9.un.1, Value.int .i64 x9.un.2.1, Value.int .i64 x9.un.2.2.1, v13], _, Aa, (Pc.2 ⟨[Value.int .i64 x9.un.1], [Value.int .i64 x9.un.2.1, Value.int .i64 x9.un.2.2.1, v13], Aa, Aa, ⟨[Value.int .i64 x9.un.2.1], [Value.int .i64 x9.un.2.2.1, v13], Aa, Aa, ⟨[Value.int .i64 x9.un.2.2.1], [v13], Aa, Aa, ⟨_, Aa, (W.item (i := 0) Aa)⟩⟩⟩⟩), Aa⟩ fun v14 a w F W => ?_
     refine AC (N2 := []) (NZ2 := []) (N3 := [(some 11, b4, [.int .i64 x4, .int .i64 0, .int .i64 0, v8]), (some 7, b3, [.int .i64 x1.un.1, .int .i64 x1.un.2.1, .int .i64 x1.un.2.2.1, (v3.2.2.2.1)])]) (NZ3 := []) W Aa Aa (Ab (fun _ => (.head _)) (Ab (fun h => Ac (by kernel_rfl) h) Al)) Al ?_
     refine BG Aa ?_
     have W := W.frontZ (i := 3) Aa Aa
     have W := W.hideR C7 h14
     obtain ⟨x10, h23, H⟩ := Am H
     refine E8 (r := CJ) (i := 0) F W Aa KF Aa Aa Aa Aa (FN W 1 Aa) h23 Aa fun v15 a w F W => ?_
     have W : Stw ⟨Y, [], w0⟩ [(b4, [.int .i64 x4, .int .i64 0, .int .i64 0, v8]), (b3, [.int .i64 x1.un.1, .int .i64 x1.un.2.1, .int .i64 x1.un.2.2.1, (v3.2.2.2.1)]), (b2, [.int .i64 0, .int .i64 0, .int .i64 0, .slice none 0 0]), (b1, [.int .i64 p0.un.1, .int .i64 p0.un.2.1, .int .i64 p0.un.2.2.1, v1])] [row v15 24 CJ x10, row v14 24 CJ ([x9] : List Tr24), Hi v13 CJ x9.un.2.2.2, Hi v12 CJ ([x8] : List Tr24)] w := W
     refine AC (N2 := []) (NZ2 := []) (N3 := [(some 11, b4, [.int .i64 x4, .int .i64 0, .int .i64 0, v8]), (some 7, b3, [.int .i64 x1.un.1, .int .i64 x1.un.2.1, .int .i64 x1.un.2.2.1, (v3.2.2.2.1)])]) (NZ3 := []) W Aa Aa (Ab (fun h => Ac (by kernel_rfl) h) (Ab (fun h => Ac (by kernel_rfl) h) Al)) Al ?_
     refine A6 (R := []) F Aa Aa (yC fun M Z hN hZ => Ak BZ Aa Aa Aa ER F Aa 3 Aa) Aa Aa fun a F => ?_
     refine BG Aa ?_
     refine HK (M' := [(b4, [.int .i64 x4, .int .i64 0, .int .i64 0, v15]), (b3, [.int .i64 x1.un.1, .int .i64 x1.un.2.1, .int .i64 x1.un.2.2.1, (v3.2.2.2.1)]), (b2, [.int .i64 0, .int .i64 0, .int .i64 0, .slice none 0 0]), (b1, [.int .i64 p0.un.1, .int .i64 p0.un.2.1, .int .i64 p0.un.2.2.1, v1])]) 0 F W Aa Aa Aa ER (W.one (k := 0) Aa) Aa Aa fun w W => ?_
     refine AC (N2 := []) (NZ2 := []) (N3 := [(some 11, b4, [.int .i64 x4, .int .i64 0, .int .i64 0, v8]), (some 7, b3, [.int .i64 x1.un.1, .int .i64 x1.un.2.1, .int .i64 x1.un.2.2.1, (v3.2.2.2.1)])]) (NZ3 := []) W Aa Aa (Ab (fun h => Ac (by kernel_rfl) h) (Ab (fun h => Ac (by kernel_rfl) h) Al)) Al ?_
     refine DS (A8 (Ad (Ae ?_)))
     refine ls F W Aa (Ai F Aa).q fun a w F W => ?_
     refine ls F W Aa (BC F Aa Aa Aa).q fun a w F W => ?_
     refine ls F W Aa (Ah F Aa).q fun a w F W => ?_
     refine Ag (Ad ?_)
     have W := W.frontM (i := 3) Aa Aa
     have W := W.frontM (i := 3) Aa Aa
     have W := W.frontM (i := 3) Aa Aa
     have W := W.frontM (i := 3) Aa Aa
     have W := W.sub (M' := [(b4, [.int .i64 x4, .int .i64 0, .int .i64 0, v15]), (b3, [.int .i64 x1.un.1, .int .i64 x1.un.2.1, .int .i64 x1.un.2.2.1, (v3.2.2.2.1)]), (b2, [.int .i64 0, .int .i64 0, .int .i64 0, .slice none 0 0]), (b1, [.int .i64 p0.un.1, .int .i64 p0.un.2.1, .int .i64 p0.un.2.2.1, v1])]) (Z' := [row v15 24 CJ x10]) (List.Sublist.refl _) (List.Sublist.cons_cons _ (List.nil_sublist _))
     exact ⟨_, H, (v15), F.re ⟨rfl, Aa, Aa, Aa, Aa, trivial⟩, W⟩
    have H := AX (Bl hb) H
    rw [hb] at F
    clear hb
    refine Bx ?_
    iterate 2 refine BO ?_
    refine Bz (Ad ?_)
    have W := W.frontM (i := 3) Aa Aa
    have W := W.frontM (i := 3) Aa Aa
    have W := W.frontM (i := 3) Aa Aa
    have W := W.frontM (i := 3) Aa Aa
    have H := L4 _ H
    exact ⟨_, (v8), H, F.re ⟨rfl, Aa, Aa, trivial⟩, W⟩
   rintro a w ⟨x5, v7, hj, F, W⟩
   have hj := AM hj
   subst hj
   have H := K3
   clear G3 K3
   refine Aj (Ae ?_)
   refine ls F W Aa (Aq (v := Value.agg #[.int .i64 x4, .int .i64 0, .int .i64 0, v7]) 0 F Aa Aa FC Aa).q fun a w F W => ?_
   refine BN (vs := [.int .i64 x4, .int .i64 0, .int .i64 0, v7]) (M' := [(b4, [.int .i64 x4, .int .i64 0, .int .i64 0, v7]), (b3, [.int .i64 x1.un.1, .int .i64 x1.un.2.1, .int .i64 x1.un.2.2.1, (v3.2.2.2.1)]), (b2, [.int .i64 x4, .int .i64 0, .int .i64 0, v7]), (b1, [.int .i64 p0.un.1, .int .i64 p0.un.2.1, .int .i64 p0.un.2.2.1, v1])]) 2 F W Aa Aa Aa FC Aa Aa Aa (AB Aa (AB Aa (AB Aa (AB (W.one (k := 0) Aa) CZ)))) Aa fun w W => ?_
   refine Ag (Ad (Az (AR ?_)))
   have H := L1 _ H
   have H := AM H
   subst H
   refine AQ (.inl Aa) F W Aa (D3 2 F Aa Aa FC Aa) ?_
   have W := W.freeze
   have W := W.sub (M' := []) (Z' := [Hi v7 CJ x5]) (List.nil_sublist _) (List.Sublist.refl _)
   exact ⟨(v7), Aa, W⟩
  have H := AX (Bl hb) H
  rw [hb] at F
  clear hb
  refine Aw (Ad ?_)
  have W := W.frontM (i := 1) Aa Aa
  have W := W.frontM (i := 1) Aa Aa
  exact ⟨H, F.re ⟨rfl, Aa, trivial⟩, W⟩
 rintro a w ⟨hj, F, W⟩
 have H := K1 _ hj
 clear hj G1 K1 L1
 refine Aj (Ae ?_)
 refine ls F W Aa (Ak BZ Aa Aa Aa T3 F Aa 0 Aa).q fun a w F W => ?_
 refine ls F W Aa (Aq (v := Value.int .i64 p0.un.1) 1 F Aa Aa T3 Aa).q fun a w F W => ?_
 refine ls F W Aa (Ak BZ Aa Aa Aa T3 F Aa 1 Aa).q fun a w F W => ?_
 refine ls F W Aa (Aq (v := Value.int .i64 p0.un.2.1) 1 F Aa Aa T3 Aa).q fun a w F W => ?_
 refine ls F W Aa (Ak BZ Aa Aa Aa T3 F Aa 2 Aa).q fun a w F W => ?_
 refine ls F W Aa (Aq (v := Value.int .i64 p0.un.2.2.1) 1 F Aa Aa T3 Aa).q fun a w F W => ?_
 refine ls F W Aa (DQ (v := Value.agg #[.int .i64 p0.un.1, .int .i64 p0.un.2.1, .int .i64 p0.un.2.2.1, .slice none 0 0]) Rx F Aa Aa Aa).q fun a w F W => ?_
 refine CK (cs := [.int .i64 0, .int .i64 0, .int .i64 0, .slice none 0 0]) F W Aa Qv Aa fun b5 a w F W => ?_
 refine BN (vs := [.int .i64 p0.un.1, .int .i64 p0.un.2.1, .int .i64 p0.un.2.2.1, .slice none 0 0]) (M' := [(b5, [.int .i64 p0.un.1, .int .i64 p0.un.2.1, .int .i64 p0.un.2.2.1, .slice none 0 0]), (b2, [.int .i64 0, .int .i64 0, .int .i64 0, .slice none 0 0]), (b1, [.int .i64 p0.un.1, .int .i64 p0.un.2.1, .int .i64 p0.un.2.2.1, v1])]) 0 F W Aa Aa Aa FC Aa Aa Aa Aa Aa fun w W => ?_
 refine Ag (Ad ?_)
 obtain ⟨o5, G5, K5⟩ := Am H
 refine AO (fun a w => ∃ x11 : List Tr24, ∃ v16 : Value, some (x11) = some o5 ∧ Fr 87 [] [(2, .pointer (some ⟨b2, 0, none⟩)), (6, .pointer (some ⟨b5, 0, none⟩))] a ∧ Stw ⟨Y, [], w0⟩ [(b5, [.int .i64 p0.un.1, .int .i64 p0.un.2.1, .int .i64 p0.un.2.2.1, v16]), (b2, [.int .i64 0, .int .i64 0, .int .i64 0, .slice none 0 0]), (b1, [.int .i64 p0.un.1, .int .i64 p0.un.2.1, .int .i64 p0.un.2.2.1, v1])] [row v16 24 CJ x11] w) ?_ ?_
 ·
  have H := G5
  clear G5 K5
  refine Aj (Ae ?_)
  refine ls F W Aa (Ah F Aa).q fun a w F W => ?_
  refine Ag (Ad (AA ?_))
  have W := W.nilRow 24 CJ
  have W := W.frontM (i := 2) Aa Aa
  have W := W.frontM (i := 2) Aa Aa
  have W := W.frontM (i := 2) Aa Aa
  refine BI H (fun s a w => ∃ v17 : Value, Fr 87 [] [(1, .pointer (some ⟨b1, 0, none⟩)), (2, .pointer (some ⟨b2, 0, none⟩)), (6, .pointer (some ⟨b5, 0, none⟩)), (7, .int .i64 s.1)] a ∧ Stw ⟨Y, [], w0⟩ [(b5, [.int .i64 p0.un.1, .int .i64 p0.un.2.1, .int .i64 p0.un.2.2.1, v17]), (b2, [.int .i64 0, .int .i64 0, .int .i64 0, .slice none 0 0]), (b1, [.int .i64 p0.un.1, .int .i64 p0.un.2.1, .int .i64 p0.un.2.2.1, v1])] [row v17 24 CJ s.2] w) ⟨(Value.slice none 0 0), F.re ⟨rfl, Aa, Aa, Aa, trivial⟩, W⟩ fun s o a w H L6 hR => ?_
  obtain ⟨x12, x13⟩ := s
  obtain ⟨v17, F, W⟩ := hR
  have F : Fr 87 [] [(1, .pointer (some ⟨b1, 0, none⟩)), (2, .pointer (some ⟨b2, 0, none⟩)), (6, .pointer (some ⟨b5, 0, none⟩)), (7, .int .i64 x12)] a := F
  have W : Stw ⟨Y, [], w0⟩ [(b5, [.int .i64 p0.un.1, .int .i64 p0.un.2.1, .int .i64 p0.un.2.2.1, v17]), (b2, [.int .i64 0, .int .i64 0, .int .i64 0, .slice none 0 0]), (b1, [.int .i64 p0.un.1, .int .i64 p0.un.2.1, .int .i64 p0.un.2.2.1, v1])] [row v17 24 CJ x13] w := W
  rw [C8] at H
  refine Aj (Aj (Ae ?_))
  refine ls F W Aa (Ai F Aa).q fun a w F W => ?_
  refine ls F W Aa (Ak BZ Aa Aa Aa ER F Aa 3 Aa).q fun a w F W => ?_
  refine ls F W Aa (Aq (v := v1) 2 F Aa Aa ER Aa).q fun a w F W => ?_
  refine ls F W Aa (CT (r := CJ) (l := p0.un.2.2.2) ID Aa F Aa (AP C7 h1 (Av h_v1))).q fun a w F W => ?_
  refine ls F W Aa (Cy F Aa Aa).q fun a w F W => ?_
  refine Ag (Ad ?_)
  refine Ay F Aa (fun hb => ?_) fun hb => ?_
  ·
   have H := AW (Bm hb) H
   rw [hb] at F
   clear hb
   refine Aw (Ad (Aj (AA ?_)))
   obtain ⟨v18, h24, W⟩ := W.exR C7
   refine Eb [(true, 0), (true, 1), (true, 2), (true, 3), (true, 4), (true, 5), (true, 6), (false, 7), (false, 8), (false, 9), (true, 10), (false, 11)] (CN ⟨Y, [], w0⟩ [(some 9, b5, [.int .i64 p0.un.1, .int .i64 p0.un.2.1, .int .i64 p0.un.2.2.1, v17]), (some 7, b1, [.int .i64 p0.un.1, .int .i64 p0.un.2.1, .int .i64 p0.un.2.2.1, v1])] []) (fun ch a d v w h => by cases d <;> exact h) MO (by kernel_rfl) W (fun w W => ⟨_, _, W, (Ab (fun _ => (.head _)) (Ab (fun _ => (.tail _ (.tail _ (.head _)))) Al)), Al⟩) fun w W => ?_
   refine A6 (R := []) F Aa Aa (yC fun M Z hN hZ => Ak BZ Aa Aa Aa ER F Aa 3 Aa) Aa Aa fun a F => ?_
   refine A6 (R := [9]) F Aa Aa (yC fun M Z hN hZ => B6 (cs := [.int .i64 p0.un.1, .int .i64 p0.un.2.1, .int .i64 p0.un.2.2.1, v17]) (v := v17) F Aa (hN ((some 9), b5, [.int .i64 p0.un.1, .int .i64 p0.un.2.1, .int .i64 p0.un.2.2.1, v17]) (.head _) Aa) ER Aa) (by kernel_rfl) Aa fun a F => ?_
   refine A6 (R := []) F Aa Aa (yC fun M Z hN hZ => Ak BZ Aa Aa Aa ER F Aa 3 Aa) Aa Aa fun a F => ?_
   refine A6 (R := [7, 6, 5]) F Aa Aa (yC fun M Z hN hZ => B6 (cs := [.int .i64 p0.un.1, .int .i64 p0.un.2.1, .int .i64 p0.un.2.2.1, v1]) (v := v1) F Aa (hN ((some 7), b1, [.int .i64 p0.un.1, .int .i64 p0.un.2.1, .int .i64 p0.un.2.2.1, v1]) (.tail _ (.head _)) Aa) ER Aa) (by kernel_rfl) Aa fun a F => ?_
   refine A6 (R := []) F Aa Aa (yC fun M Z hN hZ => Ai F Aa) Aa Aa fun a F => ?_
   obtain ⟨x14, h25, H⟩ := Am H
   obtain ⟨v19, h26, h27⟩ := DL h1 h25
   have h28 : E5 v19 = [.int .i64 x14.un.1, .int .i64 x14.un.2.1, .int .i64 x14.un.2.2.1, (v19.2.2.2.1)] := congrArg (fun q : Tr24 => ([.int .i64 q.un.1, .int .i64 q.un.2.1, .int .i64 q.un.2.2.1, (v19.2.2.2.1)] : List Value)) h27
   refine A6 (R := []) F Aa Aa (yC fun M Z hN hZ => AG (r := Gd) KF F Aa Aa (Av h_v1) h26) Aa Aa fun a F => ?_
   refine A6 (R := []) F Aa Aa (yC fun M Z hN hZ => Ax (y := Value.agg #[.int .i64 x14.un.1, .int .i64 x14.un.2.1, .int .i64 x14.un.2.2.1, (v19.2.2.2.1)]) (j := 0) (i := x12) (enc := E5) F Aa Aa (Av h_v1) h26 Id FC (by rw [h28]; rfl)) Aa Aa fun a F => ?_
   refine BG Aa ?_
   obtain ⟨x15, h29, H⟩ := Am H
   refine BD (Ml := []) (Zl := []) (M := [(b5, [.int .i64 p0.un.1, .int .i64 p0.un.2.1, .int .i64 p0.un.2.2.1, v17]), (b2, [.int .i64 0, .int .i64 0, .int .i64 0, .slice none 0 0]), (b1, [.int .i64 p0.un.1, .int .i64 p0.un.2.1, .int .i64 p0.un.2.2.1, v1])]) (Z := [row v17 24 Gd v18]) (β := Value) (rv := fun x => .agg #[.int .i64 x15.un.1, .int .i64 x15.un.2.1, .int .i64 x15.un.2.2.1, x]) (MM := fun x => []) (ZZ := fun x => [Hi x CJ x15.un.2.2.2]) F W R2 Aa Aa (fun hL => ih _ w ((v19.2.2.2.1)) x14 _ h29 (Sl.at_ (W.old s_v1) h26 (A5.snd (A5.snd (A5.snd A5.here))) (congrArg (fun q : Tr24 => q.un.2.2.2) h27))) fun x a w F W => ?_
   obtain ⟨v20, rfl⟩ : ∃ y, y = x := ⟨x, rfl⟩
   have W : Stw ⟨Y, [], w0⟩ [(b5, [.int .i64 p0.un.1, .int .i64 p0.un.2.1, .int .i64 p0.un.2.2.1, v17]), (b2, [.int .i64 0, .int .i64 0, .int .i64 0, .slice none 0 0]), (b1, [.int .i64 p0.un.1, .int .i64 p0.un.2.1, .int .i64 p0.un.2.2.1, v1])] [Hi v20 CJ x15.un.2.2.2, row v17 24 Gd v18] w := W
   refine AC (N2 := []) (NZ2 := []) (N3 := [(some 9, b5, [.int .i64 p0.un.1, .int .i64 p0.un.2.1, .int .i64 p0.un.2.2.1, v17]), (some 7, b1, [.int .i64 p0.un.1, .int .i64 p0.un.2.1, .int .i64 p0.un.2.2.1, v1])]) (NZ3 := []) W Aa Aa (Ab (fun _ => (.head _)) (Ab (fun h => Ac (by kernel_rfl) h) Al)) Al ?_
   refine BG Aa ?_
   refine GE (z := Value.agg #[.int .i64 0, .int .i64 0, .int .i64 0, .slice none 0 0]) (cs := [.int .i64 x15.un.1, .int .i64 x15.un.2.1, .int .i64 x15.un.2.2.1, v20]) CJ ([x15] : List Tr24) F W Aa KF Qv Aa Aa Aa (Cl Aa Aa Aa Dx) Aa Aa ⟨[Value.int .i64 x15.un.1, Value.int .i64 x15.un.2.1, Value.int .i64 x15.un.2.2.1, v20], _, Aa, (Pc.2 ⟨[Value.int .i64 x15.un.1], [Value.int .i64 x15.un.2.1, Value.int .i64 x15.un.2.2.1, v20], Aa, Aa, ⟨[Value.int .i64 x15.un.2.1], [Value.int .i64 x15.un.2.2.1, v20], Aa, Aa, ⟨[Value.int .i64 x15.un.2.2.1], [v20], Aa, Aa, ⟨_, Aa, (W.item (i := 0) Aa)⟩⟩⟩⟩), Aa⟩ fun v21 a w F W => ?_
   refine AC (N2 := []) (NZ2 := []) (N3 := [(some 9, b5, [.int .i64 p0.un.1, .int .i64 p0.un.2.1, .int .i64 p0.un.2.2.1, v17]), (some 7, b1, [.int .i64 p0.un.1, .int .i64 p0.un.2.1, .int .i64 p0.un.2.2.1, v1])]) (NZ3 := []) W Aa Aa (Ab (fun _ => (.head _)) (Ab (fun h => Ac (by kernel_rfl) h) Al)) Al ?_
   refine BG Aa ?_
   have W := W.frontZ (i := 2) Aa Aa
   have W := W.hideR C7 h24
   obtain ⟨x16, h30, H⟩ := Am H
   refine E8 (r := CJ) (i := 0) F W Aa KF Aa Aa Aa Aa (FN W 1 Aa) h30 Aa fun v22 a w F W => ?_
   have W : Stw ⟨Y, [], w0⟩ [(b5, [.int .i64 p0.un.1, .int .i64 p0.un.2.1, .int .i64 p0.un.2.2.1, v17]), (b2, [.int .i64 0, .int .i64 0, .int .i64 0, .slice none 0 0]), (b1, [.int .i64 p0.un.1, .int .i64 p0.un.2.1, .int .i64 p0.un.2.2.1, v1])] [row v22 24 CJ x16, row v21 24 CJ ([x15] : List Tr24), Hi v20 CJ x15.un.2.2.2] w := W
   refine AC (N2 := []) (NZ2 := []) (N3 := [(some 9, b5, [.int .i64 p0.un.1, .int .i64 p0.un.2.1, .int .i64 p0.un.2.2.1, v17]), (some 7, b1, [.int .i64 p0.un.1, .int .i64 p0.un.2.1, .int .i64 p0.un.2.2.1, v1])]) (NZ3 := []) W Aa Aa (Ab (fun h => Ac (by kernel_rfl) h) (Ab (fun h => Ac (by kernel_rfl) h) Al)) Al ?_
   refine A6 (R := []) F Aa Aa (yC fun M Z hN hZ => Ak BZ Aa Aa Aa ER F Aa 3 Aa) Aa Aa fun a F => ?_
   refine BG Aa ?_
   refine HK (M' := [(b5, [.int .i64 p0.un.1, .int .i64 p0.un.2.1, .int .i64 p0.un.2.2.1, v22]), (b2, [.int .i64 0, .int .i64 0, .int .i64 0, .slice none 0 0]), (b1, [.int .i64 p0.un.1, .int .i64 p0.un.2.1, .int .i64 p0.un.2.2.1, v1])]) 0 F W Aa Aa Aa ER (W.one (k := 0) Aa) Aa Aa fun w W => ?_
   refine AC (N2 := []) (NZ2 := []) (N3 := [(some 9, b5, [.int .i64 p0.un.1, .int .i64 p0.un.2.1, .int .i64 p0.un.2.2.1, v17]), (some 7, b1, [.int .i64 p0.un.1, .int .i64 p0.un.2.1, .int .i64 p0.un.2.2.1, v1])]) (NZ3 := []) W Aa Aa (Ab (fun h => Ac (by kernel_rfl) h) (Ab (fun h => Ac (by kernel_rfl) h) Al)) Al ?_
   refine DS (A8 (Ad (Ae ?_)))
   refine ls F W Aa (Ai F Aa).q fun a w F W => ?_
   refine ls F W Aa (BC F Aa Aa Aa).q fun a w F W => ?_
   refine ls F W Aa (Ah F Aa).q fun a w F W => ?_
   refine Ag (Ad ?_)
   have W := W.frontM (i := 2) Aa Aa
   have W := W.frontM (i := 2) Aa Aa
   have W := W.frontM (i := 2) Aa Aa
   have W := W.sub (M' := [(b5, [.int .i64 p0.un.1, .int .i64 p0.un.2.1, .int .i64 p0.un.2.2.1, v22]), (b2, [.int .i64 0, .int .i64 0, .int .i64 0, .slice none 0 0]), (b1, [.int .i64 p0.un.1, .int .i64 p0.un.2.1, .int .i64 p0.un.2.2.1, v1])]) (Z' := [row v22 24 CJ x16]) (List.Sublist.refl _) (List.Sublist.cons_cons _ (List.nil_sublist _))
   exact ⟨_, H, (v22), F.re ⟨rfl, Aa, Aa, Aa, trivial⟩, W⟩
  have H := AX (Bl hb) H
  rw [hb] at F
  clear hb
  refine Bx ?_
  iterate 2 refine BO ?_
  refine Bz (Ad ?_)
  have W := W.frontM (i := 2) Aa Aa
  have W := W.frontM (i := 2) Aa Aa
  have W := W.frontM (i := 2) Aa Aa
  have H := L6 _ H
  exact ⟨_, (v17), H, F.re ⟨rfl, Aa, trivial⟩, W⟩
 rintro a w ⟨x11, v16, hj, F, W⟩
 have hj := AM hj
 subst hj
 have H := K5
 clear G5 K5
 refine Aj (Ae ?_)
 refine ls F W Aa (Aq (v := Value.agg #[.int .i64 p0.un.1, .int .i64 p0.un.2.1, .int .i64 p0.un.2.2.1, v16]) 0 F Aa Aa FC Aa).q fun a w F W => ?_
 refine BN (vs := [.int .i64 p0.un.1, .int .i64 p0.un.2.1, .int .i64 p0.un.2.2.1, v16]) (M' := [(b5, [.int .i64 p0.un.1, .int .i64 p0.un.2.1, .int .i64 p0.un.2.2.1, v16]), (b2, [.int .i64 p0.un.1, .int .i64 p0.un.2.1, .int .i64 p0.un.2.2.1, v16]), (b1, [.int .i64 p0.un.1, .int .i64 p0.un.2.1, .int .i64 p0.un.2.2.1, v1])]) 1 F W Aa Aa Aa FC Aa Aa Aa (AB Aa (AB Aa (AB Aa (AB (W.one (k := 0) Aa) CZ)))) Aa fun w W => ?_
 refine Ag (Ad (Az ?_))
 have H := AM H
 subst H
 refine AQ (.inl Aa) F W Aa (D3 1 F Aa Aa FC Aa) ?_
 have W := W.freeze
 have W := W.sub (M' := []) (Z' := [Hi v16 CJ x11]) (List.nil_sublist _) (List.Sublist.refl _)
 exact ⟨(v16), Aa, W⟩
theorem Nr : ∀ (n : Nat) (Y : Nat → Prop) (w0 : World) (v1 : Value) (p0 : Tr24) (r : Tr24) (H : CV n p0 = some r) (s_v1 : Sl w0 Y CJ v1 p0.un.2.2.2), Calls Tryd.prog 24 #[.agg #[.int .i64 p0.un.1, .int .i64 p0.un.2.1, .int .i64 p0.un.2.2.1, v1]] w0 fun e w' => ∃ x : Value, e = .returned (.agg #[.int .i64 r.un.1, .int .i64 r.un.2.1, .int .i64 r.un.2.2.1, x]) ∧ Stw ⟨Y, [], w0⟩ [] [Hi (x) CJ r.un.2.2.2] w' := by
  intro n
  induction n with
  | zero => intro Y w0 v1 p0 r H; exact nomatch H
  | succ n ih => intro Y w0 v1 p0 r H s_v1; exact MR (CV n) ih Y w0 v1 p0 r H s_v1
theorem NY (Y : Nat → Prop) (w0 : World) (v1 : Value) (p0 : Tr24) (r : Tr24) (H : Li p0 = some r) (s_v1 : Sl w0 Y CJ v1 p0.un.2.2.2) :
    Calls Tryd.prog 24 #[.agg #[.int .i64 p0.un.1, .int .i64 p0.un.2.1, .int .i64 p0.un.2.2.1, v1]] w0 fun e w' => ∃ x : Value, e = .returned (.agg #[.int .i64 r.un.1, .int .i64 r.un.2.1, .int .i64 r.un.2.2.1, x]) ∧ Stw ⟨Y, [], w0⟩ [] [Hi (x) CJ r.un.2.2.2] w' := by
  obtain ⟨n, H⟩ := Cs H
  exact Nr n Y w0 v1 p0 r H s_v1
end Go.Proofs.YtepfcpffbabgmaaDoor
