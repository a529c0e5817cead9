/- The functions of layer 26, Gx. Conditions: none. -/
import Derived.Test.YtepfcpffbabgmaaDoorcA1
namespace Go.Proofs.YtepfcpffbabgmaaDoor
open Go Go.RowKit
set_option linter.unusedVariables false
set_option linter.unusedSimpArgs false
set_option maxRecDepth 20000
theorem Te : Has Tryd.prog 62 := ⟨fun args w => Ao Tryd.func62 rfl (by decide) args w⟩
noncomputable def AJ (fRec : (List Int) → Int → Int → Int → Option (List Int)) : (List Int × Int × Int × Int × Bool × Bool) → Option ((List Int × Int × Int × Int × Bool × Bool) ⊕ (List Int))
  | (x1, x2, x3, x4, x5, x6) => (if (A1 (x3 - x2)) ≤ 12 then (Cf x1 x2 x3).bind fun x7 => some (.inr x7) else (if x4 = 0 then (CF x1 x2 x3).bind fun x8 => some (.inr x8) else (if (!x5) = true then (BT x1 x2 x3).bind fun x11 => some (x11, A1 (x4 - 1)) else some (x1, x4)).bind fun (x9, x10) => (Cq x9 x2 x3).bind fun x12 => (if x12.2 = 2 then (BX x9 x2 x3).bind fun x16 => some (x16, A1 ((A1 (x3 - 1)) - (A1 (x12.1 - x2))), 1) else some (x9, x12.1, x12.2)).bind fun (x13, x14, x15) => IX (if (x5 && (x6 && decide (x15 = 1))) = true then (Bv x13 x2 x3).bind fun x18 => (if x18.1 = true then some (.inr (.inr x18.2)) else some (.inl x18.2)) else some (.inl x13)) fun x17 => (if 0 < x2 then (ix x17 (A1 (x2 - 1))).bind fun x20 => (ix x17 x14).bind fun x21 => some (!(Be x20 x21)) else some false).bind fun x19 => (if x19 = true then (B8 x17 x2 x3 x14).bind fun x22 => some (.inl (x22.2, x22.1, x3, x10, (x5 && (x6 || true)), (bif x5 then x6 else x6))) else (CA x17 x2 x3 x14).bind fun x23 => (if (A1 (x23.1 - x2)) < (A1 (x3 - x23.1)) then (fRec x23.2.2 x2 x23.1 x10).bind fun x24 => some (.inl (x24, A1 (x23.1 + 1), x3, x10, decide ((A1 (Int.tdiv (A1 (x3 - x2)) 8)) ≤ (A1 (x23.1 - x2))), x23.2.1)) else (fRec x23.2.2 (A1 (x23.1 + 1)) x3 x10).bind fun x25 => some (.inl (x25, x2, x23.1, x10, decide ((A1 (Int.tdiv (A1 (x3 - x2)) 8)) ≤ (A1 (x3 - x23.1))), x23.2.1))))))
noncomputable def Du (fRec : (List Int) → Int → Int → Int → Option (List Int)) (p0 : List Int) (p1 : Int) (p2 : Int) (p3 : Int) : Option (List Int) := A3 (AJ fRec) (p0, p1, p2, p3, true, true)
noncomputable def Bg : Nat → (List Int) → Int → Int → Int → Option (List Int)
  | 0 => fun _ _ _ _ => none
  | n + 1 => Du (Bg n)
noncomputable def Dc (p0 : List Int) (p1 : Int) (p2 : Int) (p3 : Int) : Option (List Int) := Fx fun n => Bg n p0 p1 p2 p3
theorem FZ (fRec : (List Int) → Int → Int → Int → Option (List Int)) (ih : ∀ (Y : Nat → Prop) (X : List Nat) (w0 : World) (v1 : Value) (p0 : List Int) (p1 : Int) (p2 : Int) (p3 : Int) (r : List Int) (H : fRec p0 p1 p2 p3 = some r) (hL : Stw ⟨Y, X, w0⟩ [] [row v1 3 (Rp.int .i64) p0] w0), Calls Tryd.prog 55 #[v1, .int .i64 p1, .int .i64 p2, .int .i64 p3] w0 fun e w' => ∃ x : Unit, e = .returned (.tuple #[]) ∧ Stw ⟨Y, X, w0⟩ [] [row v1 3 (Rp.int .i64) r] w') (Y : Nat → Prop) (X : List Nat) (w0 : World) (v1 : Value) (p0 : List Int) (p1 : Int) (p2 : Int) (p3 : Int) (r : List Int) (H : Du fRec p0 p1 p2 p3 = some r) (hL : Stw ⟨Y, X, w0⟩ [] [row v1 3 (Rp.int .i64) p0] w0) :
    Calls Tryd.prog 55 #[v1, .int .i64 p1, .int .i64 p2, .int .i64 p3] w0 fun e w' => ∃ x : Unit, e = .returned (.tuple #[]) ∧ Stw ⟨Y, X, w0⟩ [] [row v1 3 (Rp.int .i64) r] w' := by
 refine enter Tryd.func55 Aa Tryd.ntmps55 Aa fun a F => ?_
 have W := hL
 unfold Du at H
 refine Aj (Ae ?_)
 refine ls F W Aa (Ah F Aa).q fun a w F W => ?_
 refine Ag (Ad (Aj (Ae ?_)))
 refine ls F W Aa (Ah F Aa).q fun a w F W => ?_
 refine Ag (Ad (AA ?_))
 refine BI H (fun s a w => Fr 134 [] [(0, v1), (1, .int .i64 s.2.1), (2, .int .i64 s.2.2.1), (3, .int .i64 s.2.2.2.1), (8, .bool s.2.2.2.2.1), (9, .bool s.2.2.2.2.2)] a ∧ Stw ⟨Y, X, w0⟩ [] [row v1 3 (Rp.int .i64) s.1] w) ⟨F.re ⟨rfl, Aa, Aa, Aa, Aa, Aa, trivial⟩, W⟩ fun s o a w H L1 hR => ?_
 obtain ⟨x1, x2, x3, x4, x5, x6⟩ := s
 obtain ⟨F, W⟩ := hR
 have F : Fr 134 [] [(0, v1), (1, .int .i64 x2), (2, .int .i64 x3), (3, .int .i64 x4), (8, .bool x5), (9, .bool x6)] a := F
 have W : Stw ⟨Y, X, w0⟩ [] [row v1 3 (Rp.int .i64) x1] w := W
 rw [AJ] at H
 refine AA (Aj (Ae ?_))
 iterate 2 refine ls F W Aa (Ai F Aa).q fun a w F W => ?_
 refine ls F W Aa (Cn F Aa Aa Aa).q fun a w F W => ?_
 refine ls F W Aa (Ah F Aa).q fun a w F W => ?_
 refine Ag (Ad (Aj (Aj (Ae ?_))))
 refine ls F W Aa (Ai F Aa).q fun a w F W => ?_
 refine ls F W Aa (F9 F Aa Aa).q fun a w F W => ?_
 refine Ag (Ad ?_)
 refine Ay F Aa (fun hb => ?_) fun hb => ?_
 ·
  have H := AW (Bm hb) H
  rw [hb] at F
  clear hb
  refine Aj (Ae ?_)
  iterate 3 refine ls F W Aa (Ai F Aa).q fun a w F W => ?_
  obtain ⟨x7, h1, H⟩ := Am H
  refine BD (Ml := []) (Zl := [row v1 3 (Rp.int .i64) x1]) (M := []) (Z := []) (β := Unit) (rv := fun x => .tuple #[]) (MM := fun x => []) (ZZ := fun x => [row v1 3 (Rp.int .i64) x7]) F W Tf Aa Aa (fun hL => Fk _ _ w (v1) x1 x2 x3 _ h1 hL) fun x a w F W => ?_
  have W : Stw ⟨Y, X, w0⟩ [] [row v1 3 (Rp.int .i64) x7] w := W
  refine Ag (Ad (Az (AR (Bk (AR (Bk ?_))))))
  have H := L1 _ H
  have H := AM H
  subst H
  refine HQ (.inl Aa) F Aa ?_
  exact ⟨(), Aa, W⟩
 have H := AX (Bl hb) H
 rw [hb] at F
 clear hb
 refine Aw (Ad (Aj (Aj (Ae ?_))))
 refine ls F W Aa (Ai F Aa).q fun a w F W => ?_
 refine ls F W Aa (Bq F Aa Aa).q fun a w F W => ?_
 refine Ag (Ad ?_)
 refine Ay F Aa (fun hb => ?_) fun hb => ?_
 ·
  have H := AW (Bm hb) H
  rw [hb] at F
  clear hb
  refine Aj (Ae ?_)
  iterate 3 refine ls F W Aa (Ai F Aa).q fun a w F W => ?_
  obtain ⟨x8, h2, H⟩ := Am H
  refine BD (Ml := []) (Zl := [row v1 3 (Rp.int .i64) x1]) (M := []) (Z := []) (β := Unit) (rv := fun x => .tuple #[]) (MM := fun x => []) (ZZ := fun x => [row v1 3 (Rp.int .i64) x8]) F W Td Aa Aa (fun hL => F5 _ _ w (v1) x1 x2 x3 _ h2 hL) fun x a w F W => ?_
  have W : Stw ⟨Y, X, w0⟩ [] [row v1 3 (Rp.int .i64) x8] w := W
  refine Ag (Ad (Az (AR (Bk (AR (Bk ?_))))))
  have H := L1 _ H
  have H := AM H
  subst H
  refine HQ (.inl Aa) F Aa ?_
  exact ⟨(), Aa, W⟩
 have H := AX (Bl hb) H
 rw [hb] at F
 clear hb
 refine Aw (Ad ?_)
 obtain ⟨o2, G2, K2⟩ := Am H
 refine AO (fun a w => ∃ x9 : List Int, ∃ x10 : Int, some ((x9, x10)) = some o2 ∧ Fr 134 [] [(0, v1), (1, .int .i64 x2), (2, .int .i64 x3), (3, .int .i64 x10), (8, .bool x5), (9, .bool x6), (10, .int .i64 (A1 (x3 - x2)))] a ∧ Stw ⟨Y, X, w0⟩ [] [row v1 3 (Rp.int .i64) x9] w) ?_ ?_
 ·
  have H := G2
  clear G2 K2
  refine Aj (Ae ?_)
  refine ls F W Aa (Ai F Aa).q fun a w F W => ?_
  refine ls F W Aa (ET F Aa).q fun a w F W => ?_
  refine Ag (Ad ?_)
  refine Ay F Aa (fun hb => ?_) fun hb => ?_
  ·
   have H := AW hb H
   rw [hb] at F
   clear hb
   refine Aj (Ae ?_)
   iterate 3 refine ls F W Aa (Ai F Aa).q fun a w F W => ?_
   obtain ⟨x11, h3, H⟩ := Am H
   refine BD (Ml := []) (Zl := [row v1 3 (Rp.int .i64) x1]) (M := []) (Z := []) (β := Unit) (rv := fun x => .tuple #[]) (MM := fun x => []) (ZZ := fun x => [row v1 3 (Rp.int .i64) x11]) F W Te Aa Aa (fun hL => Fm _ _ w (v1) x1 x2 x3 _ h3 hL) fun x a w F W => ?_
   have W : Stw ⟨Y, X, w0⟩ [] [row v1 3 (Rp.int .i64) x11] w := W
   refine Ag (Ad (Ae ?_))
   refine ls F W Aa (Ai F Aa).q fun a w F W => ?_
   refine ls F W Aa (Cn F Aa Aa Aa).q fun a w F W => ?_
   refine ls F W Aa (Ah F Aa).q fun a w F W => ?_
   refine Ag (Ad ?_)
   exact ⟨_, _, H, F.re ⟨rfl, Aa, Aa, Aa, Aa, Aa, Aa, trivial⟩, W⟩
  have H := AX (by rw [hb]; decide) H
  rw [hb] at F
  clear hb
  refine Aw (Ad ?_)
  exact ⟨_, _, H, F.re ⟨rfl, Aa, Aa, Aa, Aa, Aa, Aa, trivial⟩, W⟩
 rintro a w ⟨x9, x10, hj, F, W⟩
 have hj := AM hj
 subst hj
 have H := K2
 clear G2 K2
 refine Aj (Ae ?_)
 iterate 3 refine ls F W Aa (Ai F Aa).q fun a w F W => ?_
 obtain ⟨x12, h4, H⟩ := Am H
 refine ls F W Aa (AU (v := Value.tuple #[.int .i64 x12.1, .int .i64 x12.2]) F SV Aa (fun w W => Fy any w (v1) x9 x2 x3 _ h4 (((Ap 0 Aa) : EC _ _ _ _ _ _) w W).nx)) fun a w F W => ?_
 refine ls F W Aa (Ai F Aa).q fun a w F W => ?_
 refine ls F W Aa (EJ (v := Value.int .i64 x12.1) F Aa Aa).q fun a w F W => ?_
 refine ls F W Aa (EJ (v := Value.int .i64 x12.2) F Aa Aa).q fun a w F W => ?_
 iterate 2 refine ls F W Aa (Ah F Aa).q fun a w F W => ?_
 refine Ag (Ad ?_)
 obtain ⟨o3, G3, K3⟩ := Am H
 refine AO (fun a w => ∃ x13 : List Int, ∃ x14 : Int, ∃ x15 : Int, some ((x13, x14, x15)) = some o3 ∧ Fr 134 [] [(0, v1), (1, .int .i64 x2), (2, .int .i64 x3), (3, .int .i64 x10), (8, .bool x5), (9, .bool x6), (10, .int .i64 (A1 (x3 - x2))), (11, .int .i64 x14), (12, .int .i64 x15)] a ∧ Stw ⟨Y, X, w0⟩ [] [row v1 3 (Rp.int .i64) x13] w) ?_ ?_
 ·
  have H := G3
  clear G3 K3
  refine Aj (Ae ?_)
  refine ls F W Aa (Ai F Aa).q fun a w F W => ?_
  refine ls F W Aa (Bq F Aa Aa).q fun a w F W => ?_
  refine Ag (Ad ?_)
  refine Ay F Aa (fun hb => ?_) fun hb => ?_
  ·
   have H := AW (Bm hb) H
   rw [hb] at F
   clear hb
   refine Aj (Ae ?_)
   iterate 3 refine ls F W Aa (Ai F Aa).q fun a w F W => ?_
   obtain ⟨x16, h5, H⟩ := Am H
   refine BD (Ml := []) (Zl := [row v1 3 (Rp.int .i64) x9]) (M := []) (Z := []) (β := Unit) (rv := fun x => .tuple #[]) (MM := fun x => []) (ZZ := fun x => [row v1 3 (Rp.int .i64) x16]) F W Tp Aa Aa (fun hL => Fw _ _ w (v1) x9 x2 x3 _ h5 hL) fun x a w F W => ?_
   have W : Stw ⟨Y, X, w0⟩ [] [row v1 3 (Rp.int .i64) x16] w := W
   refine Ag (Ad (Aj (Ae ?_)))
   refine ls F W Aa (Ai F Aa).q fun a w F W => ?_
   refine ls F W Aa (Cn F Aa Aa Aa).q fun a w F W => ?_
   iterate 2 refine ls F W Aa (Ai F Aa).q fun a w F W => ?_
   iterate 2 refine ls F W Aa (Cn F Aa Aa Aa).q fun a w F W => ?_
   refine ls F W Aa (Ah F Aa).q fun a w F W => ?_
   refine Ag (Ad (Ae ?_))
   refine ls F W Aa (Ah F Aa).q fun a w F W => ?_
   refine Ag (Ad ?_)
   exact ⟨_, _, _, H, F.re ⟨rfl, Aa, Aa, Aa, Aa, Aa, Aa, Aa, Aa, trivial⟩, W⟩
  have H := AX (Bl hb) H
  rw [hb] at F
  clear hb
  refine Aw (Ad ?_)
  exact ⟨_, _, _, H, F.re ⟨rfl, Aa, Aa, Aa, Aa, Aa, Aa, Aa, Aa, trivial⟩, W⟩
 rintro a w ⟨x13, x14, x15, hj, F, W⟩
 have hj := AM hj
 subst hj
 have H := K3
 clear G3 K3
 obtain ⟨o4, G4, K4, L4⟩ := OP H
 refine AO (fun a w => ∃ x17 : List Int, some (Sum.inl x17) = some o4 ∧ Fr 134 [] [(0, v1), (1, .int .i64 x2), (2, .int .i64 x3), (3, .int .i64 x10), (8, .bool (x5 && (x6 || true))), (9, .bool (bif x5 then x6 else x6)), (10, .int .i64 (A1 (x3 - x2))), (11, .int .i64 x14)] a ∧ Stw ⟨Y, X, w0⟩ [] [row v1 3 (Rp.int .i64) x17] w) ?_ ?_
 ·
  have H := G4
  clear G4 K4
  refine AO (fun a w => Fr 134 [] [(0, v1), (1, .int .i64 x2), (2, .int .i64 x3), (3, .int .i64 x10), (8, .bool (x5 && (x6 || true))), (9, .bool (bif x5 then x6 else x6)), (10, .int .i64 (A1 (x3 - x2))), (11, .int .i64 x14), (68, .bool (x5 && (x6 && decide (x15 = 1))))] a ∧ Stw ⟨Y, X, w0⟩ [] [row v1 3 (Rp.int .i64) x13] w) ?_ ?_
  ·
   refine Ae ?_
   iterate 2 refine ls F W Aa (Ai F Aa).q fun a w F W => ?_
   rcases Bool.eq_false_or_eq_true x5 with hb0 | hb0
   ·
    rw [hb0] at F
    refine AL F W (Af F Aa Aa Aa Aa) Aa (An Aa) (Ai F Aa).q fun a w F W => ?_
    refine ls F W Aa (Au F Aa Aa Aa).q fun a w F W => ?_
    refine ls F W Aa (Ai F Aa).q fun a w F W => ?_
    rcases Bool.eq_false_or_eq_true x6 with hb1 | hb1
    ·
     rw [hb1] at F
     refine AL F W (Af F Aa Aa Aa Aa) Aa (An Aa) (Ai F Aa).q fun a w F W => ?_
     refine AL F W (Af F Aa Aa Aa Aa) Aa (An Aa) (Bq F Aa Aa).q fun a w F W => ?_
     refine ls F W Aa (Au F Aa Aa Aa).q fun a w F W => ?_
     refine Ag (Ad ?_)
     exact ⟨F.re ⟨rfl, Aa, Aa, Aa, (by show some (Value.bool true) = some (Value.bool (x5 && (x6 || true))); try rw [hb0]; try rw [hb1]; all_goals simp only [Bool.not_true, Bool.not_false, Bool.true_and, Bool.false_and, Bool.true_or, Bool.false_or, Bool.and_true, Bool.or_false, cond_true, cond_false]), (by show some (Value.bool true) = some (Value.bool (bif x5 then x6 else x6)); try rw [hb0]; try rw [hb1]; all_goals simp only [Bool.not_true, Bool.not_false, Bool.true_and, Bool.false_and, Bool.true_or, Bool.false_or, Bool.and_true, Bool.or_false, cond_true, cond_false]), Aa, Aa, (by show some (Value.bool (decide (x15 = 1))) = some (Value.bool (x5 && (x6 && decide (x15 = 1)))); try rw [hb0]; try rw [hb1]; all_goals simp only [Bool.not_true, Bool.not_false, Bool.true_and, Bool.false_and, Bool.true_or, Bool.false_or, Bool.and_true, Bool.or_false, cond_true, cond_false]), trivial⟩, W⟩
    rw [hb1] at F
    iterate 2 refine CD F Aa Aa Aa Aa Aa Aa Aa fun a F => ?_
    refine ls F W Aa (As F Aa Aa Aa).q fun a w F W => ?_
    refine Ag (Ad ?_)
    exact ⟨F.re ⟨rfl, Aa, Aa, Aa, (by show some (Value.bool true) = some (Value.bool (x5 && (x6 || true))); try rw [hb0]; try rw [hb1]; all_goals simp only [Bool.not_true, Bool.not_false, Bool.true_and, Bool.false_and, Bool.true_or, Bool.false_or, Bool.and_true, Bool.or_false, cond_true, cond_false]), (by show some (Value.bool false) = some (Value.bool (bif x5 then x6 else x6)); try rw [hb0]; try rw [hb1]; all_goals simp only [Bool.not_true, Bool.not_false, Bool.true_and, Bool.false_and, Bool.true_or, Bool.false_or, Bool.and_true, Bool.or_false, cond_true, cond_false]), Aa, Aa, (by show some (Value.bool false) = some (Value.bool (x5 && (x6 && decide (x15 = 1)))); try rw [hb0]; try rw [hb1]; all_goals simp only [Bool.not_true, Bool.not_false, Bool.true_and, Bool.false_and, Bool.true_or, Bool.false_or, Bool.and_true, Bool.or_false, cond_true, cond_false]), trivial⟩, W⟩
   rw [hb0] at F
   refine CD F Aa Aa Aa Aa Aa Aa Aa fun a F => ?_
   refine ls F W Aa (As F Aa Aa Aa).q fun a w F W => ?_
   refine ls F W Aa (Ai F Aa).q fun a w F W => ?_
   iterate 2 refine CD F Aa Aa Aa Aa Aa Aa Aa fun a F => ?_
   refine ls F W Aa (As F Aa Aa Aa).q fun a w F W => ?_
   refine Ag (Ad ?_)
   exact ⟨F.re ⟨rfl, Aa, Aa, Aa, (by show some (Value.bool false) = some (Value.bool (x5 && (x6 || true))); try rw [hb0]; all_goals simp only [Bool.not_true, Bool.not_false, Bool.true_and, Bool.false_and, Bool.true_or, Bool.false_or, Bool.and_true, Bool.or_false, cond_true, cond_false]), (by show some (Value.bool x6) = some (Value.bool (bif x5 then x6 else x6)); try rw [hb0]; all_goals simp only [Bool.not_true, Bool.not_false, Bool.true_and, Bool.false_and, Bool.true_or, Bool.false_or, Bool.and_true, Bool.or_false, cond_true, cond_false]), Aa, Aa, (by show some (Value.bool false) = some (Value.bool (x5 && (x6 && decide (x15 = 1)))); try rw [hb0]; all_goals simp only [Bool.not_true, Bool.not_false, Bool.true_and, Bool.false_and, Bool.true_or, Bool.false_or, Bool.and_true, Bool.or_false, cond_true, cond_false]), trivial⟩, W⟩
  rintro a w ⟨F, W⟩
  refine Ay F Aa (fun hb => ?_) fun hb => ?_
  ·
   have H := AW hb H
   rw [hb] at F
   clear hb
   refine Aj (Ae ?_)
   iterate 3 refine ls F W Aa (Ai F Aa).q fun a w F W => ?_
   obtain ⟨x18, h6, H⟩ := Am H
   refine BD (Ml := []) (Zl := [row v1 3 (Rp.int .i64) x13]) (M := []) (Z := []) (β := Unit) (rv := fun x => .bool x18.1) (MM := fun x => []) (ZZ := fun x => [row v1 3 (Rp.int .i64) x18.2]) F W Ts Aa Aa (fun hL => EM _ _ w (v1) x13 x2 x3 _ h6 hL) fun x a w F W => ?_
   have W : Stw ⟨Y, X, w0⟩ [] [row v1 3 (Rp.int .i64) x18.2] w := W
   refine Ag (Ad ?_)
   refine Ay F Aa (fun hb => ?_) fun hb => ?_
   ·
    have H := AW hb H
    rw [hb] at F
    clear hb
    refine Az (AR (Bk (AR (Bk ?_))))
    have H := L4 _ H
    have H := L1 _ H
    have H := AM H
    subst H
    refine HQ (.inl Aa) F Aa ?_
    exact ⟨(), Aa, W⟩
   have H := AX (by rw [hb]; decide) H
   rw [hb] at F
   clear hb
   refine Aw (Ad ?_)
   exact ⟨_, H, F.re ⟨rfl, Aa, Aa, Aa, Aa, Aa, Aa, Aa, trivial⟩, W⟩
  have H := AX (by rw [hb]; decide) H
  rw [hb] at F
  clear hb
  refine Aw (Ad ?_)
  exact ⟨_, H, F.re ⟨rfl, Aa, Aa, Aa, Aa, Aa, Aa, Aa, trivial⟩, W⟩
 rintro a w ⟨x17, hj, F, W⟩
 have H := K4 _ hj
 clear hj G4 K4 L4
 refine Aj ?_
 obtain ⟨o5, G5, K5⟩ := Am H
 refine AO (fun a w => ∃ x19 : Bool, some (x19) = some o5 ∧ Fr 134 [] [(0, v1), (1, .int .i64 x2), (2, .int .i64 x3), (3, .int .i64 x10), (8, .bool (x5 && (x6 || true))), (9, .bool (bif x5 then x6 else x6)), (10, .int .i64 (A1 (x3 - x2))), (11, .int .i64 x14), (87, .bool x19)] a ∧ Stw ⟨Y, X, w0⟩ [] [row v1 3 (Rp.int .i64) x17] w) ?_ ?_
 ·
  have H := G5
  clear G5 K5
  refine BS W MO (by kernel_rfl) ?_
  refine qs F Aa (Ai F Aa).q fun a F => ?_
  refine qs F Aa (EW F Aa Aa).q fun a F => ?_
  refine qs F Aa (Ai F Aa).q fun a F => ?_
  rcases Bool.eq_false_or_eq_true (decide (0 < x2)) with hb | hb
  ·
   have H := AW (Bm hb) H
   rw [hb] at F
   clear hb
   iterate 2 refine Bi F (Af F Aa Aa Aa Aa) Aa (An Aa) (Ai F Aa).q fun a F => ?_
   refine Bi F (Af F Aa Aa Aa Aa) Aa (An Aa) (Cn F Aa Aa Aa).q fun a F => ?_
   obtain ⟨x20, h7, H⟩ := Am H
   refine Bi F (Af F Aa Aa Aa Aa) Aa (An Aa) (AG (r := (Rp.int .i64)) Ds F Aa Aa (Ap 0 Aa) h7).q fun a F => ?_
   refine Bi F (Af F Aa Aa Aa Aa) Aa (An Aa) (Ax (y := Value.int .i64 x20) (j := 0) (i := A1 (x2 - 1)) F Aa Aa (Ap 0 Aa) h7 Fl.int.to T3 Aa).q fun a F => ?_
   iterate 2 refine Bi F (Af F Aa Aa Aa Aa) Aa (An Aa) (Ai F Aa).q fun a F => ?_
   obtain ⟨x21, h8, H⟩ := Am H
   refine Bi F (Af F Aa Aa Aa Aa) Aa (An Aa) (AG (r := (Rp.int .i64)) Ds F Aa Aa (Ap 0 Aa) h8).q fun a F => ?_
   refine Bi F (Af F Aa Aa Aa Aa) Aa (An Aa) (Ax (y := Value.int .i64 x21) (j := 0) (i := x14) F Aa Aa (Ap 0 Aa) h8 Fl.int.to T3 Aa).q fun a F => ?_
   refine Bi F (Af F Aa Aa Aa Aa) Aa (An Aa) (AU (v := Value.bool (Be x20 x21)) F Om Aa (fun w W => B9 any w x20 x21 _ Aa)) fun a F => ?_
   refine Bi F (Af F Aa Aa Aa Aa) Aa (An Aa) (ET F Aa).q fun a F => ?_
   refine qs F Aa (Au F Aa Aa Aa).q fun a F => ?_
   refine A2 fun w W => ?_
   refine Ad ?_
   exact ⟨_, H, F.re ⟨rfl, Aa, Aa, Aa, Aa, Aa, Aa, Aa, Aa, trivial⟩, W⟩
  have H := AX (Bl hb) H
  rw [hb] at F
  clear hb
  iterate 11 refine Ca F (AH F Aa Aa Aa Aa Aa) Aa Aa fun a F => ?_
  refine qs F Aa (As F Aa Aa Aa).q fun a F => ?_
  refine A2 fun w W => ?_
  refine Ad ?_
  exact ⟨_, H, F.re ⟨rfl, Aa, Aa, Aa, Aa, Aa, Aa, Aa, Aa, trivial⟩, W⟩
 rintro a w ⟨x19, hj, F, W⟩
 have hj := AM hj
 subst hj
 have H := K5
 clear G5 K5
 refine Ay F Aa (fun hb => ?_) fun hb => ?_
 ·
  have H := AW hb H
  rw [hb] at F
  clear hb
  refine Aj (Ae ?_)
  iterate 4 refine ls F W Aa (Ai F Aa).q fun a w F W => ?_
  obtain ⟨x22, h9, H⟩ := Am H
  refine BD (Ml := []) (Zl := [row v1 3 (Rp.int .i64) x17]) (M := []) (Z := []) (β := Unit) (rv := fun x => .int .i64 x22.1) (MM := fun x => []) (ZZ := fun x => [row v1 3 (Rp.int .i64) x22.2]) F W SZ Aa Aa (fun hL => Fc _ _ w (v1) x17 x2 x3 x14 _ h9 hL) fun x a w F W => ?_
  have W : Stw ⟨Y, X, w0⟩ [] [row v1 3 (Rp.int .i64) x22.2] w := W
  refine ls F W Aa (Ah F Aa).q fun a w F W => ?_
  refine Ag (Ad (Aj (Ae ?_)))
  refine ls F W Aa (Ai F Aa).q fun a w F W => ?_
  refine ls F W Aa (Ah F Aa).q fun a w F W => ?_
  refine Ag (Ad (Bx (BO (Bz (Ad ?_)))))
  exact ⟨_, H, F.re ⟨rfl, Aa, Aa, Aa, Aa, Aa, trivial⟩, W⟩
 have H := AX (by rw [hb]; decide) H
 rw [hb] at F
 clear hb
 refine Aw (Ad (Aj (Ae ?_)))
 iterate 4 refine ls F W Aa (Ai F Aa).q fun a w F W => ?_
 obtain ⟨x23, h10, H⟩ := Am H
 refine BD (Ml := []) (Zl := [row v1 3 (Rp.int .i64) x17]) (M := []) (Z := []) (β := Unit) (rv := fun x => .tuple #[.int .i64 x23.1, .bool x23.2.1]) (MM := fun x => []) (ZZ := fun x => [row v1 3 (Rp.int .i64) x23.2.2]) F W Tb Aa Aa (fun hL => F1 _ _ w (v1) x17 x2 x3 x14 _ h10 hL) fun x a w F W => ?_
 have W : Stw ⟨Y, X, w0⟩ [] [row v1 3 (Rp.int .i64) x23.2.2] w := W
 refine ls F W Aa (Ai F Aa).q fun a w F W => ?_
 refine ls F W Aa (EJ (v := Value.int .i64 x23.1) F Aa Aa).q fun a w F W => ?_
 refine ls F W Aa (EJ (v := Value.bool x23.2.1) F Aa Aa).q fun a w F W => ?_
 iterate 2 refine ls F W Aa (Ah F Aa).q fun a w F W => ?_
 refine Ag (Ad (Aj (Ae ?_)))
 refine ls F W Aa (Ai F Aa).q fun a w F W => ?_
 refine ls F W Aa (Ah F Aa).q fun a w F W => ?_
 refine Ag (Ad (Aj (Ae ?_)))
 iterate 2 refine ls F W Aa (Ai F Aa).q fun a w F W => ?_
 refine ls F W Aa (Cn F Aa Aa Aa).q fun a w F W => ?_
 iterate 2 refine ls F W Aa (Ai F Aa).q fun a w F W => ?_
 refine ls F W Aa (Cn F Aa Aa Aa).q fun a w F W => ?_
 iterate 2 refine ls F W Aa (Ah F Aa).q fun a w F W => ?_
 refine Ag (Ad (Aj (Ae ?_)))
 refine ls F W Aa (Ai F Aa).q fun a w F W => ?_
 refine ls F W Aa (Ja F Aa Aa (by decide) Aa).q fun a w F W => ?_
 refine ls F W Aa (Ah F Aa).q fun a w F W => ?_
 refine Ag (Ad (Aj (Ae ?_)))
 iterate 2 refine ls F W Aa (Ai F Aa).q fun a w F W => ?_
 refine ls F W Aa (Cy F Aa Aa).q fun a w F W => ?_
 refine Ag (Ad ?_)
 refine Ay F Aa (fun hb => ?_) fun hb => ?_
 ·
  have H := AW (Bm hb) H
  rw [hb] at F
  clear hb
  refine Aj (Ae ?_)
  iterate 2 refine ls F W Aa (Ai F Aa).q fun a w F W => ?_
  refine ls F W Aa (D6 F Aa Aa).q fun a w F W => ?_
  refine ls F W Aa (Ah F Aa).q fun a w F W => ?_
  refine Ag (Ad (Aj (Ae ?_)))
  iterate 4 refine ls F W Aa (Ai F Aa).q fun a w F W => ?_
  obtain ⟨x24, h11, H⟩ := Am H
  refine BD (Ml := []) (Zl := [row v1 3 (Rp.int .i64) x23.2.2]) (M := []) (Z := []) (β := Unit) (rv := fun x => .tuple #[]) (MM := fun x => []) (ZZ := fun x => [row v1 3 (Rp.int .i64) x24]) F W Sc Aa Aa (fun hL => ih _ _ w (v1) x23.2.2 x2 x23.1 x10 _ h11 hL) fun x a w F W => ?_
  have W : Stw ⟨Y, X, w0⟩ [] [row v1 3 (Rp.int .i64) x24] w := W
  refine Ag (Ad (Ae ?_))
  refine ls F W Aa (Ai F Aa).q fun a w F W => ?_
  refine ls F W Aa (BC F Aa Aa Aa).q fun a w F W => ?_
  refine ls F W Aa (Ah F Aa).q fun a w F W => ?_
  refine Ag (A8 (Ad ?_))
  exact ⟨_, H, F.re ⟨rfl, Aa, Aa, Aa, Aa, Aa, trivial⟩, W⟩
 have H := AX (Bl hb) H
 rw [hb] at F
 clear hb
 refine Aj (Ae ?_)
 iterate 2 refine ls F W Aa (Ai F Aa).q fun a w F W => ?_
 refine ls F W Aa (D6 F Aa Aa).q fun a w F W => ?_
 refine ls F W Aa (Ah F Aa).q fun a w F W => ?_
 refine Ag (Ad (Aj (Ae ?_)))
 iterate 2 refine ls F W Aa (Ai F Aa).q fun a w F W => ?_
 refine ls F W Aa (BC F Aa Aa Aa).q fun a w F W => ?_
 iterate 2 refine ls F W Aa (Ai F Aa).q fun a w F W => ?_
 obtain ⟨x25, h12, H⟩ := Am H
 refine BD (Ml := []) (Zl := [row v1 3 (Rp.int .i64) x23.2.2]) (M := []) (Z := []) (β := Unit) (rv := fun x => .tuple #[]) (MM := fun x => []) (ZZ := fun x => [row v1 3 (Rp.int .i64) x25]) F W Sc Aa Aa (fun hL => ih _ _ w (v1) x23.2.2 (A1 (x23.1 + 1)) x3 x10 _ h12 hL) fun x a w F W => ?_
 have W : Stw ⟨Y, X, w0⟩ [] [row v1 3 (Rp.int .i64) x25] w := W
 refine Ag (Ad (Ae ?_))
 refine ls F W Aa (Ai F Aa).q fun a w F W => ?_
 refine ls F W Aa (Ah F Aa).q fun a w F W => ?_
 refine Ag (A8 (Ad ?_))
 exact ⟨_, H, F.re ⟨rfl, Aa, Aa, Aa, Aa, Aa, trivial⟩, W⟩
theorem F6 : ∀ (n : Nat) (Y : Nat → Prop) (X : List Nat) (w0 : World) (v1 : Value) (p0 : List Int) (p1 : Int) (p2 : Int) (p3 : Int) (r : List Int) (H : Bg n p0 p1 p2 p3 = some r) (hL : Stw ⟨Y, X, w0⟩ [] [row v1 3 (Rp.int .i64) p0] w0), Calls Tryd.prog 55 #[v1, .int .i64 p1, .int .i64 p2, .int .i64 p3] w0 fun e w' => ∃ x : Unit, e = .returned (.tuple #[]) ∧ Stw ⟨Y, X, w0⟩ [] [row v1 3 (Rp.int .i64) r] w' := by
  intro n
  induction n with
  | zero => intro Y X w0 v1 p0 p1 p2 p3 r H; exact nomatch H
  | succ n ih => intro Y X w0 v1 p0 p1 p2 p3 r H hL; exact FZ (Bg n) ih Y X w0 v1 p0 p1 p2 p3 r H hL
theorem Ga (Y : Nat → Prop) (X : List Nat) (w0 : World) (v1 : Value) (p0 : List Int) (p1 : Int) (p2 : Int) (p3 : Int) (r : List Int) (H : Dc p0 p1 p2 p3 = some r) (hL : Stw ⟨Y, X, w0⟩ [] [row v1 3 (Rp.int .i64) p0] w0) :
    Calls Tryd.prog 55 #[v1, .int .i64 p1, .int .i64 p2, .int .i64 p3] w0 fun e w' => ∃ x : Unit, e = .returned (.tuple #[]) ∧ Stw ⟨Y, X, w0⟩ [] [row v1 3 (Rp.int .i64) r] w' := by
  obtain ⟨n, H⟩ := Cs H
  exact F6 n Y X w0 v1 p0 p1 p2 p3 r H hL
noncomputable def Dw (p0 : List Int) : Option (List Int) := (EL (IntKind.u64.wrap (p0.length : Int))).bind fun x1 => (Dc p0 0 (p0.length : Int) x1).bind fun x2 => some x2
theorem Hx (Y : Nat → Prop) (X : List Nat) (w0 : World) (v1 : Value) (p0 : List Int) (r : List Int) (H : Dw p0 = some r) (hL : Stw ⟨Y, X, w0⟩ [] [row v1 3 (Rp.int .i64) p0] w0) :
    Calls Tryd.prog 42 #[v1] w0 fun e w' => ∃ x : Unit, e = .returned (.tuple #[]) ∧ Stw ⟨Y, X, w0⟩ [] [row v1 3 (Rp.int .i64) r] w' := by
 refine enter Tryd.func42 Aa Tryd.ntmps42 Aa fun a F => ?_
 have W := hL
 unfold Dw at H
 refine Aj (Ae ?_)
 refine ls F W Aa (Ai F Aa).q fun a w F W => ?_
 refine ls F W Aa (CT (r := (Rp.int .i64)) (l := p0) Nk Aa F Aa (Ap 0 Aa)).q fun a w F W => ?_
 refine ls F W Aa (Ah F Aa).q fun a w F W => ?_
 refine Ag (Ad (Ae ?_))
 iterate 3 refine ls F W Aa (Ai F Aa).q fun a w F W => ?_
 refine ls F W Aa (Ic RN Rr F Aa).q fun a w F W => ?_
 obtain ⟨x1, h1, H⟩ := Am H
 refine ls F W Aa (AU (v := Value.int .i64 x1) F SO Aa (fun w W => Hs any w (IntKind.u64.wrap (p0.length : Int)) _ h1)) fun a w F W => ?_
 obtain ⟨x2, h2, H⟩ := Am H
 refine BD (Ml := []) (Zl := [row v1 3 (Rp.int .i64) p0]) (M := []) (Z := []) (β := Unit) (rv := fun x => .tuple #[]) (MM := fun x => []) (ZZ := fun x => [row v1 3 (Rp.int .i64) x2]) F W Sc Aa Aa (fun hL => Ga _ _ w (v1) p0 0 (p0.length : Int) x1 _ h2 hL) fun x a w F W => ?_
 have W : Stw ⟨Y, X, w0⟩ [] [row v1 3 (Rp.int .i64) x2] w := W
 refine Ag ?_
 have H := AM H
 subst H
 refine HQ (.inr Aa) F Aa ?_
 exact ⟨(), Aa, W⟩
theorem SX : Has Tryd.prog 42 := ⟨fun args w => Ao Tryd.func42 rfl (by decide) args w⟩
noncomputable def B7 (p0 : List Int) (x1 : Int) : (List Int × Int × Int) → Option ((List Int × Int × Int) ⊕ (List Int × Int))
  | (x7, x8, x9) => (GR x7 x1 (p0.length : Int)).bind fun x10 => (if x9 < (x10.length : Int) then ((ix x10 x9).bind fun x13 => (ix x10 (A1 (x9 - 1))).bind fun x14 => (if x13 ≠ x14 then (ix x10 x9).bind fun x15 => (ix x7 x8).bind fun x16 => some ((Bd x7 x8 x15), A1 (x8 + 1)) else some (x7, x8))).bind fun (x11, x12) => some (.inl (x11, x12, A1 (x9 + 1))) else some (.inr (x7, x8)))
noncomputable def BR (p0 : List Int) : Int → Option (Int ⊕ (Unit ⊕ (List Int)))
  | x1 => (if x1 < (p0.length : Int) then IX ((ix p0 x1).bind fun x2 => (ix p0 (A1 (x1 - 1))).bind fun x3 => (if x2 = x3 then (GR p0 x1 (p0.length : Int)).bind fun x4 => (A3 (B7 p0 x1) (p0, x1, 1)).bind fun (x5, x6) => (GR x5 x6 (x5.length : Int)).bind fun x17 => (Ry x5 x6 (List.replicate (x17.length) (0 : Int))).bind fun x18 => (GR x18 0 x6).bind fun x19 => some (.inr (.inr (.inr x19))) else some (.inl ()))) fun _ => some (.inl (A1 (x1 + 1))) else some (.inr (.inl ())))
noncomputable def C4 (p0 : List Int) : Option (List Int) := (if (p0.length : Int) < 2 then some p0 else IX (A3 (BR p0) 1) fun _ => some p0)
theorem GJ (Y : Nat → Prop) (X : List Nat) (w0 : World) (v1 : Value) (p0 : List Int) (r : List Int) (H : C4 p0 = some r) (hL : Stw ⟨Y, X, w0⟩ [] [row v1 3 (Rp.int .i64) p0] w0) :
    Calls Tryd.prog 43 #[v1] w0 fun e w' => ∃ x : Value, e = .returned (x) ∧ Stw ⟨Y, X, w0⟩ [] [row (x) 3 (Rp.int .i64) r] w' := by
 refine enter Tryd.func43 Aa Tryd.ntmps43 Aa fun a F => ?_
 have W := hL
 unfold C4 at H
 refine Aj (Ae ?_)
 refine ls F W Aa (Ah F Aa).q fun a w F W => ?_
 refine Ag (Ad (Aj (Aj (Ae ?_))))
 refine ls F W Aa (Ai F Aa).q fun a w F W => ?_
 refine ls F W Aa (CT (r := (Rp.int .i64)) (l := p0) Nk Aa F Aa (Ap 0 Aa)).q fun a w F W => ?_
 refine ls F W Aa (Cy F Aa Aa).q fun a w F W => ?_
 refine Ag (Ad ?_)
 refine Ay F Aa (fun hb => ?_) fun hb => ?_
 ·
  have H := AW (Bm hb) H
  rw [hb] at F
  clear hb
  refine Aj (Ae ?_)
  refine ls F W Aa (Ai F Aa).q fun a w F W => ?_
  refine ls F W Aa (Ah F Aa).q fun a w F W => ?_
  refine Ag (Ad (Az (AR ?_)))
  have H := AM H
  subst H
  refine AQ (.inl Aa) F W Aa (AD F Aa) ?_
  exact ⟨(v1), Aa, W⟩
 have H := AX (Bl hb) H
 rw [hb] at F
 clear hb
 refine Aw (Ad ?_)
 obtain ⟨o1, G1, K1, L1⟩ := OP H
 refine AO (fun a w => some (Sum.inl ()) = some o1 ∧ Fr 61 [] [(0, v1), (2, .slice none 0 0)] a ∧ Stw ⟨Y, X, w0⟩ [] [row v1 3 (Rp.int .i64) p0] w) ?_ ?_
 ·
  have H := G1
  clear G1 K1
  refine Aj (Ae ?_)
  refine ls F W Aa (Ah F Aa).q fun a w F W => ?_
  refine Ag (Ad (AA ?_))
  refine BI H (fun s a w => Fr 61 [] [(0, v1), (2, .slice none 0 0), (3, .int .i64 s)] a ∧ Stw ⟨Y, X, w0⟩ [] [row v1 3 (Rp.int .i64) p0] w) ⟨F.re ⟨rfl, Aa, Aa, trivial⟩, W⟩ fun s o a w H L2 hR => ?_
  obtain ⟨x1, rfl⟩ : ∃ x, x = s := ⟨s, rfl⟩
  obtain ⟨F, W⟩ := hR
  have F : Fr 61 [] [(0, v1), (2, .slice none 0 0), (3, .int .i64 x1)] a := F
  have W : Stw ⟨Y, X, w0⟩ [] [row v1 3 (Rp.int .i64) p0] w := W
  rw [BR] at H
  refine Aj (Aj (Ae ?_))
  iterate 2 refine ls F W Aa (Ai F Aa).q fun a w F W => ?_
  refine ls F W Aa (CT (r := (Rp.int .i64)) (l := p0) Nk Aa F Aa (Ap 0 Aa)).q fun a w F W => ?_
  refine ls F W Aa (Cy F Aa Aa).q fun a w F W => ?_
  refine Ag (Ad ?_)
  refine Ay F Aa (fun hb => ?_) fun hb => ?_
  ·
   have H := AW (Bm hb) H
   rw [hb] at F
   clear hb
   refine Aw (Ad ?_)
   obtain ⟨o3, G3, K3, L3⟩ := OP H
   refine AO (fun a w => some (Sum.inl ()) = some o3 ∧ Fr 61 [] [(0, v1), (2, .slice none 0 0), (3, .int .i64 x1)] a ∧ Stw ⟨Y, X, w0⟩ [] [row v1 3 (Rp.int .i64) p0] w) ?_ ?_
   ·
    have H := G3
    clear G3 K3
    refine AA (Aj ?_)
    refine BS W MO (by kernel_rfl) ?_
    iterate 2 refine qs F Aa (Ai F Aa).q fun a F => ?_
    obtain ⟨x2, h1, H⟩ := Am H
    refine qs F Aa (AG (r := (Rp.int .i64)) Ds F Aa Aa (Ap 0 Aa) h1).q fun a F => ?_
    refine qs F Aa (Ax (y := Value.int .i64 x2) (j := 0) (i := x1) F Aa Aa (Ap 0 Aa) h1 Fl.int.to T3 Aa).q fun a F => ?_
    iterate 2 refine qs F Aa (Ai F Aa).q fun a F => ?_
    refine qs F Aa (Cn F Aa Aa Aa).q fun a F => ?_
    obtain ⟨x3, h2, H⟩ := Am H
    refine qs F Aa (AG (r := (Rp.int .i64)) Ds F Aa Aa (Ap 0 Aa) h2).q fun a F => ?_
    refine qs F Aa (Ax (y := Value.int .i64 x3) (j := 0) (i := A1 (x1 - 1)) F Aa Aa (Ap 0 Aa) h2 Fl.int.to T3 Aa).q fun a F => ?_
    refine qs F Aa (Bq F Aa Aa).q fun a F => ?_
    refine A2 fun w W => ?_
    refine Ad ?_
    refine Ay F Aa (fun hb => ?_) fun hb => ?_
    ·
     have H := AW (Bm hb) H
     rw [hb] at F
     clear hb
     refine Aj (Ae ?_)
     iterate 2 refine ls F W Aa (Ai F Aa).q fun a w F W => ?_
     obtain ⟨x4, h3, H⟩ := Am H
     refine ls F W Aa (MI (r := (Rp.int .i64)) Ds F Aa Aa Aa (Ap 0 Aa) h3).q fun a w F W => ?_
     refine ls F W Aa (Ah F Aa).q fun a w F W => ?_
     refine Ag (Ad ?_)
     obtain ⟨o4, G4, K4⟩ := Am H
     refine AO (fun a w => ∃ x5 : List Int, ∃ x6 : Int, some ((x5, x6)) = some o4 ∧ Fr 61 [] [(0, v1), (2, .slice none 0 0), (3, .int .i64 x6)] a ∧ Stw ⟨Y, X, w0⟩ [] [row v1 3 (Rp.int .i64) x5] w) ?_ ?_
     ·
      have H := G4
      clear G4 K4
      refine Aj (Ae ?_)
      refine ls F W Aa (Ah F Aa).q fun a w F W => ?_
      refine Ag (Ad (AA ?_))
      refine BI H (fun s a w => Fr 61 [] [(0, v1), (2, .slice none 0 0), (3, .int .i64 s.2.1), (4, (DG v1 x1 (p0.length : Int) 1)), (5, .int .i64 s.2.2)] a ∧ Stw ⟨Y, X, w0⟩ [] [row v1 3 (Rp.int .i64) s.1] w) ⟨F.re ⟨rfl, Aa, Aa, Aa, Aa, trivial⟩, W⟩ fun s o a w H L5 hR => ?_
      obtain ⟨x7, x8, x9⟩ := s
      obtain ⟨F, W⟩ := hR
      have F : Fr 61 [] [(0, v1), (2, .slice none 0 0), (3, .int .i64 x8), (4, (DG v1 x1 (p0.length : Int) 1)), (5, .int .i64 x9)] a := F
      have W : Stw ⟨Y, X, w0⟩ [] [row v1 3 (Rp.int .i64) x7] w := W
      rw [B7] at H
      refine Aj (Aj (Ae ?_))
      iterate 2 refine ls F W Aa (Ai F Aa).q fun a w F W => ?_
      obtain ⟨x10, h4, H⟩ := Am H
      refine ls F W Aa (CT (r := (Rp.int .i64)) (l := x10) Nk Aa F Aa (Hd (Ap 0 Aa) h4)).q fun a w F W => ?_
      refine ls F W Aa (Cy F Aa Aa).q fun a w F W => ?_
      refine Ag (Ad ?_)
      refine Ay F Aa (fun hb => ?_) fun hb => ?_
      ·
       have H := AW (Bm hb) H
       rw [hb] at F
       clear hb
       refine Aw (Ad ?_)
       obtain ⟨o6, G6, K6⟩ := Am H
       refine AO (fun a w => ∃ x11 : List Int, ∃ x12 : Int, some ((x11, x12)) = some o6 ∧ Fr 61 [] [(0, v1), (2, .slice none 0 0), (3, .int .i64 x12), (4, (DG v1 x1 (p0.length : Int) 1)), (5, .int .i64 x9)] a ∧ Stw ⟨Y, X, w0⟩ [] [row v1 3 (Rp.int .i64) x11] w) ?_ ?_
       ·
        have H := G6
        clear G6 K6
        refine AA (Aj ?_)
        refine BS W MO (by kernel_rfl) ?_
        iterate 2 refine qs F Aa (Ai F Aa).q fun a F => ?_
        obtain ⟨x13, h5, H⟩ := Am H
        refine qs F Aa (AG (r := (Rp.int .i64)) Ds F Aa Aa (Hd (Ap 0 Aa) h4) h5).q fun a F => ?_
        refine qs F Aa (Ax (y := Value.int .i64 x13) (j := 0) (i := x9) F Aa Aa (Hd (Ap 0 Aa) h4) h5 Fl.int.to T3 Aa).q fun a F => ?_
        iterate 2 refine qs F Aa (Ai F Aa).q fun a F => ?_
        refine qs F Aa (Cn F Aa Aa Aa).q fun a F => ?_
        obtain ⟨x14, h6, H⟩ := Am H
        refine qs F Aa (AG (r := (Rp.int .i64)) Ds F Aa Aa (Hd (Ap 0 Aa) h4) h6).q fun a F => ?_
        refine qs F Aa (Ax (y := Value.int .i64 x14) (j := 0) (i := A1 (x9 - 1)) F Aa Aa (Hd (Ap 0 Aa) h4) h6 Fl.int.to T3 Aa).q fun a F => ?_
        refine qs F Aa (E7 F Aa Aa).q fun a F => ?_
        refine A2 fun w W => ?_
        refine Ad ?_
        refine Ay F Aa (fun hb => ?_) fun hb => ?_
        ·
         have H := AW (Bm hb) H
         rw [hb] at F
         clear hb
         refine Aj (Ae ?_)
         iterate 4 refine ls F W Aa (Ai F Aa).q fun a w F W => ?_
         obtain ⟨x15, h7, H⟩ := Am H
         refine ls F W Aa (AG (r := (Rp.int .i64)) Ds F Aa Aa (Hd (Ap 0 Aa) h4) h7).q fun a w F W => ?_
         refine ls F W Aa (Ax (y := Value.int .i64 x15) (j := 0) (i := x9) F Aa Aa (Hd (Ap 0 Aa) h4) h7 Fl.int.to T3 Aa).q fun a w F W => ?_
         obtain ⟨x16, h8, H⟩ := Am H
         refine ls F W Aa (AG (r := (Rp.int .i64)) Ds F Aa Aa (Ap 0 Aa) h8).q fun a w F W => ?_
         refine Br (i := x8) (j := 0) (vs := [.int .i64 x15]) (x' := x15) F W Aa Aa Aa (k := 0) Aa Aa h8 T3 Aa Aa Aa Aa (fun A cs _ => Fl.int.sto (by rfl) _ _ _) fun w W => ?_
         refine Ag (Ad (Ae ?_))
         refine ls F W Aa (Ai F Aa).q fun a w F W => ?_
         refine ls F W Aa (BC F Aa Aa Aa).q fun a w F W => ?_
         refine ls F W Aa (Ah F Aa).q fun a w F W => ?_
         refine Ag (A8 (Ad ?_))
         exact ⟨_, _, H, F.re ⟨rfl, Aa, Aa, Aa, Aa, trivial⟩, W⟩
        have H := AX (Bl hb) H
        rw [hb] at F
        clear hb
        refine Aw (A8 (Ad ?_))
        exact ⟨_, _, H, F.re ⟨rfl, Aa, Aa, Aa, Aa, trivial⟩, W⟩
       rintro a w ⟨x11, x12, hj, F, W⟩
       have hj := AM hj
       subst hj
       have H := K6
       clear G6 K6
       refine Ae ?_
       refine ls F W Aa (Ai F Aa).q fun a w F W => ?_
       refine ls F W Aa (BC F Aa Aa Aa).q fun a w F W => ?_
       refine ls F W Aa (Ah F Aa).q fun a w F W => ?_
       refine Ag (Ad ?_)
       exact ⟨_, H, F.re ⟨rfl, Aa, Aa, Aa, Aa, trivial⟩, W⟩
      have H := AX (Bl hb) H
      rw [hb] at F
      clear hb
      refine Bx ?_
      iterate 2 refine BO ?_
      refine Bz (Ad ?_)
      have H := L5 _ H
      exact ⟨_, _, H, F.re ⟨rfl, Aa, Aa, trivial⟩, W⟩
     rintro a w ⟨x5, x6, hj, F, W⟩
     have hj := AM hj
     subst hj
     have H := K4
     clear G4 K4
     refine Aj (Ae ?_)
     iterate 2 refine ls F W Aa (Ai F Aa).q fun a w F W => ?_
     obtain ⟨x17, h9, H⟩ := Am H
     refine ls F W Aa (MI (r := (Rp.int .i64)) Ds F Aa Aa Aa (Ap 0 Aa) h9).q fun a w F W => ?_
     obtain ⟨x18, h10, H⟩ := Am H
     refine QS (r := (Rp.int .i64)) (v := v1) (k := 0) (0 : Int) F W Ds Z3 Aa Aa Aa h9 (fun w A => Fl.int.mk' w A (0 : Int)) h10 fun w W => ?_
     have W : Stw ⟨Y, X, w0⟩ [] [row v1 3 (Rp.int .i64) x18] w := W
     refine Ag (Ad (Aj (Ae ?_)))
     iterate 2 refine ls F W Aa (Ai F Aa).q fun a w F W => ?_
     obtain ⟨x19, h11, H⟩ := Am H
     refine ls F W Aa (MI (r := (Rp.int .i64)) Ds F Aa Aa Aa (Ap 0 Aa) h11).q fun a w F W => ?_
     refine ls F W Aa (Ah F Aa).q fun a w F W => ?_
     refine Ag (Ad (Az (Bk ?_)))
     iterate 2 refine AR ?_
     refine Bk (AR ?_)
     have H := L3 _ H
     have H := L2 _ H
     have H := L1 _ H
     have H := AM H
     subst H
     refine AQ (.inl Aa) F W Aa (AD F Aa) ?_
     have W := W.subRow (k := 0) Aa Aa h11
     exact ⟨((DG v1 (0 : Int) x6 1)), Aa, W⟩
    have H := AX (Bl hb) H
    rw [hb] at F
    clear hb
    refine Aw (A8 (Ad ?_))
    exact ⟨H, F.re ⟨rfl, Aa, Aa, trivial⟩, W⟩
   rintro a w ⟨hj, F, W⟩
   have H := K3 _ hj
   clear hj G3 K3 L3
   refine Ae ?_
   refine ls F W Aa (Ai F Aa).q fun a w F W => ?_
   refine ls F W Aa (BC F Aa Aa Aa).q fun a w F W => ?_
   refine ls F W Aa (Ah F Aa).q fun a w F W => ?_
   refine Ag (Ad ?_)
   exact ⟨_, H, F.re ⟨rfl, Aa, Aa, trivial⟩, W⟩
  have H := AX (Bl hb) H
  rw [hb] at F
  clear hb
  refine Bx ?_
  iterate 2 refine BO ?_
  refine Bz (Ad ?_)
  have H := L2 _ H
  exact ⟨H, F.re ⟨rfl, Aa, trivial⟩, W⟩
 rintro a w ⟨hj, F, W⟩
 have H := K1 _ hj
 clear hj G1 K1 L1
 refine Aj (Ae ?_)
 refine ls F W Aa (Ai F Aa).q fun a w F W => ?_
 refine ls F W Aa (Ah F Aa).q fun a w F W => ?_
 refine Ag (Ad (Az ?_))
 have H := AM H
 subst H
 refine AQ (.inl Aa) F W Aa (AD F Aa) ?_
 exact ⟨(v1), Aa, W⟩
theorem SY : Has Tryd.prog 43 := ⟨fun args w => Ao Tryd.func43 rfl (by decide) args w⟩
noncomputable def Ff (p0 : Tr31) (p1 : Int) : Option (List Int) := (GQ p0 p1).bind fun x1 => (Dw x1).bind fun x2 => (C4 x2).bind fun x3 => some x3
theorem LI (Y : Nat → Prop) (w0 : World) (v1 : Value) (p0 : Tr31) (p1 : Int) (r : List Int) (H : Ff p0 p1 = some r) (h_v1 : Sl w0 (NX []) BJ v1 p0.un.2.2.2) :
    Calls Tryd.prog 26 #[.agg #[.int .i64 p0.un.1, .int .i64 p0.un.2.1, .int .i64 p0.un.2.2.1, v1], .int .i64 p1] w0 fun e w' => ∃ x : Value, e = .returned (x) ∧ Stw ⟨Y, [], w0⟩ [] [row (x) 3 (Rp.int .i64) r] w' := by
 refine enter Tryd.func26 Aa Tryd.ntmps26 Aa fun a F => ?_
 have W := Stw.start Y w0
 obtain ⟨v2, h1, h_v1⟩ := h_v1.ex CB
 unfold Ff at H
 refine Aj (Ae ?_)
 refine C5 (cs := [.int .i64 p0.un.1, .int .i64 p0.un.2.1, .int .i64 p0.un.2.2.1, v1]) F W Aa Aa Aa fun b1 a w F W => ?_
 refine ls F W Aa (Ah F Aa).q fun a w F W => ?_
 refine Ag (Ad (Aj (Ae ?_)))
 refine ls F W Aa (Aq (v := Value.agg #[.int .i64 p0.un.1, .int .i64 p0.un.2.1, .int .i64 p0.un.2.2.1, v1]) 0 F Aa Aa EA Aa).q fun a w F W => ?_
 refine ls F W Aa (Ai F Aa).q fun a w F W => ?_
 obtain ⟨x1, h2, H⟩ := Am H
 refine BD (Ml := []) (Zl := []) (M := [(b1, [.int .i64 p0.un.1, .int .i64 p0.un.2.1, .int .i64 p0.un.2.2.1, v1])]) (Z := []) (β := Value) (rv := fun x => x) (MM := fun x => []) (ZZ := fun x => [row x 3 (Rp.int .i64) x1]) F W SC Aa Aa (fun hL => J0 _ w (v1) p0 p1 _ h2 ((AP CB h1 (Av h_v1)) w W).nx) fun x a w F W => ?_
 obtain ⟨v3, rfl⟩ : ∃ y, y = x := ⟨x, rfl⟩
 have W : Stw ⟨Y, [], w0⟩ [(b1, [.int .i64 p0.un.1, .int .i64 p0.un.2.1, .int .i64 p0.un.2.2.1, v1])] [row v3 3 (Rp.int .i64) x1] w := W
 refine ls F W Aa (Ah F Aa).q fun a w F W => ?_
 refine Ag (Ad (Aj (Ae ?_)))
 refine ls F W Aa (Ai F Aa).q fun a w F W => ?_
 obtain ⟨x2, h3, H⟩ := Am H
 refine BD (Ml := []) (Zl := [row v3 3 (Rp.int .i64) x1]) (M := [(b1, [.int .i64 p0.un.1, .int .i64 p0.un.2.1, .int .i64 p0.un.2.2.1, v1])]) (Z := []) (β := Unit) (rv := fun x => .tuple #[]) (MM := fun x => []) (ZZ := fun x => [row v3 3 (Rp.int .i64) x2]) F W SX Aa Aa (fun hL => Hx _ _ w (v3) x1 _ h3 hL) fun x a w F W => ?_
 have W : Stw ⟨Y, [], w0⟩ [(b1, [.int .i64 p0.un.1, .int .i64 p0.un.2.1, .int .i64 p0.un.2.2.1, v1])] [row v3 3 (Rp.int .i64) x2] w := W
 refine Ag (Ad (Aj (Ae ?_)))
 refine ls F W Aa (Ai F Aa).q fun a w F W => ?_
 obtain ⟨x3, h4, H⟩ := Am H
 refine BD (Ml := []) (Zl := [row v3 3 (Rp.int .i64) x2]) (M := [(b1, [.int .i64 p0.un.1, .int .i64 p0.un.2.1, .int .i64 p0.un.2.2.1, v1])]) (Z := []) (β := Value) (rv := fun x => x) (MM := fun x => []) (ZZ := fun x => [row x 3 (Rp.int .i64) x3]) F W SY Aa Aa (fun hL => GJ _ _ w (v3) x2 _ h4 hL) fun x a w F W => ?_
 obtain ⟨v4, rfl⟩ : ∃ y, y = x := ⟨x, rfl⟩
 have W : Stw ⟨Y, [], w0⟩ [(b1, [.int .i64 p0.un.1, .int .i64 p0.un.2.1, .int .i64 p0.un.2.2.1, v1])] [row v4 3 (Rp.int .i64) x3] w := W
 refine ls F W Aa (Ah F Aa).q fun a w F W => ?_
 refine Ag (Ad (Az ?_))
 have H := AM H
 subst H
 refine AQ (.inl Aa) F W Aa (AD F Aa) ?_
 have W := W.sub (M' := []) (Z' := [row v4 3 (Rp.int .i64) x3]) (List.nil_sublist _) (List.Sublist.refl _)
 exact ⟨(v4), Aa, W⟩
theorem Sj : type_of% Tryd.underlying26 := Tryd.underlying26
theorem S5 : Has Tryd.prog 26 := ⟨fun args w => Ao Tryd.func26 rfl (by decide) args w⟩
theorem QM : Ar Tryd.prog 26 4 3 1 := ⟨Sj, by kernel_rfl⟩
noncomputable def Ib (p0 : Int) (p1 : Int) (p2 : Int) (p3 : Int × Int × Int × Int) : Option Int := (if (decide (0 ≤ p0) && decide (p0 < 4)) = true then (ix ([p3.1, p3.2.1, p3.2.2.1, p3.2.2.2] : List Int) p0).bind fun x1 => some x1 else (if p0 = 4 then some p2 else (if p0 = 5 then some p1 else some (-1))))
theorem Mc (Y : Nat → Prop) (w0 : World)  (p0 : Int) (p1 : Int) (p2 : Int) (p3 : Int × Int × Int × Int) (r : Int) (H : Ib p0 p1 p2 p3 = some r)  :
    Calls Tryd.prog 21 #[.int .i64 p0, .int .i64 p1, .int .i64 p2, .agg #[.int .i64 p3.1, .int .i64 p3.2.1, .int .i64 p3.2.2.1, .int .i64 p3.2.2.2]] w0 fun e w' => e = .returned (.int .i64 r) ∧ Below w0.heap.size w0 w' := by
 refine enter Tryd.func21 Aa Tryd.ntmps21 Aa fun a F => ?_
 have W := Stw.start Y w0
 unfold Ib at H
 refine Aj (Ae ?_)
 refine C5 (cs := [.int .i64 p3.1, .int .i64 p3.2.1, .int .i64 p3.2.2.1, .int .i64 p3.2.2.2]) F W Aa Aa Aa fun b1 a w F W => ?_
 refine ls F W Aa (Ah F Aa).q fun a w F W => ?_
 refine Ag (Ad (Aj ?_))
 refine AO (fun a w => Fr 24 [] [(0, .int .i64 p0), (1, .int .i64 p1), (2, .int .i64 p2), (7, .pointer (some ⟨b1, 0, none⟩)), (8, .int .i64 0), (14, .bool (decide (0 ≤ p0) && decide (p0 < 4)))] a ∧ Stw ⟨Y, [], w0⟩ [(b1, [.int .i64 p3.1, .int .i64 p3.2.1, .int .i64 p3.2.2.1, .int .i64 p3.2.2.2])] [] w) ?_ ?_
 ·
  refine Ae ?_
  refine ls F W Aa (Ai F Aa).q fun a w F W => ?_
  refine ls F W Aa (D6 F Aa Aa).q fun a w F W => ?_
  refine ls F W Aa (Ai F Aa).q fun a w F W => ?_
  rcases Bool.eq_false_or_eq_true (decide (0 ≤ p0)) with hb0 | hb0
  ·
   rw [hb0] at F
   refine AL F W (Af F Aa Aa Aa Aa) Aa (An Aa) (Ai F Aa).q fun a w F W => ?_
   refine AL F W (Af F Aa Aa Aa Aa) Aa (An Aa) (Cy F Aa Aa).q fun a w F W => ?_
   refine ls F W Aa (Au F Aa Aa Aa).q fun a w F W => ?_
   refine Ag (Ad ?_)
   exact ⟨F.re ⟨rfl, Aa, Aa, Aa, Aa, (by show some (Value.bool (decide (p0 < 4))) = some (Value.bool (decide (0 ≤ p0) && decide (p0 < 4))); try rw [hb0]; all_goals simp only [Bool.not_true, Bool.not_false, Bool.true_and, Bool.false_and, Bool.true_or, Bool.false_or, Bool.and_true, Bool.or_false, cond_true, cond_false]), trivial⟩, W⟩
  rw [hb0] at F
  iterate 2 refine CD F Aa Aa Aa Aa Aa Aa Aa fun a F => ?_
  refine ls F W Aa (As F Aa Aa Aa).q fun a w F W => ?_
  refine Ag (Ad ?_)
  exact ⟨F.re ⟨rfl, Aa, Aa, Aa, Aa, (by show some (Value.bool false) = some (Value.bool (decide (0 ≤ p0) && decide (p0 < 4))); try rw [hb0]; all_goals simp only [Bool.not_true, Bool.not_false, Bool.true_and, Bool.false_and, Bool.true_or, Bool.false_or, Bool.and_true, Bool.or_false, cond_true, cond_false]), trivial⟩, W⟩
 rintro a w ⟨F, W⟩
 refine Ay F Aa (fun hb => ?_) fun hb => ?_
 ·
  have H := AW hb H
  rw [hb] at F
  clear hb
  refine Aj (Ae ?_)
  refine ls F W Aa (Ai F Aa).q fun a w F W => ?_
  obtain ⟨x1, h1, H⟩ := Am H
  refine ls F W Aa (Ng (0 + (p0).toNat * 1) QM F Aa Aa Aa h1 Aa).q fun a w F W => ?_
  refine ls F W Aa (Aq (v := Value.int .i64 x1) 0 F Aa Aa T3 (OB (base := 0) (m := 4) (l := [p3.1, p3.2.1, p3.2.2.1, p3.2.2.2]) (enc := Value.int .i64) Aa h1)).q fun a w F W => ?_
  refine ls F W Aa (Ah F Aa).q fun a w F W => ?_
  refine Ag (Ad (Az (AR ?_)))
  have H := AM H
  subst H
  refine AQ (.inl Aa) F W Aa (AD F Aa) ?_
  exact ⟨rfl, W.done⟩
 have H := AX (by rw [hb]; decide) H
 rw [hb] at F
 clear hb
 refine Aw (Ad (Aj (Aj (Ae ?_))))
 refine ls F W Aa (Ai F Aa).q fun a w F W => ?_
 refine ls F W Aa (Bq F Aa Aa).q fun a w F W => ?_
 refine Ag (Ad ?_)
 refine Ay F Aa (fun hb => ?_) fun hb => ?_
 ·
  have H := AW (Bm hb) H
  rw [hb] at F
  clear hb
  refine Aj (Ae ?_)
  refine ls F W Aa (Ai F Aa).q fun a w F W => ?_
  refine ls F W Aa (Ah F Aa).q fun a w F W => ?_
  refine Ag (Ad (Az (AR ?_)))
  have H := AM H
  subst H
  refine AQ (.inl Aa) F W Aa (AD F Aa) ?_
  exact ⟨rfl, W.done⟩
 have H := AX (Bl hb) H
 rw [hb] at F
 clear hb
 refine Aw (Ad (Aj (Aj (Ae ?_))))
 refine ls F W Aa (Ai F Aa).q fun a w F W => ?_
 refine ls F W Aa (Bq F Aa Aa).q fun a w F W => ?_
 refine Ag (Ad ?_)
 refine Ay F Aa (fun hb => ?_) fun hb => ?_
 ·
  have H := AW (Bm hb) H
  rw [hb] at F
  clear hb
  refine Aj (Ae ?_)
  refine ls F W Aa (Ai F Aa).q fun a w F W => ?_
  refine ls F W Aa (Ah F Aa).q fun a w F W => ?_
  refine Ag (Ad (Az (AR ?_)))
  have H := AM H
  subst H
  refine AQ (.inl Aa) F W Aa (AD F Aa) ?_
  exact ⟨rfl, W.done⟩
 have H := AX (Bl hb) H
 rw [hb] at F
 clear hb
 refine Aw (Ad (Aj (Ae ?_)))
 refine ls F W Aa (Ah F Aa).q fun a w F W => ?_
 refine Ag (Ad (Az ?_))
 have H := AM H
 subst H
 refine AQ (.inl Aa) F W Aa (AD F Aa) ?_
 exact ⟨rfl, W.done⟩
theorem SL : Has Tryd.prog 21 := ⟨fun args w => Ao Tryd.func21 rfl (by decide) args w⟩
theorem RP : Has Tryd.prog 23 := ⟨fun args w => Ao Tryd.func23 rfl (by decide) args w⟩
theorem Sw : Has Tryd.prog 39 := ⟨fun args w => Ao Tryd.func39 rfl (by decide) args w⟩
noncomputable def CS (fRec_pred_negated : Tr31 → Option Tr31) (p0 : List Tr31) : (List Tr31 × Int) → Option ((List Tr31 × Int) ⊕ (List Tr31))
  | (x2, x3) => (if x3 < (p0.length : Int) then (ix p0 x3).bind fun x4 => (fRec_pred_negated x4).bind fun x5 => (F7 x2 ([x5] : List Tr31)).bind fun x6 => some (.inl (x6, A1 (x3 + 1))) else some (.inr x2))
noncomputable def Ed (fRec_pred_negated : Tr31 → Option Tr31) (p0 : List Tr31) : Option (List Tr31) := (A3 (CS fRec_pred_negated p0) ([], 0)).bind fun x1 => some x1
theorem JM (fRec_pred_negated : Tr31 → Option Tr31) (ih_pred_negated : ∀ (Y : Nat → Prop) (w0 : World) (v1 : Value) (p0 : Tr31) (r : Tr31) (H : fRec_pred_negated p0 = some r) (h_v1 : Sl w0 (NX []) BJ v1 p0.un.2.2.2), Calls Tryd.prog 39 #[.agg #[.int .i64 p0.un.1, .int .i64 p0.un.2.1, .int .i64 p0.un.2.2.1, v1]] w0 fun e w' => ∃ x : Value, e = .returned (.agg #[.int .i64 r.un.1, .int .i64 r.un.2.1, .int .i64 r.un.2.2.1, x]) ∧ Stw ⟨Y, [], w0⟩ [] [row (x) 31 BJ r.un.2.2.2] w') (Y : Nat → Prop) (w0 : World) (v1 : Value) (p0 : List Tr31) (r : List Tr31) (H : Ed fRec_pred_negated p0 = some r) (h_v1 : Sl w0 (NX []) BJ v1 p0) :
    Calls Tryd.prog 40 #[v1, .func (.func 39) #[] #[]] w0 fun e w' => ∃ x : Value, e = .returned (x) ∧ Stw ⟨Y, [], w0⟩ [] [row (x) 31 BJ r] w' := by
 refine enter Tryd.func40 Aa Tryd.ntmps40 Aa fun a F => ?_
 have W := Stw.start Y w0
 obtain ⟨v2, h1, h_v1⟩ := h_v1.ex CB
 unfold Ed at H
 refine Aj (Ae ?_)
 refine ls F W Aa (Ah F Aa).q fun a w F W => ?_
 refine Ag (Ad (Aj (Ae ?_)))
 refine ls F W Aa (Ah F Aa).q fun a w F W => ?_
 refine Ag (Ad ?_)
 obtain ⟨o1, G1, K1⟩ := Am H
 refine AO (fun a w => ∃ x1 : List Tr31, ∃ v3 : Value, some (x1) = some o1 ∧ Fr 22 [] [(4, .slice none 0 0), (5, v3)] a ∧ Stw ⟨Y, [], w0⟩ [] [row v3 31 BJ x1] w) ?_ ?_
 ·
  have H := G1
  clear G1 K1
  refine Aj (Ae ?_)
  refine ls F W Aa (Ai F Aa).q fun a w F W => ?_
  refine ls F W Aa (CT (r := BJ) (l := p0) GA Aa F Aa (AP CB h1 (Av h_v1))).q fun a w F W => ?_
  refine ls F W Aa (Ai F Aa).q fun a w F W => ?_
  refine Ag (Ad (AA ?_))
  have W := W.nilRow 31 BJ
  refine BI H (fun s a w => ∃ v4 : Value, Fr 22 [] [(1, .func (.func 39) #[] #[]), (4, .slice none 0 0), (5, v4), (8, v1), (9, .int .i64 (p0.length : Int)), (10, .int .i64 s.2)] a ∧ Stw ⟨Y, [], w0⟩ [] [row v4 31 BJ s.1] w) ⟨(Value.slice none 0 0), F.re ⟨rfl, Aa, Aa, Aa, Aa, Aa, trivial⟩, W⟩ fun s o a w H L2 hR => ?_
  obtain ⟨x2, x3⟩ := s
  obtain ⟨v4, F, W⟩ := hR
  have F : Fr 22 [] [(1, .func (.func 39) #[] #[]), (4, .slice none 0 0), (5, v4), (8, v1), (9, .int .i64 (p0.length : Int)), (10, .int .i64 x3)] a := F
  have W : Stw ⟨Y, [], w0⟩ [] [row v4 31 BJ x2] w := W
  rw [CS] at H
  refine Aj (Ae ?_)
  refine ls F W Aa (Cy F Aa Aa).q fun a w F W => ?_
  refine Ag (Ad (Aj ?_))
  refine Ay F Aa (fun hb => ?_) fun hb => ?_
  ·
   have H := AW (Bm hb) H
   rw [hb] at F
   clear hb
   refine Aw (Ad (Aj (AA (Aj ?_))))
   obtain ⟨v5, h2, W⟩ := W.exR CB
   refine Ae ?_
   obtain ⟨x4, h3, H⟩ := Am H
   obtain ⟨v6, h4, h5⟩ := DL h1 h3
   have h6 : Fd v6 = [.int .i64 x4.un.1, .int .i64 x4.un.2.1, .int .i64 x4.un.2.2.1, (v6.2.2.2.1)] := congrArg (fun q : Tr31 => ([.int .i64 q.un.1, .int .i64 q.un.2.1, .int .i64 q.un.2.2.1, (v6.2.2.2.1)] : List Value)) h5
   refine ls F W Aa (AG (r := Gm) Ke F Aa Aa (Av h_v1) h4).q fun a w F W => ?_
   refine ls F W Aa (Ax (y := Value.agg #[.int .i64 x4.un.1, .int .i64 x4.un.2.1, .int .i64 x4.un.2.2.1, (v6.2.2.2.1)]) (j := 0) (i := x3) (enc := Fd) F Aa Aa (Av h_v1) h4 IH EA (by rw [h6]; rfl)).q fun a w F W => ?_
   refine CK (cs := [.int .i64 0, .int .i64 0, .int .i64 0, .slice none 0 0]) F W Aa KD Aa fun b1 a w F W => ?_
   refine BN (vs := [.int .i64 x4.un.1, .int .i64 x4.un.2.1, .int .i64 x4.un.2.2.1, (v6.2.2.2.1)]) (M' := [(b1, [.int .i64 x4.un.1, .int .i64 x4.un.2.1, .int .i64 x4.un.2.2.1, (v6.2.2.2.1)])]) 0 F W Aa Aa Aa EA Aa Aa Aa (AB Aa (AB Aa (AB Aa (AB ((CG (Av h_v1) h4 (A5.snd (A5.snd (A5.snd A5.here))) (congrArg (fun q : Tr31 => q.un.2.2.2) h5)) _ W).one CZ)))) Aa fun w W => ?_
   refine Ag (Ad (Ae ?_))
   iterate 2 refine ls F W Aa (Ai F Aa).q fun a w F W => ?_
   refine ls F W Aa (Aq (v := Value.agg #[.int .i64 x4.un.1, .int .i64 x4.un.2.1, .int .i64 x4.un.2.2.1, (v6.2.2.2.1)]) 0 F Aa Aa EA Aa).q fun a w F W => ?_
   obtain ⟨x5, h7, H⟩ := Am H
   refine Nw (ws := [.agg #[.int .i64 x4.un.1, .int .i64 x4.un.2.1, .int .i64 x4.un.2.2.1, (v6.2.2.2.1)]]) (Ml := []) (Zl := []) (M := [(b1, [.int .i64 x4.un.1, .int .i64 x4.un.2.1, .int .i64 x4.un.2.2.1, (v6.2.2.2.1)])]) (Z := [row v4 31 Gm v5]) (β := Value) (rv := fun x => .agg #[.int .i64 x5.un.1, .int .i64 x5.un.2.1, .int .i64 x5.un.2.2.1, x]) (MM := fun x => []) (ZZ := fun x => [row x 31 BJ x5.un.2.2.2]) F W Sw Aa Aa (fun hL => ih_pred_negated _ w ((v6.2.2.2.1)) x4 _ h7 ((CG (Av h_v1) h4 (A5.snd (A5.snd (A5.snd A5.here))) (congrArg (fun q : Tr31 => q.un.2.2.2) h5)) w W).nx) fun x a w F W => ?_
   obtain ⟨v7, rfl⟩ : ∃ y, y = x := ⟨x, rfl⟩
   have W : Stw ⟨Y, [], w0⟩ [(b1, [.int .i64 x4.un.1, .int .i64 x4.un.2.1, .int .i64 x4.un.2.2.1, (v6.2.2.2.1)])] [row v7 31 BJ x5.un.2.2.2, row v4 31 Gm v5] w := W
   have W := W.freeze
   refine GE (z := Value.agg #[.int .i64 0, .int .i64 0, .int .i64 0, .slice none 0 0]) (cs := [.int .i64 x5.un.1, .int .i64 x5.un.2.1, .int .i64 x5.un.2.2.1, v7]) BJ ([x5] : List Tr31) F W Aa Ke KD Aa Aa Aa (Cl Aa Aa Aa Dx) Aa Aa ⟨[Value.int .i64 x5.un.1, Value.int .i64 x5.un.2.1, Value.int .i64 x5.un.2.2.1, v7], _, Aa, (N4.2 ⟨[Value.int .i64 x5.un.1], [Value.int .i64 x5.un.2.1, Value.int .i64 x5.un.2.2.1, v7], Aa, Aa, ⟨[Value.int .i64 x5.un.2.1], [Value.int .i64 x5.un.2.2.1, v7], Aa, Aa, ⟨[Value.int .i64 x5.un.2.2.1], [v7], Aa, Aa, ⟨_, Aa, (W.item (i := 0) Aa)⟩⟩⟩⟩), Aa⟩ fun v8 a w F W => ?_
   have W := W.frontZ (i := 2) Aa Aa
   have W := W.hideR CB h2
   obtain ⟨x6, h8, H⟩ := Am H
   refine E8 (r := BJ) (i := 0) F W Aa Ke Aa Aa Aa Aa (FN W 1 Aa) h8 Aa fun v9 a w F W => ?_
   have W : Stw ⟨Y, [], w0⟩ [(b1, [.int .i64 x4.un.1, .int .i64 x4.un.2.1, .int .i64 x4.un.2.2.1, (v6.2.2.2.1)])] [row v9 31 BJ x6, row v8 31 BJ ([x5] : List Tr31), Hi v7 BJ x5.un.2.2.2] w := W
   refine ls F W Aa (Ah F Aa).q fun a w F W => ?_
   refine Ag (A8 (Ad (Ae ?_)))
   refine ls F W Aa (BC F Aa Aa Aa).q fun a w F W => ?_
   refine ls F W Aa (Ai F Aa).q fun a w F W => ?_
   refine Ag (Ad ?_)
   have W := W.sub (M' := []) (Z' := [row v9 31 BJ x6]) (List.nil_sublist _) (List.Sublist.cons_cons _ (List.nil_sublist _))
   exact ⟨_, H, (v9), F.re ⟨rfl, Aa, Aa, Aa, Aa, Aa, trivial⟩, W⟩
  have H := AX (Bl hb) H
  rw [hb] at F
  clear hb
  refine Bx ?_
  iterate 2 refine BO ?_
  refine Bz (Ad ?_)
  have H := L2 _ H
  exact ⟨_, (v4), H, F.re ⟨rfl, Aa, trivial⟩, W⟩
 rintro a w ⟨x1, v3, hj, F, W⟩
 have hj := AM hj
 subst hj
 have H := K1
 clear G1 K1
 refine Aj (Ae ?_)
 refine ls F W Aa (Ai F Aa).q fun a w F W => ?_
 refine ls F W Aa (Ah F Aa).q fun a w F W => ?_
 refine Ag (Ad (Az ?_))
 have H := AM H
 subst H
 refine AQ (.inl Aa) F W Aa (AD F Aa) ?_
 exact ⟨(v3), Aa, W⟩
theorem So : Has Tryd.prog 40 := ⟨fun args w => Ao Tryd.func40 rfl (by decide) args w⟩
noncomputable def CI (fRec_pred_Push : Tr31 → Option Tr31) (fRec : Tr31 → Option Tr31) (p0 : Tr31) : Option Tr31 := (if p0.un.1 = 1 then some (Tr31.of (2, 0, 0, ([] : List Tr31))) else (if p0.un.1 = 2 then some (Tr31.of (1, 0, 0, ([] : List Tr31))) else (if (decide (p0.un.1 = 4) && decide (0 < (p0.un.2.2.2.length : Int))) = true then (ix p0.un.2.2.2 0).bind fun x1 => (fRec_pred_Push x1).bind fun x2 => some x2 else (if p0.un.1 = 5 then ((Ed fRec) p0.un.2.2.2).bind fun x3 => some (Tr31.of (6, 0, 0, x3)) else (if p0.un.1 = 6 then ((Ed fRec) p0.un.2.2.2).bind fun x4 => some (Tr31.of (5, 0, 0, x4)) else (fRec_pred_Push p0).bind fun x5 => some (Tr31.of (4, 0, 0, ([x5] : List Tr31))))))))
noncomputable def Cm (fRec_pred_Push : Tr31 → Option Tr31) : Nat → Tr31 → Option Tr31
  | 0 => fun _ => none
  | n + 1 => CI fRec_pred_Push (Cm fRec_pred_Push n)
noncomputable def E1 (fRec_pred_Push : Tr31 → Option Tr31) (p0 : Tr31) : Option Tr31 := Fx fun n => Cm fRec_pred_Push n p0
theorem Jl (fRec_pred_Push : Tr31 → Option Tr31) (ih_pred_Push : ∀ (Y : Nat → Prop) (w0 : World) (v1 : Value) (p0 : Tr31) (r : Tr31) (H : fRec_pred_Push p0 = some r) (h_v1 : Sl w0 (NX []) BJ v1 p0.un.2.2.2), Calls Tryd.prog 23 #[.agg #[.int .i64 p0.un.1, .int .i64 p0.un.2.1, .int .i64 p0.un.2.2.1, v1]] w0 fun e w' => ∃ x : Value, e = .returned (.agg #[.int .i64 r.un.1, .int .i64 r.un.2.1, .int .i64 r.un.2.2.1, x]) ∧ Stw ⟨Y, [], w0⟩ [] [row (x) 31 BJ r.un.2.2.2] w') (fRec : Tr31 → Option Tr31) (ih : ∀ (Y : Nat → Prop) (w0 : World) (v1 : Value) (p0 : Tr31) (r : Tr31) (H : fRec p0 = some r) (h_v1 : Sl w0 (NX []) BJ v1 p0.un.2.2.2), Calls Tryd.prog 39 #[.agg #[.int .i64 p0.un.1, .int .i64 p0.un.2.1, .int .i64 p0.un.2.2.1, v1]] w0 fun e w' => ∃ x : Value, e = .returned (.agg #[.int .i64 r.un.1, .int .i64 r.un.2.1, .int .i64 r.un.2.2.1, x]) ∧ Stw ⟨Y, [], w0⟩ [] [row (x) 31 BJ r.un.2.2.2] w') (Y : Nat → Prop) (w0 : World) (v1 : Value) (p0 : Tr31) (r : Tr31) (H : CI fRec_pred_Push fRec p0 = some r) (h_v1 : Sl w0 (NX []) BJ v1 p0.un.2.2.2) :
    Calls Tryd.prog 39 #[.agg #[.int .i64 p0.un.1, .int .i64 p0.un.2.1, .int .i64 p0.un.2.2.1, v1]] w0 fun e w' => ∃ x : Value, e = .returned (.agg #[.int .i64 r.un.1, .int .i64 r.un.2.1, .int .i64 r.un.2.2.1, x]) ∧ Stw ⟨Y, [], w0⟩ [] [row (x) 31 BJ r.un.2.2.2] w' := by
 refine enter Tryd.func39 Aa Tryd.ntmps39 Aa fun a F => ?_
 have W := Stw.start Y w0
 obtain ⟨v2, h1, h_v1⟩ := h_v1.ex CB
 unfold CI at H
 refine Aj (Ae ?_)
 refine C5 (cs := [.int .i64 p0.un.1, .int .i64 p0.un.2.1, .int .i64 p0.un.2.2.1, v1]) F W Aa Aa Aa fun b1 a w F W => ?_
 refine CK (cs := [.int .i64 0, .int .i64 0, .int .i64 0, .slice none 0 0]) F W Aa KD Aa fun b2 a w F W => ?_
 refine Ag (Ad (Aj (AA (Aj (Ae ?_)))))
 refine ls F W Aa (Ak CM Aa Aa Aa T3 F Aa 0 Aa).q fun a w F W => ?_
 refine ls F W Aa (Aq (v := Value.int .i64 p0.un.1) 1 F Aa Aa T3 Aa).q fun a w F W => ?_
 refine ls F W Aa (Bq F Aa Aa).q fun a w F W => ?_
 refine ls F W Aa (Ah F Aa).q fun a w F W => ?_
 refine Ag (Ad ?_)
 refine Ay F Aa (fun hb => ?_) fun hb => ?_
 ·
  have H := AW (Bm hb) H
  rw [hb] at F
  clear hb
  refine Aj (Ae ?_)
  refine ls F W Aa (DQ (v := Value.agg #[.int .i64 2, .int .i64 0, .int .i64 0, .slice none 0 0]) Qs F Aa Aa Aa).q fun a w F W => ?_
  refine BN (vs := [.int .i64 2, .int .i64 0, .int .i64 0, .slice none 0 0]) (M' := [(b2, [.int .i64 2, .int .i64 0, .int .i64 0, .slice none 0 0]), (b1, [.int .i64 p0.un.1, .int .i64 p0.un.2.1, .int .i64 p0.un.2.2.1, v1])]) 0 F W Aa Aa Aa EA Aa Aa Aa Aa Aa fun w W => ?_
  refine Ag (Ad (Az (Bk (AR ?_))))
  have H := AM H
  subst H
  refine AQ (.inl Aa) F W Aa (D3 0 F Aa Aa EA Aa) ?_
  have W := W.nilRow 31 BJ
  have W := W.sub (M' := []) (Z' := [row (Value.slice none 0 0) 31 BJ ([])]) (List.nil_sublist _) (List.Sublist.refl _)
  exact ⟨(Value.slice none 0 0), Aa, W⟩
 have H := AX (Bl hb) H
 rw [hb] at F
 clear hb
 refine Aj (Ae ?_)
 refine ls F W Aa (Ak CM Aa Aa Aa T3 F Aa 0 Aa).q fun a w F W => ?_
 refine ls F W Aa (Aq (v := Value.int .i64 p0.un.1) 1 F Aa Aa T3 Aa).q fun a w F W => ?_
 refine ls F W Aa (Bq F Aa Aa).q fun a w F W => ?_
 refine ls F W Aa (Ah F Aa).q fun a w F W => ?_
 refine Ag (Ad ?_)
 refine Ay F Aa (fun hb => ?_) fun hb => ?_
 ·
  have H := AW (Bm hb) H
  rw [hb] at F
  clear hb
  refine Aj (Ae ?_)
  refine ls F W Aa (DQ (v := Value.agg #[.int .i64 1, .int .i64 0, .int .i64 0, .slice none 0 0]) Qs F Aa Aa Aa).q fun a w F W => ?_
  refine BN (vs := [.int .i64 1, .int .i64 0, .int .i64 0, .slice none 0 0]) (M' := [(b2, [.int .i64 1, .int .i64 0, .int .i64 0, .slice none 0 0]), (b1, [.int .i64 p0.un.1, .int .i64 p0.un.2.1, .int .i64 p0.un.2.2.1, v1])]) 0 F W Aa Aa Aa EA Aa Aa Aa Aa Aa fun w W => ?_
  refine Ag (Ad (Az (Bk (AR ?_))))
  have H := AM H
  subst H
  refine AQ (.inl Aa) F W Aa (D3 0 F Aa Aa EA Aa) ?_
  have W := W.nilRow 31 BJ
  have W := W.sub (M' := []) (Z' := [row (Value.slice none 0 0) 31 BJ ([])]) (List.nil_sublist _) (List.Sublist.refl _)
  exact ⟨(Value.slice none 0 0), Aa, W⟩
 have H := AX (Bl hb) H
 rw [hb] at F
 clear hb
 refine AO (fun a w => Fr 48 [] [(1, .pointer (some ⟨b1, 0, none⟩)), (2, .pointer (some ⟨b2, 0, none⟩)), (13, .bool (decide (p0.un.1 = 4) && decide (0 < (p0.un.2.2.2.length : Int))))] a ∧ Stw ⟨Y, [], w0⟩ [(b2, [.int .i64 0, .int .i64 0, .int .i64 0, .slice none 0 0]), (b1, [.int .i64 p0.un.1, .int .i64 p0.un.2.1, .int .i64 p0.un.2.2.1, v1])] [] w) ?_ ?_
 ·
  refine Ae ?_
  refine ls F W Aa (Ak CM Aa Aa Aa T3 F Aa 0 Aa).q fun a w F W => ?_
  refine ls F W Aa (Aq (v := Value.int .i64 p0.un.1) 1 F Aa Aa T3 Aa).q fun a w F W => ?_
  refine ls F W Aa (Bq F Aa Aa).q fun a w F W => ?_
  refine ls F W Aa (Ai F Aa).q fun a w F W => ?_
  rcases Bool.eq_false_or_eq_true (decide (p0.un.1 = 4)) with hb0 | hb0
  ·
   rw [hb0] at F
   refine AL F W (Af F Aa Aa Aa Aa) Aa (An Aa) (Ak CM Aa Aa Aa Fp F Aa 3 Aa).q fun a w F W => ?_
   refine AL F W (Af F Aa Aa Aa Aa) Aa (An Aa) (Aq (v := v1) 1 F Aa Aa Fp Aa).q fun a w F W => ?_
   refine AL F W (Af F Aa Aa Aa Aa) Aa (An Aa) (CT (r := BJ) (l := p0.un.2.2.2) GA Aa F Aa (AP CB h1 (Av h_v1))).q fun a w F W => ?_
   refine AL F W (Af F Aa Aa Aa Aa) Aa (An Aa) (EW F Aa Aa).q fun a w F W => ?_
   refine ls F W Aa (Au F Aa Aa Aa).q fun a w F W => ?_
   refine ls F W Aa (Ah F Aa).q fun a w F W => ?_
   refine Ag (Ad ?_)
   exact ⟨F.re ⟨rfl, Aa, (by show some (Value.bool (decide (0 < (p0.un.2.2.2.length : Int)))) = some (Value.bool (decide (p0.un.1 = 4) && decide (0 < (p0.un.2.2.2.length : Int)))); try rw [hb0]; all_goals simp only [Bool.not_true, Bool.not_false, Bool.true_and, Bool.false_and, Bool.true_or, Bool.false_or, Bool.and_true, Bool.or_false, cond_true, cond_false]), trivial⟩, W⟩
  rw [hb0] at F
  iterate 4 refine CD F Aa Aa Aa Aa Aa Aa Aa fun a F => ?_
  refine ls F W Aa (As F Aa Aa Aa).q fun a w F W => ?_
  refine ls F W Aa (Ah F Aa).q fun a w F W => ?_
  refine Ag (Ad ?_)
  exact ⟨F.re ⟨rfl, Aa, (by show some (Value.bool false) = some (Value.bool (decide (p0.un.1 = 4) && decide (0 < (p0.un.2.2.2.length : Int)))); try rw [hb0]; all_goals simp only [Bool.not_true, Bool.not_false, Bool.true_and, Bool.false_and, Bool.true_or, Bool.false_or, Bool.and_true, Bool.or_false, cond_true, cond_false]), trivial⟩, W⟩
 rintro a w ⟨F, W⟩
 refine Ay F Aa (fun hb => ?_) fun hb => ?_
 ·
  have H := AW hb H
  rw [hb] at F
  clear hb
  refine Aj (Ae ?_)
  refine ls F W Aa (Ak CM Aa Aa Aa Fp F Aa 3 Aa).q fun a w F W => ?_
  refine ls F W Aa (Aq (v := v1) 1 F Aa Aa Fp Aa).q fun a w F W => ?_
  obtain ⟨x1, h2, H⟩ := Am H
  obtain ⟨v3, h3, h4⟩ := DL h1 h2
  have h5 : Fd v3 = [.int .i64 x1.un.1, .int .i64 x1.un.2.1, .int .i64 x1.un.2.2.1, (v3.2.2.2.1)] := congrArg (fun q : Tr31 => ([.int .i64 q.un.1, .int .i64 q.un.2.1, .int .i64 q.un.2.2.1, (v3.2.2.2.1)] : List Value)) h4
  refine ls F W Aa (AG (r := Gm) Ke F Aa Aa (Av h_v1) h3).q fun a w F W => ?_
  refine ls F W Aa (Ax (y := Value.agg #[.int .i64 x1.un.1, .int .i64 x1.un.2.1, .int .i64 x1.un.2.2.1, (v3.2.2.2.1)]) (j := 0) (i := 0) (enc := Fd) F Aa Aa (Av h_v1) h3 IH EA (by rw [h5]; rfl)).q fun a w F W => ?_
  obtain ⟨x2, h6, H⟩ := Am H
  refine BD (Ml := []) (Zl := []) (M := [(b2, [.int .i64 0, .int .i64 0, .int .i64 0, .slice none 0 0]), (b1, [.int .i64 p0.un.1, .int .i64 p0.un.2.1, .int .i64 p0.un.2.2.1, v1])]) (Z := []) (β := Value) (rv := fun x => .agg #[.int .i64 x2.un.1, .int .i64 x2.un.2.1, .int .i64 x2.un.2.2.1, x]) (MM := fun x => []) (ZZ := fun x => [row x 31 BJ x2.un.2.2.2]) F W RP Aa Aa (fun hL => ih_pred_Push _ w ((v3.2.2.2.1)) x1 _ h6 ((CG (Av h_v1) h3 (A5.snd (A5.snd (A5.snd A5.here))) (congrArg (fun q : Tr31 => q.un.2.2.2) h4)) w W).nx) fun x a w F W => ?_
  obtain ⟨v4, rfl⟩ : ∃ y, y = x := ⟨x, rfl⟩
  have W : Stw ⟨Y, [], w0⟩ [(b2, [.int .i64 0, .int .i64 0, .int .i64 0, .slice none 0 0]), (b1, [.int .i64 p0.un.1, .int .i64 p0.un.2.1, .int .i64 p0.un.2.2.1, v1])] [row v4 31 BJ x2.un.2.2.2] w := W
  refine BN (vs := [.int .i64 x2.un.1, .int .i64 x2.un.2.1, .int .i64 x2.un.2.2.1, v4]) (M' := [(b2, [.int .i64 x2.un.1, .int .i64 x2.un.2.1, .int .i64 x2.un.2.2.1, v4]), (b1, [.int .i64 p0.un.1, .int .i64 p0.un.2.1, .int .i64 p0.un.2.2.1, v1])]) 0 F W Aa Aa Aa EA Aa Aa Aa (AB Aa (AB Aa (AB Aa (AB (W.one (k := 0) Aa) CZ)))) Aa fun w W => ?_
  refine Ag (Ad (Az (Bk (AR ?_))))
  have H := AM H
  subst H
  refine AQ (.inl Aa) F W Aa (D3 0 F Aa Aa EA Aa) ?_
  have W := W.sub (M' := []) (Z' := [row v4 31 BJ x2.un.2.2.2]) (List.nil_sublist _) (List.Sublist.refl _)
  exact ⟨(v4), Aa, W⟩
 have H := AX (by rw [hb]; decide) H
 rw [hb] at F
 clear hb
 refine Aj (Ae ?_)
 refine ls F W Aa (Ak CM Aa Aa Aa T3 F Aa 0 Aa).q fun a w F W => ?_
 refine ls F W Aa (Aq (v := Value.int .i64 p0.un.1) 1 F Aa Aa T3 Aa).q fun a w F W => ?_
 refine ls F W Aa (Bq F Aa Aa).q fun a w F W => ?_
 refine ls F W Aa (Ah F Aa).q fun a w F W => ?_
 refine Ag (Ad ?_)
 refine Ay F Aa (fun hb => ?_) fun hb => ?_
 ·
  have H := AW (Bm hb) H
  rw [hb] at F
  clear hb
  refine Aj (Ae ?_)
  refine ls F W Aa (Ak CM Aa Aa Aa Fp F Aa 3 Aa).q fun a w F W => ?_
  refine ls F W Aa (Aq (v := v1) 1 F Aa Aa Fp Aa).q fun a w F W => ?_
  obtain ⟨x3, h7, H⟩ := Am H
  refine BD (Ml := []) (Zl := []) (M := [(b2, [.int .i64 0, .int .i64 0, .int .i64 0, .slice none 0 0]), (b1, [.int .i64 p0.un.1, .int .i64 p0.un.2.1, .int .i64 p0.un.2.2.1, v1])]) (Z := []) (β := Value) (rv := fun x => x) (MM := fun x => []) (ZZ := fun x => [row x 31 BJ x3]) F W So Aa Aa (fun hL => (JM fRec ih) _ w (v1) p0.un.2.2.2 _ h7 ((AP CB h1 (Av h_v1)) w W).nx) fun x a w F W => ?_
  obtain ⟨v5, rfl⟩ : ∃ y, y = x := ⟨x, rfl⟩
  have W : Stw ⟨Y, [], w0⟩ [(b2, [.int .i64 0, .int .i64 0, .int .i64 0, .slice none 0 0]), (b1, [.int .i64 p0.un.1, .int .i64 p0.un.2.1, .int .i64 p0.un.2.2.1, v1])] [row v5 31 BJ x3] w := W
  refine ls F W Aa (DQ (v := Value.agg #[.int .i64 6, .int .i64 0, .int .i64 0, v5]) Qs F Aa (Cl Aa Aa Aa (Cl Aa (FG (W.one (k := 0) Aa)) Aa Dx)) Aa).q fun a w F W => ?_
  refine BN (vs := [.int .i64 6, .int .i64 0, .int .i64 0, v5]) (M' := [(b2, [.int .i64 6, .int .i64 0, .int .i64 0, v5]), (b1, [.int .i64 p0.un.1, .int .i64 p0.un.2.1, .int .i64 p0.un.2.2.1, v1])]) 0 F W Aa Aa Aa EA Aa Aa Aa (AB Aa (AB Aa (AB Aa (AB (W.one (k := 0) Aa) CZ)))) Aa fun w W => ?_
  refine Ag (Ad (Az (Bk (AR ?_))))
  have H := AM H
  subst H
  refine AQ (.inl Aa) F W Aa (D3 0 F Aa Aa EA Aa) ?_
  have W := W.sub (M' := []) (Z' := [row v5 31 BJ x3]) (List.nil_sublist _) (List.Sublist.refl _)
  exact ⟨(v5), Aa, W⟩
 have H := AX (Bl hb) H
 rw [hb] at F
 clear hb
 refine Aj (Ae ?_)
 refine ls F W Aa (Ak CM Aa Aa Aa T3 F Aa 0 Aa).q fun a w F W => ?_
 refine ls F W Aa (Aq (v := Value.int .i64 p0.un.1) 1 F Aa Aa T3 Aa).q fun a w F W => ?_
 refine ls F W Aa (Bq F Aa Aa).q fun a w F W => ?_
 refine ls F W Aa (Ah F Aa).q fun a w F W => ?_
 refine Ag (Ad ?_)
 refine Ay F Aa (fun hb => ?_) fun hb => ?_
 ·
  have H := AW (Bm hb) H
  rw [hb] at F
  clear hb
  refine Aj (Ae ?_)
  refine ls F W Aa (Ak CM Aa Aa Aa Fp F Aa 3 Aa).q fun a w F W => ?_
  refine ls F W Aa (Aq (v := v1) 1 F Aa Aa Fp Aa).q fun a w F W => ?_
  obtain ⟨x4, h8, H⟩ := Am H
  refine BD (Ml := []) (Zl := []) (M := [(b2, [.int .i64 0, .int .i64 0, .int .i64 0, .slice none 0 0]), (b1, [.int .i64 p0.un.1, .int .i64 p0.un.2.1, .int .i64 p0.un.2.2.1, v1])]) (Z := []) (β := Value) (rv := fun x => x) (MM := fun x => []) (ZZ := fun x => [row x 31 BJ x4]) F W So Aa Aa (fun hL => (JM fRec ih) _ w (v1) p0.un.2.2.2 _ h8 ((AP CB h1 (Av h_v1)) w W).nx) fun x a w F W => ?_
  obtain ⟨v6, rfl⟩ : ∃ y, y = x := ⟨x, rfl⟩
  have W : Stw ⟨Y, [], w0⟩ [(b2, [.int .i64 0, .int .i64 0, .int .i64 0, .slice none 0 0]), (b1, [.int .i64 p0.un.1, .int .i64 p0.un.2.1, .int .i64 p0.un.2.2.1, v1])] [row v6 31 BJ x4] w := W
  refine ls F W Aa (DQ (v := Value.agg #[.int .i64 5, .int .i64 0, .int .i64 0, v6]) Qs F Aa (Cl Aa Aa Aa (Cl Aa (FG (W.one (k := 0) Aa)) Aa Dx)) Aa).q fun a w F W => ?_
  refine BN (vs := [.int .i64 5, .int .i64 0, .int .i64 0, v6]) (M' := [(b2, [.int .i64 5, .int .i64 0, .int .i64 0, v6]), (b1, [.int .i64 p0.un.1, .int .i64 p0.un.2.1, .int .i64 p0.un.2.2.1, v1])]) 0 F W Aa Aa Aa EA Aa Aa Aa (AB Aa (AB Aa (AB Aa (AB (W.one (k := 0) Aa) CZ)))) Aa fun w W => ?_
  refine Ag (Ad (Az (Bk (AR ?_))))
  have H := AM H
  subst H
  refine AQ (.inl Aa) F W Aa (D3 0 F Aa Aa EA Aa) ?_
  have W := W.sub (M' := []) (Z' := [row v6 31 BJ x4]) (List.nil_sublist _) (List.Sublist.refl _)
  exact ⟨(v6), Aa, W⟩
 have H := AX (Bl hb) H
 rw [hb] at F
 clear hb
 refine Aw (A8 (Ad (Aj (Ae ?_))))
 refine ls F W Aa (Aq (v := Value.agg #[.int .i64 p0.un.1, .int .i64 p0.un.2.1, .int .i64 p0.un.2.2.1, v1]) 1 F Aa Aa EA Aa).q fun a w F W => ?_
 obtain ⟨x5, h9, H⟩ := Am H
 refine BD (Ml := []) (Zl := []) (M := [(b2, [.int .i64 0, .int .i64 0, .int .i64 0, .slice none 0 0]), (b1, [.int .i64 p0.un.1, .int .i64 p0.un.2.1, .int .i64 p0.un.2.2.1, v1])]) (Z := []) (β := Value) (rv := fun x => .agg #[.int .i64 x5.un.1, .int .i64 x5.un.2.1, .int .i64 x5.un.2.2.1, x]) (MM := fun x => []) (ZZ := fun x => [row x 31 BJ x5.un.2.2.2]) F W RP Aa Aa (fun hL => ih_pred_Push _ w (v1) p0 _ h9 ((AP CB h1 (Av h_v1)) w W).nx) fun x a w F W => ?_
 obtain ⟨v7, rfl⟩ : ∃ y, y = x := ⟨x, rfl⟩
 have W : Stw ⟨Y, [], w0⟩ [(b2, [.int .i64 0, .int .i64 0, .int .i64 0, .slice none 0 0]), (b1, [.int .i64 p0.un.1, .int .i64 p0.un.2.1, .int .i64 p0.un.2.2.1, v1])] [row v7 31 BJ x5.un.2.2.2] w := W
 have W := W.freeze
 refine GE (z := Value.agg #[.int .i64 0, .int .i64 0, .int .i64 0, .slice none 0 0]) (cs := [.int .i64 x5.un.1, .int .i64 x5.un.2.1, .int .i64 x5.un.2.2.1, v7]) BJ ([x5] : List Tr31) F W Aa Ke KD Aa Aa Aa (Cl Aa Aa Aa Dx) Aa Aa ⟨[Value.int .i64 x5.un.1, Value.int .i64 x5.un.2.1, Value.int .i64 x5.un.2.2.1, v7], _, Aa, (N4.2 ⟨[Value.int .i64 x5.un.1], [Value.int .i64 x5.un.2.1, Value.int .i64 x5.un.2.2.1, v7], Aa, Aa, ⟨[Value.int .i64 x5.un.2.1], [Value.int .i64 x5.un.2.2.1, v7], Aa, Aa, ⟨[Value.int .i64 x5.un.2.2.1], [v7], Aa, Aa, ⟨_, Aa, (W.item (i := 0) Aa)⟩⟩⟩⟩), Aa⟩ fun v8 a w F W => ?_
 refine ls F W Aa (DQ (v := Value.agg #[.int .i64 4, .int .i64 0, .int .i64 0, v8]) Qs F Aa (Cl Aa Aa Aa (Cl Aa (FG (W.one (k := 0) Aa)) Aa Dx)) Aa).q fun a w F W => ?_
 refine BN (vs := [.int .i64 4, .int .i64 0, .int .i64 0, v8]) (M' := [(b2, [.int .i64 4, .int .i64 0, .int .i64 0, v8]), (b1, [.int .i64 p0.un.1, .int .i64 p0.un.2.1, .int .i64 p0.un.2.2.1, v1])]) 0 F W Aa Aa Aa EA Aa Aa Aa (AB Aa (AB Aa (AB Aa (AB (W.one (k := 0) Aa) CZ)))) Aa fun w W => ?_
 refine Ag (Ad (Az ?_))
 have H := AM H
 subst H
 refine AQ (.inl Aa) F W Aa (D3 0 F Aa Aa EA Aa) ?_
 have W := W.sub (M' := []) (Z' := [row v8 31 BJ ([x5] : List Tr31)]) (List.nil_sublist _) (List.Sublist.cons_cons _ (List.nil_sublist _))
 exact ⟨(v8), Aa, W⟩
theorem JP (fRec_pred_Push : Tr31 → Option Tr31) (ih_pred_Push : ∀ (Y : Nat → Prop) (w0 : World) (v1 : Value) (p0 : Tr31) (r : Tr31) (H : fRec_pred_Push p0 = some r) (h_v1 : Sl w0 (NX []) BJ v1 p0.un.2.2.2), Calls Tryd.prog 23 #[.agg #[.int .i64 p0.un.1, .int .i64 p0.un.2.1, .int .i64 p0.un.2.2.1, v1]] w0 fun e w' => ∃ x : Value, e = .returned (.agg #[.int .i64 r.un.1, .int .i64 r.un.2.1, .int .i64 r.un.2.2.1, x]) ∧ Stw ⟨Y, [], w0⟩ [] [row (x) 31 BJ r.un.2.2.2] w') : ∀ (n : Nat) (Y : Nat → Prop) (w0 : World) (v1 : Value) (p0 : Tr31) (r : Tr31) (H : Cm fRec_pred_Push n p0 = some r) (h_v1 : Sl w0 (NX []) BJ v1 p0.un.2.2.2), Calls Tryd.prog 39 #[.agg #[.int .i64 p0.un.1, .int .i64 p0.un.2.1, .int .i64 p0.un.2.2.1, v1]] w0 fun e w' => ∃ x : Value, e = .returned (.agg #[.int .i64 r.un.1, .int .i64 r.un.2.1, .int .i64 r.un.2.2.1, x]) ∧ Stw ⟨Y, [], w0⟩ [] [row (x) 31 BJ r.un.2.2.2] w' := by
  intro n
  induction n with
  | zero => intro Y w0 v1 p0 r H; exact nomatch H
  | succ n ih => intro Y w0 v1 p0 r H h_v1; exact Jl fRec_pred_Push ih_pred_Push (Cm fRec_pred_Push n) ih Y w0 v1 p0 r H h_v1
theorem KL (fRec_pred_Push : Tr31 → Option Tr31) (ih_pred_Push : ∀ (Y : Nat → Prop) (w0 : World) (v1 : Value) (p0 : Tr31) (r : Tr31) (H : fRec_pred_Push p0 = some r) (h_v1 : Sl w0 (NX []) BJ v1 p0.un.2.2.2), Calls Tryd.prog 23 #[.agg #[.int .i64 p0.un.1, .int .i64 p0.un.2.1, .int .i64 p0.un.2.2.1, v1]] w0 fun e w' => ∃ x : Value, e = .returned (.agg #[.int .i64 r.un.1, .int .i64 r.un.2.1, .int .i64 r.un.2.2.1, x]) ∧ Stw ⟨Y, [], w0⟩ [] [row (x) 31 BJ r.un.2.2.2] w') (Y : Nat → Prop) (w0 : World) (v1 : Value) (p0 : Tr31) (r : Tr31) (H : E1 fRec_pred_Push p0 = some r) (h_v1 : Sl w0 (NX []) BJ v1 p0.un.2.2.2) :
    Calls Tryd.prog 39 #[.agg #[.int .i64 p0.un.1, .int .i64 p0.un.2.1, .int .i64 p0.un.2.2.1, v1]] w0 fun e w' => ∃ x : Value, e = .returned (.agg #[.int .i64 r.un.1, .int .i64 r.un.2.1, .int .i64 r.un.2.2.1, x]) ∧ Stw ⟨Y, [], w0⟩ [] [row (x) 31 BJ r.un.2.2.2] w' := by
  obtain ⟨n, H⟩ := Cs H
  exact JP fRec_pred_Push ih_pred_Push n Y w0 v1 p0 r H h_v1
noncomputable def Ct (fRec_pred_Push : Tr31 → Option Tr31) (p0 : List Tr31) : (List Tr31 × Int) → Option ((List Tr31 × Int) ⊕ (List Tr31))
  | (x2, x3) => (if x3 < (p0.length : Int) then (ix p0 x3).bind fun x4 => (fRec_pred_Push x4).bind fun x5 => (F7 x2 ([x5] : List Tr31)).bind fun x6 => some (.inl (x6, A1 (x3 + 1))) else some (.inr x2))
noncomputable def DC (fRec_pred_Push : Tr31 → Option Tr31) (p0 : List Tr31) : Option (List Tr31) := (A3 (Ct fRec_pred_Push p0) ([], 0)).bind fun x1 => some x1
theorem LH (fRec_pred_Push : Tr31 → Option Tr31) (ih_pred_Push : ∀ (Y : Nat → Prop) (w0 : World) (v1 : Value) (p0 : Tr31) (r : Tr31) (H : fRec_pred_Push p0 = some r) (h_v1 : Sl w0 (NX []) BJ v1 p0.un.2.2.2), Calls Tryd.prog 23 #[.agg #[.int .i64 p0.un.1, .int .i64 p0.un.2.1, .int .i64 p0.un.2.2.1, v1]] w0 fun e w' => ∃ x : Value, e = .returned (.agg #[.int .i64 r.un.1, .int .i64 r.un.2.1, .int .i64 r.un.2.2.1, x]) ∧ Stw ⟨Y, [], w0⟩ [] [row (x) 31 BJ r.un.2.2.2] w') (Y : Nat → Prop) (w0 : World) (v1 : Value) (p0 : List Tr31) (r : List Tr31) (H : DC fRec_pred_Push p0 = some r) (h_v1 : Sl w0 (NX []) BJ v1 p0) :
    Calls Tryd.prog 40 #[v1, .func (.func 23) #[] #[]] w0 fun e w' => ∃ x : Value, e = .returned (x) ∧ Stw ⟨Y, [], w0⟩ [] [row (x) 31 BJ r] w' := by
 refine enter Tryd.func40 Aa Tryd.ntmps40 Aa fun a F => ?_
 have W := Stw.start Y w0
 obtain ⟨v2, h1, h_v1⟩ := h_v1.ex CB
 unfold DC at H
 refine Aj (Ae ?_)
 refine ls F W Aa (Ah F Aa).q fun a w F W => ?_
 refine Ag (Ad (Aj (Ae ?_)))
 refine ls F W Aa (Ah F Aa).q fun a w F W => ?_
 refine Ag (Ad ?_)
 obtain ⟨o1, G1, K1⟩ := Am H
 refine AO (fun a w => ∃ x1 : List Tr31, ∃ v3 : Value, some (x1) = some o1 ∧ Fr 22 [] [(4, .slice none 0 0), (5, v3)] a ∧ Stw ⟨Y, [], w0⟩ [] [row v3 31 BJ x1] w) ?_ ?_
 ·
  have H := G1
  clear G1 K1
  refine Aj (Ae ?_)
  refine ls F W Aa (Ai F Aa).q fun a w F W => ?_
  refine ls F W Aa (CT (r := BJ) (l := p0) GA Aa F Aa (AP CB h1 (Av h_v1))).q fun a w F W => ?_
  refine ls F W Aa (Ai F Aa).q fun a w F W => ?_
  refine Ag (Ad (AA ?_))
  have W := W.nilRow 31 BJ
  refine BI H (fun s a w => ∃ v4 : Value, Fr 22 [] [(1, .func (.func 23) #[] #[]), (4, .slice none 0 0), (5, v4), (8, v1), (9, .int .i64 (p0.length : Int)), (10, .int .i64 s.2)] a ∧ Stw ⟨Y, [], w0⟩ [] [row v4 31 BJ s.1] w) ⟨(Value.slice none 0 0), F.re ⟨rfl, Aa, Aa, Aa, Aa, Aa, trivial⟩, W⟩ fun s o a w H L2 hR => ?_
  obtain ⟨x2, x3⟩ := s
  obtain ⟨v4, F, W⟩ := hR
  have F : Fr 22 [] [(1, .func (.func 23) #[] #[]), (4, .slice none 0 0), (5, v4), (8, v1), (9, .int .i64 (p0.length : Int)), (10, .int .i64 x3)] a := F
  have W : Stw ⟨Y, [], w0⟩ [] [row v4 31 BJ x2] w := W
  rw [Ct] at H
  refine Aj (Ae ?_)
  refine ls F W Aa (Cy F Aa Aa).q fun a w F W => ?_
  refine Ag (Ad (Aj ?_))
  refine Ay F Aa (fun hb => ?_) fun hb => ?_
  ·
   have H := AW (Bm hb) H
   rw [hb] at F
   clear hb
   refine Aw (Ad (Aj (AA (Aj ?_))))
   obtain ⟨v5, h2, W⟩ := W.exR CB
   refine Ae ?_
   obtain ⟨x4, h3, H⟩ := Am H
   obtain ⟨v6, h4, h5⟩ := DL h1 h3
   have h6 : Fd v6 = [.int .i64 x4.un.1, .int .i64 x4.un.2.1, .int .i64 x4.un.2.2.1, (v6.2.2.2.1)] := congrArg (fun q : Tr31 => ([.int .i64 q.un.1, .int .i64 q.un.2.1, .int .i64 q.un.2.2.1, (v6.2.2.2.1)] : List Value)) h5
   refine ls F W Aa (AG (r := Gm) Ke F Aa Aa (Av h_v1) h4).q fun a w F W => ?_
   refine ls F W Aa (Ax (y := Value.agg #[.int .i64 x4.un.1, .int .i64 x4.un.2.1, .int .i64 x4.un.2.2.1, (v6.2.2.2.1)]) (j := 0) (i := x3) (enc := Fd) F Aa Aa (Av h_v1) h4 IH EA (by rw [h6]; rfl)).q fun a w F W => ?_
   refine CK (cs := [.int .i64 0, .int .i64 0, .int .i64 0, .slice none 0 0]) F W Aa KD Aa fun b1 a w F W => ?_
   refine BN (vs := [.int .i64 x4.un.1, .int .i64 x4.un.2.1, .int .i64 x4.un.2.2.1, (v6.2.2.2.1)]) (M' := [(b1, [.int .i64 x4.un.1, .int .i64 x4.un.2.1, .int .i64 x4.un.2.2.1, (v6.2.2.2.1)])]) 0 F W Aa Aa Aa EA Aa Aa Aa (AB Aa (AB Aa (AB Aa (AB ((CG (Av h_v1) h4 (A5.snd (A5.snd (A5.snd A5.here))) (congrArg (fun q : Tr31 => q.un.2.2.2) h5)) _ W).one CZ)))) Aa fun w W => ?_
   refine Ag (Ad (Ae ?_))
   iterate 2 refine ls F W Aa (Ai F Aa).q fun a w F W => ?_
   refine ls F W Aa (Aq (v := Value.agg #[.int .i64 x4.un.1, .int .i64 x4.un.2.1, .int .i64 x4.un.2.2.1, (v6.2.2.2.1)]) 0 F Aa Aa EA Aa).q fun a w F W => ?_
   obtain ⟨x5, h7, H⟩ := Am H
   refine Nw (ws := [.agg #[.int .i64 x4.un.1, .int .i64 x4.un.2.1, .int .i64 x4.un.2.2.1, (v6.2.2.2.1)]]) (Ml := []) (Zl := []) (M := [(b1, [.int .i64 x4.un.1, .int .i64 x4.un.2.1, .int .i64 x4.un.2.2.1, (v6.2.2.2.1)])]) (Z := [row v4 31 Gm v5]) (β := Value) (rv := fun x => .agg #[.int .i64 x5.un.1, .int .i64 x5.un.2.1, .int .i64 x5.un.2.2.1, x]) (MM := fun x => []) (ZZ := fun x => [row x 31 BJ x5.un.2.2.2]) F W RP Aa Aa (fun hL => ih_pred_Push _ w ((v6.2.2.2.1)) x4 _ h7 ((CG (Av h_v1) h4 (A5.snd (A5.snd (A5.snd A5.here))) (congrArg (fun q : Tr31 => q.un.2.2.2) h5)) w W).nx) fun x a w F W => ?_
   obtain ⟨v7, rfl⟩ : ∃ y, y = x := ⟨x, rfl⟩
   have W : Stw ⟨Y, [], w0⟩ [(b1, [.int .i64 x4.un.1, .int .i64 x4.un.2.1, .int .i64 x4.un.2.2.1, (v6.2.2.2.1)])] [row v7 31 BJ x5.un.2.2.2, row v4 31 Gm v5] w := W
   have W := W.freeze
   refine GE (z := Value.agg #[.int .i64 0, .int .i64 0, .int .i64 0, .slice none 0 0]) (cs := [.int .i64 x5.un.1, .int .i64 x5.un.2.1, .int .i64 x5.un.2.2.1, v7]) BJ ([x5] : List Tr31) F W Aa Ke KD Aa Aa Aa (Cl Aa Aa Aa Dx) Aa Aa ⟨[Value.int .i64 x5.un.1, Value.int .i64 x5.un.2.1, Value.int .i64 x5.un.2.2.1, v7], _, Aa, (N4.2 ⟨[Value.int .i64 x5.un.1], [Value.int .i64 x5.un.2.1, Value.int .i64 x5.un.2.2.1, v7], Aa, Aa, ⟨[Value.int .i64 x5.un.2.1], [Value.int .i64 x5.un.2.2.1, v7], Aa, Aa, ⟨[Value.int .i64 x5.un.2.2.1], [v7], Aa, Aa, ⟨_, Aa, (W.item (i := 0) Aa)⟩⟩⟩⟩), Aa⟩ fun v8 a w F W => ?_
   have W := W.frontZ (i := 2) Aa Aa
   have W := W.hideR CB h2
   obtain ⟨x6, h8, H⟩ := Am H
   refine E8 (r := BJ) (i := 0) F W Aa Ke Aa Aa Aa Aa (FN W 1 Aa) h8 Aa fun v9 a w F W => ?_
   have W : Stw ⟨Y, [], w0⟩ [(b1, [.int .i64 x4.un.1, .int .i64 x4.un.2.1, .int .i64 x4.un.2.2.1, (v6.2.2.2.1)])] [row v9 31 BJ x6, row v8 31 BJ ([x5] : List Tr31), Hi v7 BJ x5.un.2.2.2] w := W
   refine ls F W Aa (Ah F Aa).q fun a w F W => ?_
   refine Ag (A8 (Ad (Ae ?_)))
   refine ls F W Aa (BC F Aa Aa Aa).q fun a w F W => ?_
   refine ls F W Aa (Ai F Aa).q fun a w F W => ?_
   refine Ag (Ad ?_)
   have W := W.sub (M' := []) (Z' := [row v9 31 BJ x6]) (List.nil_sublist _) (List.Sublist.cons_cons _ (List.nil_sublist _))
   exact ⟨_, H, (v9), F.re ⟨rfl, Aa, Aa, Aa, Aa, Aa, trivial⟩, W⟩
  have H := AX (Bl hb) H
  rw [hb] at F
  clear hb
  refine Bx ?_
  iterate 2 refine BO ?_
  refine Bz (Ad ?_)
  have H := L2 _ H
  exact ⟨_, (v4), H, F.re ⟨rfl, Aa, trivial⟩, W⟩
 rintro a w ⟨x1, v3, hj, F, W⟩
 have hj := AM hj
 subst hj
 have H := K1
 clear G1 K1
 refine Aj (Ae ?_)
 refine ls F W Aa (Ai F Aa).q fun a w F W => ?_
 refine ls F W Aa (Ah F Aa).q fun a w F W => ?_
 refine Ag (Ad (Az ?_))
 have H := AM H
 subst H
 refine AQ (.inl Aa) F W Aa (AD F Aa) ?_
 exact ⟨(v3), Aa, W⟩
end Go.Proofs.YtepfcpffbabgmaaDoor
