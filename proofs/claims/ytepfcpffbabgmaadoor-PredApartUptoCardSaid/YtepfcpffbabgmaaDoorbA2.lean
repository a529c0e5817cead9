/- The functions of layer 26, EY. Conditions: none. -/
import Derived.Test.YtepfcpffbabgmaaDoorbA1
namespace Go.Proofs.YtepfcpffbabgmaaDoor
open Go Go.RowKit
set_option linter.unusedVariables false
set_option linter.unusedSimpArgs false
set_option maxRecDepth 20000
theorem OW : Has Tryd.prog 62 := ⟨fun args w => Ak Tryd.func62 rfl (by decide) args w⟩
noncomputable def Aq (fRec : (List Int) → Int → Int → Int → Option (List Int)) : (List Int × Int × Int × Int × Bool × Bool) → Option ((List Int × Int × Int × Int × Bool × Bool) ⊕ (List Int))
  | (x1, x2, x3, x4, x5, x6) => (if (AJ (x3 - x2)) ≤ 12 then (BS x1 x2 x3).bind fun x7 => some (.inr x7) else (if x4 = 0 then (Ck x1 x2 x3).bind fun x8 => some (.inr x8) else (if (!x5) = true then (Bp x1 x2 x3).bind fun x11 => some (x11, AJ (x4 - 1)) else some (x1, x4)).bind fun (x9, x10) => (B8 x9 x2 x3).bind fun x12 => (if x12.2 = 2 then (Bz x9 x2 x3).bind fun x16 => some (x16, AJ ((AJ (x3 - 1)) - (AJ (x12.1 - x2))), 1) else some (x9, x12.1, x12.2)).bind fun (x13, x14, x15) => Im (if (x5 && (x6 && decide (x15 = 1))) = true then (Bb x13 x2 x3).bind fun x18 => (if x18.1 = true then some (.inr (.inr x18.2)) else some (.inl x18.2)) else some (.inl x13)) fun x17 => (if 0 < x2 then (ix x17 (AJ (x2 - 1))).bind fun x20 => (ix x17 x14).bind fun x21 => some (!(AO x20 x21)) else some false).bind fun x19 => (if x19 = true then (BJ x17 x2 x3 x14).bind fun x22 => some (.inl (x22.2, x22.1, x3, x10, (x5 && (x6 || true)), (bif x5 then x6 else x6))) else (Ci x17 x2 x3 x14).bind fun x23 => (if (AJ (x23.1 - x2)) < (AJ (x3 - x23.1)) then (fRec x23.2.2 x2 x23.1 x10).bind fun x24 => some (.inl (x24, AJ (x23.1 + 1), x3, x10, decide ((AJ (Int.tdiv (AJ (x3 - x2)) 8)) ≤ (AJ (x23.1 - x2))), x23.2.1)) else (fRec x23.2.2 (AJ (x23.1 + 1)) x3 x10).bind fun x25 => some (.inl (x25, x2, x23.1, x10, decide ((AJ (Int.tdiv (AJ (x3 - x2)) 8)) ≤ (AJ (x3 - x23.1))), x23.2.1))))))
noncomputable def CI (fRec : (List Int) → Int → Int → Int → Option (List Int)) (p0 : List Int) (p1 : Int) (p2 : Int) (p3 : Int) : Option (List Int) := AZ (Aq fRec) (p0, p1, p2, p3, true, true)
noncomputable def AP : Nat → (List Int) → Int → Int → Int → Option (List Int)
  | 0 => fun _ _ _ _ => none
  | n + 1 => CI (AP n)
noncomputable def CB (p0 : List Int) (p1 : Int) (p2 : Int) (p3 : Int) : Option (List Int) := GN fun n => AP n p0 p1 p2 p3
theorem EG (fRec : (List Int) → Int → Int → Int → Option (List Int)) (ih : ∀ (Y : Nat → Prop) (X : List Nat) (w0 : World) (v1 : Value) (p0 : List Int) (p1 : Int) (p2 : Int) (p3 : Int) (r : List Int) (H : fRec p0 p1 p2 p3 = some r) (hL : Stw ⟨Y, X, w0⟩ [] [row v1 3 (Rp.int .i64) p0] w0), Calls Tryd.prog 55 #[v1, .int .i64 p1, .int .i64 p2, .int .i64 p3] w0 fun e w' => ∃ x : Unit, e = .returned (.tuple #[]) ∧ Stw ⟨Y, X, w0⟩ [] [row v1 3 (Rp.int .i64) r] w') (Y : Nat → Prop) (X : List Nat) (w0 : World) (v1 : Value) (p0 : List Int) (p1 : Int) (p2 : Int) (p3 : Int) (r : List Int) (H : CI fRec p0 p1 p2 p3 = some r) (hL : Stw ⟨Y, X, w0⟩ [] [row v1 3 (Rp.int .i64) p0] w0) :
    Calls Tryd.prog 55 #[v1, .int .i64 p1, .int .i64 p2, .int .i64 p3] w0 fun e w' => ∃ x : Unit, e = .returned (.tuple #[]) ∧ Stw ⟨Y, X, w0⟩ [] [row v1 3 (Rp.int .i64) r] w' := by
 refine enter Tryd.func55 Aa Tryd.ntmps55 Aa fun a F => ?_
 have W := hL
 unfold CI at H
 refine Ag (Ab ?_)
 refine ls F W Aa (Ad F Aa).q fun a w F W => ?_
 refine Ae (Ac (Ag (Ab ?_)))
 refine ls F W Aa (Ad F Aa).q fun a w F W => ?_
 refine Ae (Ac (Ap ?_))
 refine BV H (fun s a w => Fr 134 [] [(0, v1), (1, .int .i64 s.2.1), (2, .int .i64 s.2.2.1), (3, .int .i64 s.2.2.2.1), (8, .bool s.2.2.2.2.1), (9, .bool s.2.2.2.2.2)] a ∧ Stw ⟨Y, X, w0⟩ [] [row v1 3 (Rp.int .i64) s.1] w) ⟨F.re ⟨rfl, Aa, Aa, Aa, Aa, Aa, trivial⟩, W⟩ fun s o a w H L1 hR => ?_
 obtain ⟨x1, x2, x3, x4, x5, x6⟩ := s
 obtain ⟨F, W⟩ := hR
 have F : Fr 134 [] [(0, v1), (1, .int .i64 x2), (2, .int .i64 x3), (3, .int .i64 x4), (8, .bool x5), (9, .bool x6)] a := F
 have W : Stw ⟨Y, X, w0⟩ [] [row v1 3 (Rp.int .i64) x1] w := W
 rw [Aq] at H
 refine Ap (Ag (Ab ?_))
 iterate 2 refine ls F W Aa (Af F Aa).q fun a w F W => ?_
 refine ls F W Aa (Cd F Aa Aa Aa).q fun a w F W => ?_
 refine ls F W Aa (Ad F Aa).q fun a w F W => ?_
 refine Ae (Ac (Ag (Ag (Ab ?_))))
 refine ls F W Aa (Af F Aa).q fun a w F W => ?_
 refine ls F W Aa (FC F Aa Aa).q fun a w F W => ?_
 refine Ae (Ac ?_)
 refine Ao F Aa (fun hb => ?_) fun hb => ?_
 ·
  have H := A5 (Bv hb) H
  rw [hb] at F
  clear hb
  refine Ag (Ab ?_)
  iterate 3 refine ls F W Aa (Af F Aa).q fun a w F W => ?_
  obtain ⟨x7, h1, H⟩ := Aj H
  refine BE (Ml := []) (Zl := [row v1 3 (Rp.int .i64) x1]) (M := []) (Z := []) (β := Unit) (rv := fun x => .tuple #[]) (MM := fun x => []) (ZZ := fun x => [row v1 3 (Rp.int .i64) x7]) F W O0 Aa Aa (fun hL => D8 _ _ w (v1) x1 x2 x3 _ h1 hL) fun x a w F W => ?_
  have W : Stw ⟨Y, X, w0⟩ [] [row v1 3 (Rp.int .i64) x7] w := W
  refine Ae (Ac (Aw (A4 (A0 (A4 (A0 ?_))))))
  have H := L1 _ H
  have H := AV H
  subst H
  refine Gm (.inl Aa) F Aa ?_
  exact ⟨(), Aa, W⟩
 have H := A3 (Bx hb) H
 rw [hb] at F
 clear hb
 refine Au (Ac (Ag (Ag (Ab ?_))))
 refine ls F W Aa (Af F Aa).q fun a w F W => ?_
 refine ls F W Aa (BU F Aa Aa).q fun a w F W => ?_
 refine Ae (Ac ?_)
 refine Ao F Aa (fun hb => ?_) fun hb => ?_
 ·
  have H := A5 (Bv hb) H
  rw [hb] at F
  clear hb
  refine Ag (Ab ?_)
  iterate 3 refine ls F W Aa (Af F Aa).q fun a w F W => ?_
  obtain ⟨x8, h2, H⟩ := Aj H
  refine BE (Ml := []) (Zl := [row v1 3 (Rp.int .i64) x1]) (M := []) (Z := []) (β := Unit) (rv := fun x => .tuple #[]) (MM := fun x => []) (ZZ := fun x => [row v1 3 (Rp.int .i64) x8]) F W O6 Aa Aa (fun hL => EK _ _ w (v1) x1 x2 x3 _ h2 hL) fun x a w F W => ?_
  have W : Stw ⟨Y, X, w0⟩ [] [row v1 3 (Rp.int .i64) x8] w := W
  refine Ae (Ac (Aw (A4 (A0 (A4 (A0 ?_))))))
  have H := L1 _ H
  have H := AV H
  subst H
  refine Gm (.inl Aa) F Aa ?_
  exact ⟨(), Aa, W⟩
 have H := A3 (Bx hb) H
 rw [hb] at F
 clear hb
 refine Au (Ac ?_)
 obtain ⟨o2, G2, K2⟩ := Aj H
 refine AW (fun a w => ∃ x9 : List Int, ∃ x10 : Int, some ((x9, x10)) = some o2 ∧ Fr 134 [] [(0, v1), (1, .int .i64 x2), (2, .int .i64 x3), (3, .int .i64 x10), (8, .bool x5), (9, .bool x6), (10, .int .i64 (AJ (x3 - x2)))] a ∧ Stw ⟨Y, X, w0⟩ [] [row v1 3 (Rp.int .i64) x9] w) ?_ ?_
 ·
  have H := G2
  clear G2 K2
  refine Ag (Ab ?_)
  refine ls F W Aa (Af F Aa).q fun a w F W => ?_
  refine ls F W Aa (Eh F Aa).q fun a w F W => ?_
  refine Ae (Ac ?_)
  refine Ao F Aa (fun hb => ?_) fun hb => ?_
  ·
   have H := A5 hb H
   rw [hb] at F
   clear hb
   refine Ag (Ab ?_)
   iterate 3 refine ls F W Aa (Af F Aa).q fun a w F W => ?_
   obtain ⟨x11, h3, H⟩ := Aj H
   refine BE (Ml := []) (Zl := [row v1 3 (Rp.int .i64) x1]) (M := []) (Z := []) (β := Unit) (rv := fun x => .tuple #[]) (MM := fun x => []) (ZZ := fun x => [row v1 3 (Rp.int .i64) x11]) F W OW Aa Aa (fun hL => D9 _ _ w (v1) x1 x2 x3 _ h3 hL) fun x a w F W => ?_
   have W : Stw ⟨Y, X, w0⟩ [] [row v1 3 (Rp.int .i64) x11] w := W
   refine Ae (Ac (Ab ?_))
   refine ls F W Aa (Af F Aa).q fun a w F W => ?_
   refine ls F W Aa (Cd F Aa Aa Aa).q fun a w F W => ?_
   refine ls F W Aa (Ad F Aa).q fun a w F W => ?_
   refine Ae (Ac ?_)
   exact ⟨_, _, H, F.re ⟨rfl, Aa, Aa, Aa, Aa, Aa, Aa, trivial⟩, W⟩
  have H := A3 (by rw [hb]; decide) H
  rw [hb] at F
  clear hb
  refine Au (Ac ?_)
  exact ⟨_, _, H, F.re ⟨rfl, Aa, Aa, Aa, Aa, Aa, Aa, trivial⟩, W⟩
 rintro a w ⟨x9, x10, hj, F, W⟩
 have hj := AV hj
 subst hj
 have H := K2
 clear G2 K2
 refine Ag (Ab ?_)
 iterate 3 refine ls F W Aa (Af F Aa).q fun a w F W => ?_
 obtain ⟨x12, h4, H⟩ := Aj H
 refine ls F W Aa (Be (v := Value.tuple #[.int .i64 x12.1, .int .i64 x12.2]) F O8 Aa (fun w W => Eg any w (v1) x9 x2 x3 _ h4 (((Ai 0 Aa) : FB _ _ _ _ _ _) w W).nx)) fun a w F W => ?_
 refine ls F W Aa (Af F Aa).q fun a w F W => ?_
 refine ls F W Aa (DB (v := Value.int .i64 x12.1) F Aa Aa).q fun a w F W => ?_
 refine ls F W Aa (DB (v := Value.int .i64 x12.2) F Aa Aa).q fun a w F W => ?_
 iterate 2 refine ls F W Aa (Ad F Aa).q fun a w F W => ?_
 refine Ae (Ac ?_)
 obtain ⟨o3, G3, K3⟩ := Aj H
 refine AW (fun a w => ∃ x13 : List Int, ∃ x14 : Int, ∃ x15 : Int, some ((x13, x14, x15)) = some o3 ∧ Fr 134 [] [(0, v1), (1, .int .i64 x2), (2, .int .i64 x3), (3, .int .i64 x10), (8, .bool x5), (9, .bool x6), (10, .int .i64 (AJ (x3 - x2))), (11, .int .i64 x14), (12, .int .i64 x15)] a ∧ Stw ⟨Y, X, w0⟩ [] [row v1 3 (Rp.int .i64) x13] w) ?_ ?_
 ·
  have H := G3
  clear G3 K3
  refine Ag (Ab ?_)
  refine ls F W Aa (Af F Aa).q fun a w F W => ?_
  refine ls F W Aa (BU F Aa Aa).q fun a w F W => ?_
  refine Ae (Ac ?_)
  refine Ao F Aa (fun hb => ?_) fun hb => ?_
  ·
   have H := A5 (Bv hb) H
   rw [hb] at F
   clear hb
   refine Ag (Ab ?_)
   iterate 3 refine ls F W Aa (Af F Aa).q fun a w F W => ?_
   obtain ⟨x16, h5, H⟩ := Aj H
   refine BE (Ml := []) (Zl := [row v1 3 (Rp.int .i64) x9]) (M := []) (Z := []) (β := Unit) (rv := fun x => .tuple #[]) (MM := fun x => []) (ZZ := fun x => [row v1 3 (Rp.int .i64) x16]) F W OO Aa Aa (fun hL => Eb _ _ w (v1) x9 x2 x3 _ h5 hL) fun x a w F W => ?_
   have W : Stw ⟨Y, X, w0⟩ [] [row v1 3 (Rp.int .i64) x16] w := W
   refine Ae (Ac (Ag (Ab ?_)))
   refine ls F W Aa (Af F Aa).q fun a w F W => ?_
   refine ls F W Aa (Cd F Aa Aa Aa).q fun a w F W => ?_
   iterate 2 refine ls F W Aa (Af F Aa).q fun a w F W => ?_
   iterate 2 refine ls F W Aa (Cd F Aa Aa Aa).q fun a w F W => ?_
   refine ls F W Aa (Ad F Aa).q fun a w F W => ?_
   refine Ae (Ac (Ab ?_))
   refine ls F W Aa (Ad F Aa).q fun a w F W => ?_
   refine Ae (Ac ?_)
   exact ⟨_, _, _, H, F.re ⟨rfl, Aa, Aa, Aa, Aa, Aa, Aa, Aa, Aa, trivial⟩, W⟩
  have H := A3 (Bx hb) H
  rw [hb] at F
  clear hb
  refine Au (Ac ?_)
  exact ⟨_, _, _, H, F.re ⟨rfl, Aa, Aa, Aa, Aa, Aa, Aa, Aa, Aa, trivial⟩, W⟩
 rintro a w ⟨x13, x14, x15, hj, F, W⟩
 have hj := AV hj
 subst hj
 have H := K3
 clear G3 K3
 obtain ⟨o4, G4, K4, L4⟩ := Mo H
 refine AW (fun a w => ∃ x17 : List Int, some (Sum.inl x17) = some o4 ∧ Fr 134 [] [(0, v1), (1, .int .i64 x2), (2, .int .i64 x3), (3, .int .i64 x10), (8, .bool (x5 && (x6 || true))), (9, .bool (bif x5 then x6 else x6)), (10, .int .i64 (AJ (x3 - x2))), (11, .int .i64 x14)] a ∧ Stw ⟨Y, X, w0⟩ [] [row v1 3 (Rp.int .i64) x17] w) ?_ ?_
 ·
  have H := G4
  clear G4 K4
  refine AW (fun a w => Fr 134 [] [(0, v1), (1, .int .i64 x2), (2, .int .i64 x3), (3, .int .i64 x10), (8, .bool (x5 && (x6 || true))), (9, .bool (bif x5 then x6 else x6)), (10, .int .i64 (AJ (x3 - x2))), (11, .int .i64 x14), (68, .bool (x5 && (x6 && decide (x15 = 1))))] a ∧ Stw ⟨Y, X, w0⟩ [] [row v1 3 (Rp.int .i64) x13] w) ?_ ?_
  ·
   refine Ab ?_
   iterate 2 refine ls F W Aa (Af F Aa).q fun a w F W => ?_
   rcases Bool.eq_false_or_eq_true x5 with hb0 | hb0
   ·
    rw [hb0] at F
    refine Cm F W (Ah F Aa Aa Aa Aa) Aa (An Aa) (Af F Aa).q fun a w F W => ?_
    refine ls F W Aa (Bc F Aa Aa Aa).q fun a w F W => ?_
    refine ls F W Aa (Af F Aa).q fun a w F W => ?_
    rcases Bool.eq_false_or_eq_true x6 with hb1 | hb1
    ·
     rw [hb1] at F
     refine Cm F W (Ah F Aa Aa Aa Aa) Aa (An Aa) (Af F Aa).q fun a w F W => ?_
     refine Cm F W (Ah F Aa Aa Aa Aa) Aa (An Aa) (BU F Aa Aa).q fun a w F W => ?_
     refine ls F W Aa (Bc F Aa Aa Aa).q fun a w F W => ?_
     refine Ae (Ac ?_)
     exact ⟨F.re ⟨rfl, Aa, Aa, Aa, (by show some (Value.bool true) = some (Value.bool (x5 && (x6 || true))); try rw [hb0]; try rw [hb1]; all_goals simp only [Bool.not_true, Bool.not_false, Bool.true_and, Bool.false_and, Bool.true_or, Bool.false_or, Bool.and_true, Bool.or_false, cond_true, cond_false]), (by show some (Value.bool true) = some (Value.bool (bif x5 then x6 else x6)); try rw [hb0]; try rw [hb1]; all_goals simp only [Bool.not_true, Bool.not_false, Bool.true_and, Bool.false_and, Bool.true_or, Bool.false_or, Bool.and_true, Bool.or_false, cond_true, cond_false]), Aa, Aa, (by show some (Value.bool (decide (x15 = 1))) = some (Value.bool (x5 && (x6 && decide (x15 = 1)))); try rw [hb0]; try rw [hb1]; all_goals simp only [Bool.not_true, Bool.not_false, Bool.true_and, Bool.false_and, Bool.true_or, Bool.false_or, Bool.and_true, Bool.or_false, cond_true, cond_false]), trivial⟩, W⟩
    rw [hb1] at F
    iterate 2 refine GD F Aa Aa Aa Aa Aa Aa Aa fun a F => ?_
    refine ls F W Aa (AU F Aa Aa Aa).q fun a w F W => ?_
    refine Ae (Ac ?_)
    exact ⟨F.re ⟨rfl, Aa, Aa, Aa, (by show some (Value.bool true) = some (Value.bool (x5 && (x6 || true))); try rw [hb0]; try rw [hb1]; all_goals simp only [Bool.not_true, Bool.not_false, Bool.true_and, Bool.false_and, Bool.true_or, Bool.false_or, Bool.and_true, Bool.or_false, cond_true, cond_false]), (by show some (Value.bool false) = some (Value.bool (bif x5 then x6 else x6)); try rw [hb0]; try rw [hb1]; all_goals simp only [Bool.not_true, Bool.not_false, Bool.true_and, Bool.false_and, Bool.true_or, Bool.false_or, Bool.and_true, Bool.or_false, cond_true, cond_false]), Aa, Aa, (by show some (Value.bool false) = some (Value.bool (x5 && (x6 && decide (x15 = 1)))); try rw [hb0]; try rw [hb1]; all_goals simp only [Bool.not_true, Bool.not_false, Bool.true_and, Bool.false_and, Bool.true_or, Bool.false_or, Bool.and_true, Bool.or_false, cond_true, cond_false]), trivial⟩, W⟩
   rw [hb0] at F
   refine GD F Aa Aa Aa Aa Aa Aa Aa fun a F => ?_
   refine ls F W Aa (AU F Aa Aa Aa).q fun a w F W => ?_
   refine ls F W Aa (Af F Aa).q fun a w F W => ?_
   iterate 2 refine GD F Aa Aa Aa Aa Aa Aa Aa fun a F => ?_
   refine ls F W Aa (AU F Aa Aa Aa).q fun a w F W => ?_
   refine Ae (Ac ?_)
   exact ⟨F.re ⟨rfl, Aa, Aa, Aa, (by show some (Value.bool false) = some (Value.bool (x5 && (x6 || true))); try rw [hb0]; all_goals simp only [Bool.not_true, Bool.not_false, Bool.true_and, Bool.false_and, Bool.true_or, Bool.false_or, Bool.and_true, Bool.or_false, cond_true, cond_false]), (by show some (Value.bool x6) = some (Value.bool (bif x5 then x6 else x6)); try rw [hb0]; all_goals simp only [Bool.not_true, Bool.not_false, Bool.true_and, Bool.false_and, Bool.true_or, Bool.false_or, Bool.and_true, Bool.or_false, cond_true, cond_false]), Aa, Aa, (by show some (Value.bool false) = some (Value.bool (x5 && (x6 && decide (x15 = 1)))); try rw [hb0]; all_goals simp only [Bool.not_true, Bool.not_false, Bool.true_and, Bool.false_and, Bool.true_or, Bool.false_or, Bool.and_true, Bool.or_false, cond_true, cond_false]), trivial⟩, W⟩
  rintro a w ⟨F, W⟩
  refine Ao F Aa (fun hb => ?_) fun hb => ?_
  ·
   have H := A5 hb H
   rw [hb] at F
   clear hb
   refine Ag (Ab ?_)
   iterate 3 refine ls F W Aa (Af F Aa).q fun a w F W => ?_
   obtain ⟨x18, h6, H⟩ := Aj H
   refine BE (Ml := []) (Zl := [row v1 3 (Rp.int .i64) x13]) (M := []) (Z := []) (β := Unit) (rv := fun x => .bool x18.1) (MM := fun x => []) (ZZ := fun x => [row v1 3 (Rp.int .i64) x18.2]) F W ON Aa Aa (fun hL => DE _ _ w (v1) x13 x2 x3 _ h6 hL) fun x a w F W => ?_
   have W : Stw ⟨Y, X, w0⟩ [] [row v1 3 (Rp.int .i64) x18.2] w := W
   refine Ae (Ac ?_)
   refine Ao F Aa (fun hb => ?_) fun hb => ?_
   ·
    have H := A5 hb H
    rw [hb] at F
    clear hb
    refine Aw (A4 (A0 (A4 (A0 ?_))))
    have H := L4 _ H
    have H := L1 _ H
    have H := AV H
    subst H
    refine Gm (.inl Aa) F Aa ?_
    exact ⟨(), Aa, W⟩
   have H := A3 (by rw [hb]; decide) H
   rw [hb] at F
   clear hb
   refine Au (Ac ?_)
   exact ⟨_, H, F.re ⟨rfl, Aa, Aa, Aa, Aa, Aa, Aa, Aa, trivial⟩, W⟩
  have H := A3 (by rw [hb]; decide) H
  rw [hb] at F
  clear hb
  refine Au (Ac ?_)
  exact ⟨_, H, F.re ⟨rfl, Aa, Aa, Aa, Aa, Aa, Aa, Aa, trivial⟩, W⟩
 rintro a w ⟨x17, hj, F, W⟩
 have H := K4 _ hj
 clear hj G4 K4 L4
 refine Ag ?_
 obtain ⟨o5, G5, K5⟩ := Aj H
 refine AW (fun a w => ∃ x19 : Bool, some (x19) = some o5 ∧ Fr 134 [] [(0, v1), (1, .int .i64 x2), (2, .int .i64 x3), (3, .int .i64 x10), (8, .bool (x5 && (x6 || true))), (9, .bool (bif x5 then x6 else x6)), (10, .int .i64 (AJ (x3 - x2))), (11, .int .i64 x14), (87, .bool x19)] a ∧ Stw ⟨Y, X, w0⟩ [] [row v1 3 (Rp.int .i64) x17] w) ?_ ?_
 ·
  have H := G5
  clear G5 K5
  refine Cb W MO (by kernel_rfl) ?_
  refine qs F Aa (Af F Aa).q fun a F => ?_
  refine qs F Aa (Hw F Aa Aa).q fun a F => ?_
  refine qs F Aa (Af F Aa).q fun a F => ?_
  rcases Bool.eq_false_or_eq_true (decide (0 < x2)) with hb | hb
  ·
   have H := A5 (Bv hb) H
   rw [hb] at F
   clear hb
   iterate 2 refine Bj F (Ah F Aa Aa Aa Aa) Aa (An Aa) (Af F Aa).q fun a F => ?_
   refine Bj F (Ah F Aa Aa Aa Aa) Aa (An Aa) (Cd F Aa Aa Aa).q fun a F => ?_
   obtain ⟨x20, h7, H⟩ := Aj H
   refine Bj F (Ah F Aa Aa Aa Aa) Aa (An Aa) (Ay (r := (Rp.int .i64)) CK F Aa Aa (Ai 0 Aa) h7).q fun a F => ?_
   refine Bj F (Ah F Aa Aa Aa Aa) Aa (An Aa) (Am (y := Value.int .i64 x20) (j := 0) (i := AJ (x2 - 1)) F Aa Aa (Ai 0 Aa) h7 Fl.int.to T3 Aa).q fun a F => ?_
   iterate 2 refine Bj F (Ah F Aa Aa Aa Aa) Aa (An Aa) (Af F Aa).q fun a F => ?_
   obtain ⟨x21, h8, H⟩ := Aj H
   refine Bj F (Ah F Aa Aa Aa Aa) Aa (An Aa) (Ay (r := (Rp.int .i64)) CK F Aa Aa (Ai 0 Aa) h8).q fun a F => ?_
   refine Bj F (Ah F Aa Aa Aa Aa) Aa (An Aa) (Am (y := Value.int .i64 x21) (j := 0) (i := x14) F Aa Aa (Ai 0 Aa) h8 Fl.int.to T3 Aa).q fun a F => ?_
   refine Bj F (Ah F Aa Aa Aa Aa) Aa (An Aa) (Be (v := Value.bool (AO x20 x21)) F KW Aa (fun w W => BL any w x20 x21 _ Aa)) fun a F => ?_
   refine Bj F (Ah F Aa Aa Aa Aa) Aa (An Aa) (Eh F Aa).q fun a F => ?_
   refine qs F Aa (Bc F Aa Aa Aa).q fun a F => ?_
   refine AX fun w W => ?_
   refine Ac ?_
   exact ⟨_, H, F.re ⟨rfl, Aa, Aa, Aa, Aa, Aa, Aa, Aa, Aa, trivial⟩, W⟩
  have H := A3 (Bx hb) H
  rw [hb] at F
  clear hb
  iterate 11 refine CS F (Cu F Aa Aa Aa Aa Aa) Aa Aa fun a F => ?_
  refine qs F Aa (AU F Aa Aa Aa).q fun a F => ?_
  refine AX fun w W => ?_
  refine Ac ?_
  exact ⟨_, H, F.re ⟨rfl, Aa, Aa, Aa, Aa, Aa, Aa, Aa, Aa, trivial⟩, W⟩
 rintro a w ⟨x19, hj, F, W⟩
 have hj := AV hj
 subst hj
 have H := K5
 clear G5 K5
 refine Ao F Aa (fun hb => ?_) fun hb => ?_
 ·
  have H := A5 hb H
  rw [hb] at F
  clear hb
  refine Ag (Ab ?_)
  iterate 4 refine ls F W Aa (Af F Aa).q fun a w F W => ?_
  obtain ⟨x22, h9, H⟩ := Aj H
  refine BE (Ml := []) (Zl := [row v1 3 (Rp.int .i64) x17]) (M := []) (Z := []) (β := Unit) (rv := fun x => .int .i64 x22.1) (MM := fun x => []) (ZZ := fun x => [row v1 3 (Rp.int .i64) x22.2]) F W OG Aa Aa (fun hL => D3 _ _ w (v1) x17 x2 x3 x14 _ h9 hL) fun x a w F W => ?_
  have W : Stw ⟨Y, X, w0⟩ [] [row v1 3 (Rp.int .i64) x22.2] w := W
  refine ls F W Aa (Ad F Aa).q fun a w F W => ?_
  refine Ae (Ac (Ag (Ab ?_)))
  refine ls F W Aa (Af F Aa).q fun a w F W => ?_
  refine ls F W Aa (Ad F Aa).q fun a w F W => ?_
  refine Ae (Ac (BK (B7 (BN (Ac ?_)))))
  exact ⟨_, H, F.re ⟨rfl, Aa, Aa, Aa, Aa, Aa, trivial⟩, W⟩
 have H := A3 (by rw [hb]; decide) H
 rw [hb] at F
 clear hb
 refine Au (Ac (Ag (Ab ?_)))
 iterate 4 refine ls F W Aa (Af F Aa).q fun a w F W => ?_
 obtain ⟨x23, h10, H⟩ := Aj H
 refine BE (Ml := []) (Zl := [row v1 3 (Rp.int .i64) x17]) (M := []) (Z := []) (β := Unit) (rv := fun x => .tuple #[.int .i64 x23.1, .bool x23.2.1]) (MM := fun x => []) (ZZ := fun x => [row v1 3 (Rp.int .i64) x23.2.2]) F W OX Aa Aa (fun hL => EF _ _ w (v1) x17 x2 x3 x14 _ h10 hL) fun x a w F W => ?_
 have W : Stw ⟨Y, X, w0⟩ [] [row v1 3 (Rp.int .i64) x23.2.2] w := W
 refine ls F W Aa (Af F Aa).q fun a w F W => ?_
 refine ls F W Aa (DB (v := Value.int .i64 x23.1) F Aa Aa).q fun a w F W => ?_
 refine ls F W Aa (DB (v := Value.bool x23.2.1) F Aa Aa).q fun a w F W => ?_
 iterate 2 refine ls F W Aa (Ad F Aa).q fun a w F W => ?_
 refine Ae (Ac (Ag (Ab ?_)))
 refine ls F W Aa (Af F Aa).q fun a w F W => ?_
 refine ls F W Aa (Ad F Aa).q fun a w F W => ?_
 refine Ae (Ac (Ag (Ab ?_)))
 iterate 2 refine ls F W Aa (Af F Aa).q fun a w F W => ?_
 refine ls F W Aa (Cd F Aa Aa Aa).q fun a w F W => ?_
 iterate 2 refine ls F W Aa (Af F Aa).q fun a w F W => ?_
 refine ls F W Aa (Cd F Aa Aa Aa).q fun a w F W => ?_
 iterate 2 refine ls F W Aa (Ad F Aa).q fun a w F W => ?_
 refine Ae (Ac (Ag (Ab ?_)))
 refine ls F W Aa (Af F Aa).q fun a w F W => ?_
 refine ls F W Aa (Il F Aa Aa (by decide) Aa).q fun a w F W => ?_
 refine ls F W Aa (Ad F Aa).q fun a w F W => ?_
 refine Ae (Ac (Ag (Ab ?_)))
 iterate 2 refine ls F W Aa (Af F Aa).q fun a w F W => ?_
 refine ls F W Aa (Df F Aa Aa).q fun a w F W => ?_
 refine Ae (Ac ?_)
 refine Ao F Aa (fun hb => ?_) fun hb => ?_
 ·
  have H := A5 (Bv hb) H
  rw [hb] at F
  clear hb
  refine Ag (Ab ?_)
  iterate 2 refine ls F W Aa (Af F Aa).q fun a w F W => ?_
  refine ls F W Aa (DT F Aa Aa).q fun a w F W => ?_
  refine ls F W Aa (Ad F Aa).q fun a w F W => ?_
  refine Ae (Ac (Ag (Ab ?_)))
  iterate 4 refine ls F W Aa (Af F Aa).q fun a w F W => ?_
  obtain ⟨x24, h11, H⟩ := Aj H
  refine BE (Ml := []) (Zl := [row v1 3 (Rp.int .i64) x23.2.2]) (M := []) (Z := []) (β := Unit) (rv := fun x => .tuple #[]) (MM := fun x => []) (ZZ := fun x => [row v1 3 (Rp.int .i64) x24]) F W NR Aa Aa (fun hL => ih _ _ w (v1) x23.2.2 x2 x23.1 x10 _ h11 hL) fun x a w F W => ?_
  have W : Stw ⟨Y, X, w0⟩ [] [row v1 3 (Rp.int .i64) x24] w := W
  refine Ae (Ac (Ab ?_))
  refine ls F W Aa (Af F Aa).q fun a w F W => ?_
  refine ls F W Aa (BM F Aa Aa Aa).q fun a w F W => ?_
  refine ls F W Aa (Ad F Aa).q fun a w F W => ?_
  refine Ae (A6 (Ac ?_))
  exact ⟨_, H, F.re ⟨rfl, Aa, Aa, Aa, Aa, Aa, trivial⟩, W⟩
 have H := A3 (Bx hb) H
 rw [hb] at F
 clear hb
 refine Ag (Ab ?_)
 iterate 2 refine ls F W Aa (Af F Aa).q fun a w F W => ?_
 refine ls F W Aa (DT F Aa Aa).q fun a w F W => ?_
 refine ls F W Aa (Ad F Aa).q fun a w F W => ?_
 refine Ae (Ac (Ag (Ab ?_)))
 iterate 2 refine ls F W Aa (Af F Aa).q fun a w F W => ?_
 refine ls F W Aa (BM F Aa Aa Aa).q fun a w F W => ?_
 iterate 2 refine ls F W Aa (Af F Aa).q fun a w F W => ?_
 obtain ⟨x25, h12, H⟩ := Aj H
 refine BE (Ml := []) (Zl := [row v1 3 (Rp.int .i64) x23.2.2]) (M := []) (Z := []) (β := Unit) (rv := fun x => .tuple #[]) (MM := fun x => []) (ZZ := fun x => [row v1 3 (Rp.int .i64) x25]) F W NR Aa Aa (fun hL => ih _ _ w (v1) x23.2.2 (AJ (x23.1 + 1)) x3 x10 _ h12 hL) fun x a w F W => ?_
 have W : Stw ⟨Y, X, w0⟩ [] [row v1 3 (Rp.int .i64) x25] w := W
 refine Ae (Ac (Ab ?_))
 refine ls F W Aa (Af F Aa).q fun a w F W => ?_
 refine ls F W Aa (Ad F Aa).q fun a w F W => ?_
 refine Ae (A6 (Ac ?_))
 exact ⟨_, H, F.re ⟨rfl, Aa, Aa, Aa, Aa, Aa, trivial⟩, W⟩
theorem EN : ∀ (n : Nat) (Y : Nat → Prop) (X : List Nat) (w0 : World) (v1 : Value) (p0 : List Int) (p1 : Int) (p2 : Int) (p3 : Int) (r : List Int) (H : AP n p0 p1 p2 p3 = some r) (hL : Stw ⟨Y, X, w0⟩ [] [row v1 3 (Rp.int .i64) p0] w0), Calls Tryd.prog 55 #[v1, .int .i64 p1, .int .i64 p2, .int .i64 p3] w0 fun e w' => ∃ x : Unit, e = .returned (.tuple #[]) ∧ Stw ⟨Y, X, w0⟩ [] [row v1 3 (Rp.int .i64) r] w' := by
  intro n
  induction n with
  | zero => intro Y X w0 v1 p0 p1 p2 p3 r H; exact nomatch H
  | succ n ih => intro Y X w0 v1 p0 p1 p2 p3 r H hL; exact EG (AP n) ih Y X w0 v1 p0 p1 p2 p3 r H hL
theorem EP (Y : Nat → Prop) (X : List Nat) (w0 : World) (v1 : Value) (p0 : List Int) (p1 : Int) (p2 : Int) (p3 : Int) (r : List Int) (H : CB p0 p1 p2 p3 = some r) (hL : Stw ⟨Y, X, w0⟩ [] [row v1 3 (Rp.int .i64) p0] w0) :
    Calls Tryd.prog 55 #[v1, .int .i64 p1, .int .i64 p2, .int .i64 p3] w0 fun e w' => ∃ x : Unit, e = .returned (.tuple #[]) ∧ Stw ⟨Y, X, w0⟩ [] [row v1 3 (Rp.int .i64) r] w' := by
  obtain ⟨n, H⟩ := DC H
  exact EN n Y X w0 v1 p0 p1 p2 p3 r H hL
noncomputable def CL (p0 : List Int) : Option (List Int) := (DA (IntKind.u64.wrap (p0.length : Int))).bind fun x1 => (CB p0 0 (p0.length : Int) x1).bind fun x2 => some x2
theorem F2 (Y : Nat → Prop) (X : List Nat) (w0 : World) (v1 : Value) (p0 : List Int) (r : List Int) (H : CL p0 = some r) (hL : Stw ⟨Y, X, w0⟩ [] [row v1 3 (Rp.int .i64) p0] w0) :
    Calls Tryd.prog 42 #[v1] w0 fun e w' => ∃ x : Unit, e = .returned (.tuple #[]) ∧ Stw ⟨Y, X, w0⟩ [] [row v1 3 (Rp.int .i64) r] w' := by
 refine enter Tryd.func42 Aa Tryd.ntmps42 Aa fun a F => ?_
 have W := hL
 unfold CL at H
 refine Ag (Ab ?_)
 refine ls F W Aa (Af F Aa).q fun a w F W => ?_
 refine ls F W Aa (DU (r := (Rp.int .i64)) (l := p0) Lp Aa F Aa (Ai 0 Aa)).q fun a w F W => ?_
 refine ls F W Aa (Ad F Aa).q fun a w F W => ?_
 refine Ae (Ac (Ab ?_))
 iterate 3 refine ls F W Aa (Af F Aa).q fun a w F W => ?_
 refine ls F W Aa (Gt NI M7 F Aa).q fun a w F W => ?_
 obtain ⟨x1, h1, H⟩ := Aj H
 refine ls F W Aa (Be (v := Value.int .i64 x1) F Oq Aa (fun w W => FT any w (IntKind.u64.wrap (p0.length : Int)) _ h1)) fun a w F W => ?_
 obtain ⟨x2, h2, H⟩ := Aj H
 refine BE (Ml := []) (Zl := [row v1 3 (Rp.int .i64) p0]) (M := []) (Z := []) (β := Unit) (rv := fun x => .tuple #[]) (MM := fun x => []) (ZZ := fun x => [row v1 3 (Rp.int .i64) x2]) F W NR Aa Aa (fun hL => EP _ _ w (v1) p0 0 (p0.length : Int) x1 _ h2 hL) fun x a w F W => ?_
 have W : Stw ⟨Y, X, w0⟩ [] [row v1 3 (Rp.int .i64) x2] w := W
 refine Ae ?_
 have H := AV H
 subst H
 refine Gm (.inr Aa) F Aa ?_
 exact ⟨(), Aa, W⟩
theorem OL : Has Tryd.prog 42 := ⟨fun args w => Ak Tryd.func42 rfl (by decide) args w⟩
noncomputable def BH (p0 : List Int) (x1 : Int) : (List Int × Int × Int) → Option ((List Int × Int × Int) ⊕ (List Int × Int))
  | (x7, x8, x9) => (GL x7 x1 (p0.length : Int)).bind fun x10 => (if x9 < (x10.length : Int) then ((ix x10 x9).bind fun x13 => (ix x10 (AJ (x9 - 1))).bind fun x14 => (if x13 ≠ x14 then (ix x10 x9).bind fun x15 => (ix x7 x8).bind fun x16 => some ((AM x7 x8 x15), AJ (x8 + 1)) else some (x7, x8))).bind fun (x11, x12) => some (.inl (x11, x12, AJ (x9 + 1))) else some (.inr (x7, x8)))
noncomputable def Bo (p0 : List Int) : Int → Option (Int ⊕ (Unit ⊕ (List Int)))
  | x1 => (if x1 < (p0.length : Int) then Im ((ix p0 x1).bind fun x2 => (ix p0 (AJ (x1 - 1))).bind fun x3 => (if x2 = x3 then (GL p0 x1 (p0.length : Int)).bind fun x4 => (AZ (BH p0 x1) (p0, x1, 1)).bind fun (x5, x6) => (GL x5 x6 (x5.length : Int)).bind fun x17 => (Nn x5 x6 (List.replicate (x17.length) (0 : Int))).bind fun x18 => (GL x18 0 x6).bind fun x19 => some (.inr (.inr (.inr x19))) else some (.inl ()))) fun _ => some (.inl (AJ (x1 + 1))) else some (.inr (.inl ())))
noncomputable def Cw (p0 : List Int) : Option (List Int) := (if (p0.length : Int) < 2 then some p0 else Im (AZ (Bo p0) 1) fun _ => some p0)
theorem Fo (Y : Nat → Prop) (X : List Nat) (w0 : World) (v1 : Value) (p0 : List Int) (r : List Int) (H : Cw p0 = some r) (hL : Stw ⟨Y, X, w0⟩ [] [row v1 3 (Rp.int .i64) p0] w0) :
    Calls Tryd.prog 43 #[v1] w0 fun e w' => ∃ x : Value, e = .returned (x) ∧ Stw ⟨Y, X, w0⟩ [] [row (x) 3 (Rp.int .i64) r] w' := by
 refine enter Tryd.func43 Aa Tryd.ntmps43 Aa fun a F => ?_
 have W := hL
 unfold Cw at H
 refine Ag (Ab ?_)
 refine ls F W Aa (Ad F Aa).q fun a w F W => ?_
 refine Ae (Ac (Ag (Ag (Ab ?_))))
 refine ls F W Aa (Af F Aa).q fun a w F W => ?_
 refine ls F W Aa (DU (r := (Rp.int .i64)) (l := p0) Lp Aa F Aa (Ai 0 Aa)).q fun a w F W => ?_
 refine ls F W Aa (Df F Aa Aa).q fun a w F W => ?_
 refine Ae (Ac ?_)
 refine Ao F Aa (fun hb => ?_) fun hb => ?_
 ·
  have H := A5 (Bv hb) H
  rw [hb] at F
  clear hb
  refine Ag (Ab ?_)
  refine ls F W Aa (Af F Aa).q fun a w F W => ?_
  refine ls F W Aa (Ad F Aa).q fun a w F W => ?_
  refine Ae (Ac (Aw (A4 ?_)))
  have H := AV H
  subst H
  refine A2 (.inl Aa) F W Aa (AB F Aa) ?_
  exact ⟨(v1), Aa, W⟩
 have H := A3 (Bx hb) H
 rw [hb] at F
 clear hb
 refine Au (Ac ?_)
 obtain ⟨o1, G1, K1, L1⟩ := Mo H
 refine AW (fun a w => some (Sum.inl ()) = some o1 ∧ Fr 61 [] [(0, v1), (2, .slice none 0 0)] a ∧ Stw ⟨Y, X, w0⟩ [] [row v1 3 (Rp.int .i64) p0] w) ?_ ?_
 ·
  have H := G1
  clear G1 K1
  refine Ag (Ab ?_)
  refine ls F W Aa (Ad F Aa).q fun a w F W => ?_
  refine Ae (Ac (Ap ?_))
  refine BV H (fun s a w => Fr 61 [] [(0, v1), (2, .slice none 0 0), (3, .int .i64 s)] a ∧ Stw ⟨Y, X, w0⟩ [] [row v1 3 (Rp.int .i64) p0] w) ⟨F.re ⟨rfl, Aa, Aa, trivial⟩, W⟩ fun s o a w H L2 hR => ?_
  obtain ⟨x1, rfl⟩ : ∃ x, x = s := ⟨s, rfl⟩
  obtain ⟨F, W⟩ := hR
  have F : Fr 61 [] [(0, v1), (2, .slice none 0 0), (3, .int .i64 x1)] a := F
  have W : Stw ⟨Y, X, w0⟩ [] [row v1 3 (Rp.int .i64) p0] w := W
  rw [Bo] at H
  refine Ag (Ag (Ab ?_))
  iterate 2 refine ls F W Aa (Af F Aa).q fun a w F W => ?_
  refine ls F W Aa (DU (r := (Rp.int .i64)) (l := p0) Lp Aa F Aa (Ai 0 Aa)).q fun a w F W => ?_
  refine ls F W Aa (Df F Aa Aa).q fun a w F W => ?_
  refine Ae (Ac ?_)
  refine Ao F Aa (fun hb => ?_) fun hb => ?_
  ·
   have H := A5 (Bv hb) H
   rw [hb] at F
   clear hb
   refine Au (Ac ?_)
   obtain ⟨o3, G3, K3, L3⟩ := Mo H
   refine AW (fun a w => some (Sum.inl ()) = some o3 ∧ Fr 61 [] [(0, v1), (2, .slice none 0 0), (3, .int .i64 x1)] a ∧ Stw ⟨Y, X, w0⟩ [] [row v1 3 (Rp.int .i64) p0] w) ?_ ?_
   ·
    have H := G3
    clear G3 K3
    refine Ap (Ag ?_)
    refine Cb W MO (by kernel_rfl) ?_
    iterate 2 refine qs F Aa (Af F Aa).q fun a F => ?_
    obtain ⟨x2, h1, H⟩ := Aj H
    refine qs F Aa (Ay (r := (Rp.int .i64)) CK F Aa Aa (Ai 0 Aa) h1).q fun a F => ?_
    refine qs F Aa (Am (y := Value.int .i64 x2) (j := 0) (i := x1) F Aa Aa (Ai 0 Aa) h1 Fl.int.to T3 Aa).q fun a F => ?_
    iterate 2 refine qs F Aa (Af F Aa).q fun a F => ?_
    refine qs F Aa (Cd F Aa Aa Aa).q fun a F => ?_
    obtain ⟨x3, h2, H⟩ := Aj H
    refine qs F Aa (Ay (r := (Rp.int .i64)) CK F Aa Aa (Ai 0 Aa) h2).q fun a F => ?_
    refine qs F Aa (Am (y := Value.int .i64 x3) (j := 0) (i := AJ (x1 - 1)) F Aa Aa (Ai 0 Aa) h2 Fl.int.to T3 Aa).q fun a F => ?_
    refine qs F Aa (BU F Aa Aa).q fun a F => ?_
    refine AX fun w W => ?_
    refine Ac ?_
    refine Ao F Aa (fun hb => ?_) fun hb => ?_
    ·
     have H := A5 (Bv hb) H
     rw [hb] at F
     clear hb
     refine Ag (Ab ?_)
     iterate 2 refine ls F W Aa (Af F Aa).q fun a w F W => ?_
     obtain ⟨x4, h3, H⟩ := Aj H
     refine ls F W Aa (Jz (r := (Rp.int .i64)) CK F Aa Aa Aa (Ai 0 Aa) h3).q fun a w F W => ?_
     refine ls F W Aa (Ad F Aa).q fun a w F W => ?_
     refine Ae (Ac ?_)
     obtain ⟨o4, G4, K4⟩ := Aj H
     refine AW (fun a w => ∃ x5 : List Int, ∃ x6 : Int, some ((x5, x6)) = some o4 ∧ Fr 61 [] [(0, v1), (2, .slice none 0 0), (3, .int .i64 x6)] a ∧ Stw ⟨Y, X, w0⟩ [] [row v1 3 (Rp.int .i64) x5] w) ?_ ?_
     ·
      have H := G4
      clear G4 K4
      refine Ag (Ab ?_)
      refine ls F W Aa (Ad F Aa).q fun a w F W => ?_
      refine Ae (Ac (Ap ?_))
      refine BV H (fun s a w => Fr 61 [] [(0, v1), (2, .slice none 0 0), (3, .int .i64 s.2.1), (4, (CU v1 x1 (p0.length : Int) 1)), (5, .int .i64 s.2.2)] a ∧ Stw ⟨Y, X, w0⟩ [] [row v1 3 (Rp.int .i64) s.1] w) ⟨F.re ⟨rfl, Aa, Aa, Aa, Aa, trivial⟩, W⟩ fun s o a w H L5 hR => ?_
      obtain ⟨x7, x8, x9⟩ := s
      obtain ⟨F, W⟩ := hR
      have F : Fr 61 [] [(0, v1), (2, .slice none 0 0), (3, .int .i64 x8), (4, (CU v1 x1 (p0.length : Int) 1)), (5, .int .i64 x9)] a := F
      have W : Stw ⟨Y, X, w0⟩ [] [row v1 3 (Rp.int .i64) x7] w := W
      rw [BH] at H
      refine Ag (Ag (Ab ?_))
      iterate 2 refine ls F W Aa (Af F Aa).q fun a w F W => ?_
      obtain ⟨x10, h4, H⟩ := Aj H
      refine ls F W Aa (DU (r := (Rp.int .i64)) (l := x10) Lp Aa F Aa (FM (Ai 0 Aa) h4)).q fun a w F W => ?_
      refine ls F W Aa (Df F Aa Aa).q fun a w F W => ?_
      refine Ae (Ac ?_)
      refine Ao F Aa (fun hb => ?_) fun hb => ?_
      ·
       have H := A5 (Bv hb) H
       rw [hb] at F
       clear hb
       refine Au (Ac ?_)
       obtain ⟨o6, G6, K6⟩ := Aj H
       refine AW (fun a w => ∃ x11 : List Int, ∃ x12 : Int, some ((x11, x12)) = some o6 ∧ Fr 61 [] [(0, v1), (2, .slice none 0 0), (3, .int .i64 x12), (4, (CU v1 x1 (p0.length : Int) 1)), (5, .int .i64 x9)] a ∧ Stw ⟨Y, X, w0⟩ [] [row v1 3 (Rp.int .i64) x11] w) ?_ ?_
       ·
        have H := G6
        clear G6 K6
        refine Ap (Ag ?_)
        refine Cb W MO (by kernel_rfl) ?_
        iterate 2 refine qs F Aa (Af F Aa).q fun a F => ?_
        obtain ⟨x13, h5, H⟩ := Aj H
        refine qs F Aa (Ay (r := (Rp.int .i64)) CK F Aa Aa (FM (Ai 0 Aa) h4) h5).q fun a F => ?_
        refine qs F Aa (Am (y := Value.int .i64 x13) (j := 0) (i := x9) F Aa Aa (FM (Ai 0 Aa) h4) h5 Fl.int.to T3 Aa).q fun a F => ?_
        iterate 2 refine qs F Aa (Af F Aa).q fun a F => ?_
        refine qs F Aa (Cd F Aa Aa Aa).q fun a F => ?_
        obtain ⟨x14, h6, H⟩ := Aj H
        refine qs F Aa (Ay (r := (Rp.int .i64)) CK F Aa Aa (FM (Ai 0 Aa) h4) h6).q fun a F => ?_
        refine qs F Aa (Am (y := Value.int .i64 x14) (j := 0) (i := AJ (x9 - 1)) F Aa Aa (FM (Ai 0 Aa) h4) h6 Fl.int.to T3 Aa).q fun a F => ?_
        refine qs F Aa (JT F Aa Aa).q fun a F => ?_
        refine AX fun w W => ?_
        refine Ac ?_
        refine Ao F Aa (fun hb => ?_) fun hb => ?_
        ·
         have H := A5 (Bv hb) H
         rw [hb] at F
         clear hb
         refine Ag (Ab ?_)
         iterate 4 refine ls F W Aa (Af F Aa).q fun a w F W => ?_
         obtain ⟨x15, h7, H⟩ := Aj H
         refine ls F W Aa (Ay (r := (Rp.int .i64)) CK F Aa Aa (FM (Ai 0 Aa) h4) h7).q fun a w F W => ?_
         refine ls F W Aa (Am (y := Value.int .i64 x15) (j := 0) (i := x9) F Aa Aa (FM (Ai 0 Aa) h4) h7 Fl.int.to T3 Aa).q fun a w F W => ?_
         obtain ⟨x16, h8, H⟩ := Aj H
         refine ls F W Aa (Ay (r := (Rp.int .i64)) CK F Aa Aa (Ai 0 Aa) h8).q fun a w F W => ?_
         refine A9 (i := x8) (j := 0) (vs := [.int .i64 x15]) (x' := x15) F W Aa Aa Aa (k := 0) Aa Aa h8 T3 Aa Aa Aa Aa (fun A cs _ => Fl.int.sto (by rfl) _ _ _) fun w W => ?_
         refine Ae (Ac (Ab ?_))
         refine ls F W Aa (Af F Aa).q fun a w F W => ?_
         refine ls F W Aa (BM F Aa Aa Aa).q fun a w F W => ?_
         refine ls F W Aa (Ad F Aa).q fun a w F W => ?_
         refine Ae (A6 (Ac ?_))
         exact ⟨_, _, H, F.re ⟨rfl, Aa, Aa, Aa, Aa, trivial⟩, W⟩
        have H := A3 (Bx hb) H
        rw [hb] at F
        clear hb
        refine Au (A6 (Ac ?_))
        exact ⟨_, _, H, F.re ⟨rfl, Aa, Aa, Aa, Aa, trivial⟩, W⟩
       rintro a w ⟨x11, x12, hj, F, W⟩
       have hj := AV hj
       subst hj
       have H := K6
       clear G6 K6
       refine Ab ?_
       refine ls F W Aa (Af F Aa).q fun a w F W => ?_
       refine ls F W Aa (BM F Aa Aa Aa).q fun a w F W => ?_
       refine ls F W Aa (Ad F Aa).q fun a w F W => ?_
       refine Ae (Ac ?_)
       exact ⟨_, H, F.re ⟨rfl, Aa, Aa, Aa, Aa, trivial⟩, W⟩
      have H := A3 (Bx hb) H
      rw [hb] at F
      clear hb
      refine BK ?_
      iterate 2 refine B7 ?_
      refine BN (Ac ?_)
      have H := L5 _ H
      exact ⟨_, _, H, F.re ⟨rfl, Aa, Aa, trivial⟩, W⟩
     rintro a w ⟨x5, x6, hj, F, W⟩
     have hj := AV hj
     subst hj
     have H := K4
     clear G4 K4
     refine Ag (Ab ?_)
     iterate 2 refine ls F W Aa (Af F Aa).q fun a w F W => ?_
     obtain ⟨x17, h9, H⟩ := Aj H
     refine ls F W Aa (Jz (r := (Rp.int .i64)) CK F Aa Aa Aa (Ai 0 Aa) h9).q fun a w F W => ?_
     obtain ⟨x18, h10, H⟩ := Aj H
     refine My (r := (Rp.int .i64)) (v := v1) (k := 0) (0 : Int) F W CK Z3 Aa Aa Aa h9 (fun w A => Fl.int.mk' w A (0 : Int)) h10 fun w W => ?_
     have W : Stw ⟨Y, X, w0⟩ [] [row v1 3 (Rp.int .i64) x18] w := W
     refine Ae (Ac (Ag (Ab ?_)))
     iterate 2 refine ls F W Aa (Af F Aa).q fun a w F W => ?_
     obtain ⟨x19, h11, H⟩ := Aj H
     refine ls F W Aa (Jz (r := (Rp.int .i64)) CK F Aa Aa Aa (Ai 0 Aa) h11).q fun a w F W => ?_
     refine ls F W Aa (Ad F Aa).q fun a w F W => ?_
     refine Ae (Ac (Aw (A0 ?_)))
     iterate 2 refine A4 ?_
     refine A0 (A4 ?_)
     have H := L3 _ H
     have H := L2 _ H
     have H := L1 _ H
     have H := AV H
     subst H
     refine A2 (.inl Aa) F W Aa (AB F Aa) ?_
     have W := W.subRow (k := 0) Aa Aa h11
     exact ⟨((CU v1 (0 : Int) x6 1)), Aa, W⟩
    have H := A3 (Bx hb) H
    rw [hb] at F
    clear hb
    refine Au (A6 (Ac ?_))
    exact ⟨H, F.re ⟨rfl, Aa, Aa, trivial⟩, W⟩
   rintro a w ⟨hj, F, W⟩
   have H := K3 _ hj
   clear hj G3 K3 L3
   refine Ab ?_
   refine ls F W Aa (Af F Aa).q fun a w F W => ?_
   refine ls F W Aa (BM F Aa Aa Aa).q fun a w F W => ?_
   refine ls F W Aa (Ad F Aa).q fun a w F W => ?_
   refine Ae (Ac ?_)
   exact ⟨_, H, F.re ⟨rfl, Aa, Aa, trivial⟩, W⟩
  have H := A3 (Bx hb) H
  rw [hb] at F
  clear hb
  refine BK ?_
  iterate 2 refine B7 ?_
  refine BN (Ac ?_)
  have H := L2 _ H
  exact ⟨H, F.re ⟨rfl, Aa, trivial⟩, W⟩
 rintro a w ⟨hj, F, W⟩
 have H := K1 _ hj
 clear hj G1 K1 L1
 refine Ag (Ab ?_)
 refine ls F W Aa (Af F Aa).q fun a w F W => ?_
 refine ls F W Aa (Ad F Aa).q fun a w F W => ?_
 refine Ae (Ac (Aw ?_))
 have H := AV H
 subst H
 refine A2 (.inl Aa) F W Aa (AB F Aa) ?_
 exact ⟨(v1), Aa, W⟩
theorem O7 : Has Tryd.prog 43 := ⟨fun args w => Ak Tryd.func43 rfl (by decide) args w⟩
noncomputable def Ez (p0 : Tr31) (p1 : Int) : Option (List Int) := (Fi p0 p1).bind fun x1 => (CL x1).bind fun x2 => (Cw x2).bind fun x3 => some x3
theorem IR (Y : Nat → Prop) (w0 : World) (v1 : Value) (p0 : Tr31) (p1 : Int) (r : List Int) (H : Ez p0 p1 = some r) (h_v1 : Sl w0 (NX []) B4 v1 p0.un.2.2.2) :
    Calls Tryd.prog 26 #[.agg #[.int .i64 p0.un.1, .int .i64 p0.un.2.1, .int .i64 p0.un.2.2.1, v1], .int .i64 p1] w0 fun e w' => ∃ x : Value, e = .returned (x) ∧ Stw ⟨Y, [], w0⟩ [] [row (x) 3 (Rp.int .i64) r] w' := by
 refine enter Tryd.func26 Aa Tryd.ntmps26 Aa fun a F => ?_
 have W := Stw.start Y w0
 obtain ⟨v2, h1, h_v1⟩ := h_v1.ex CA
 unfold Ez at H
 refine Ag (Ab ?_)
 refine Do (cs := [.int .i64 p0.un.1, .int .i64 p0.un.2.1, .int .i64 p0.un.2.2.1, v1]) F W Aa Aa Aa fun b1 a w F W => ?_
 refine ls F W Aa (Ad F Aa).q fun a w F W => ?_
 refine Ae (Ac (Ag (Ab ?_)))
 refine ls F W Aa (As (v := Value.agg #[.int .i64 p0.un.1, .int .i64 p0.un.2.1, .int .i64 p0.un.2.2.1, v1]) 0 F Aa Aa D7 Aa).q fun a w F W => ?_
 refine ls F W Aa (Af F Aa).q fun a w F W => ?_
 obtain ⟨x1, h2, H⟩ := Aj H
 refine BE (Ml := []) (Zl := []) (M := [(b1, [.int .i64 p0.un.1, .int .i64 p0.un.2.1, .int .i64 p0.un.2.2.1, v1])]) (Z := []) (β := Value) (rv := fun x => x) (MM := fun x => []) (ZZ := fun x => [row x 3 (Rp.int .i64) x1]) F W Oz Aa Aa (fun hL => H0 _ w (v1) p0 p1 _ h2 ((Bn CA h1 (AQ h_v1)) w W).nx) fun x a w F W => ?_
 obtain ⟨v3, rfl⟩ : ∃ y, y = x := ⟨x, rfl⟩
 have W : Stw ⟨Y, [], w0⟩ [(b1, [.int .i64 p0.un.1, .int .i64 p0.un.2.1, .int .i64 p0.un.2.2.1, v1])] [row v3 3 (Rp.int .i64) x1] w := W
 refine ls F W Aa (Ad F Aa).q fun a w F W => ?_
 refine Ae (Ac (Ag (Ab ?_)))
 refine ls F W Aa (Af F Aa).q fun a w F W => ?_
 obtain ⟨x2, h3, H⟩ := Aj H
 refine BE (Ml := []) (Zl := [row v3 3 (Rp.int .i64) x1]) (M := [(b1, [.int .i64 p0.un.1, .int .i64 p0.un.2.1, .int .i64 p0.un.2.2.1, v1])]) (Z := []) (β := Unit) (rv := fun x => .tuple #[]) (MM := fun x => []) (ZZ := fun x => [row v3 3 (Rp.int .i64) x2]) F W OL Aa Aa (fun hL => F2 _ _ w (v3) x1 _ h3 hL) fun x a w F W => ?_
 have W : Stw ⟨Y, [], w0⟩ [(b1, [.int .i64 p0.un.1, .int .i64 p0.un.2.1, .int .i64 p0.un.2.2.1, v1])] [row v3 3 (Rp.int .i64) x2] w := W
 refine Ae (Ac (Ag (Ab ?_)))
 refine ls F W Aa (Af F Aa).q fun a w F W => ?_
 obtain ⟨x3, h4, H⟩ := Aj H
 refine BE (Ml := []) (Zl := [row v3 3 (Rp.int .i64) x2]) (M := [(b1, [.int .i64 p0.un.1, .int .i64 p0.un.2.1, .int .i64 p0.un.2.2.1, v1])]) (Z := []) (β := Value) (rv := fun x => x) (MM := fun x => []) (ZZ := fun x => [row x 3 (Rp.int .i64) x3]) F W O7 Aa Aa (fun hL => Fo _ _ w (v3) x2 _ h4 hL) fun x a w F W => ?_
 obtain ⟨v4, rfl⟩ : ∃ y, y = x := ⟨x, rfl⟩
 have W : Stw ⟨Y, [], w0⟩ [(b1, [.int .i64 p0.un.1, .int .i64 p0.un.2.1, .int .i64 p0.un.2.2.1, v1])] [row v4 3 (Rp.int .i64) x3] w := W
 refine ls F W Aa (Ad F Aa).q fun a w F W => ?_
 refine Ae (Ac (Aw ?_))
 have H := AV H
 subst H
 refine A2 (.inl Aa) F W Aa (AB F Aa) ?_
 have W := W.sub (M' := []) (Z' := [row v4 3 (Rp.int .i64) x3]) (List.nil_sublist _) (List.Sublist.refl _)
 exact ⟨(v4), Aa, W⟩
theorem N5 : type_of% Tryd.underlying26 := Tryd.underlying26
theorem O4 : Has Tryd.prog 26 := ⟨fun args w => Ak Tryd.func26 rfl (by decide) args w⟩
theorem MH : Ar Tryd.prog 26 4 3 1 := ⟨N5, by kernel_rfl⟩
noncomputable def Gs (p0 : Int) (p1 : Int) (p2 : Int) (p3 : Int × Int × Int × Int) : Option Int := (if (decide (0 ≤ p0) && decide (p0 < 4)) = true then (ix ([p3.1, p3.2.1, p3.2.2.1, p3.2.2.2] : List Int) p0).bind fun x1 => some x1 else (if p0 = 4 then some p2 else (if p0 = 5 then some p1 else some (-1))))
theorem I8 (Y : Nat → Prop) (w0 : World)  (p0 : Int) (p1 : Int) (p2 : Int) (p3 : Int × Int × Int × Int) (r : Int) (H : Gs p0 p1 p2 p3 = some r)  :
    Calls Tryd.prog 21 #[.int .i64 p0, .int .i64 p1, .int .i64 p2, .agg #[.int .i64 p3.1, .int .i64 p3.2.1, .int .i64 p3.2.2.1, .int .i64 p3.2.2.2]] w0 fun e w' => e = .returned (.int .i64 r) ∧ Below w0.heap.size w0 w' := by
 refine enter Tryd.func21 Aa Tryd.ntmps21 Aa fun a F => ?_
 have W := Stw.start Y w0
 unfold Gs at H
 refine Ag (Ab ?_)
 refine Do (cs := [.int .i64 p3.1, .int .i64 p3.2.1, .int .i64 p3.2.2.1, .int .i64 p3.2.2.2]) F W Aa Aa Aa fun b1 a w F W => ?_
 refine ls F W Aa (Ad F Aa).q fun a w F W => ?_
 refine Ae (Ac (Ag ?_))
 refine AW (fun a w => Fr 24 [] [(0, .int .i64 p0), (1, .int .i64 p1), (2, .int .i64 p2), (7, .pointer (some ⟨b1, 0, none⟩)), (8, .int .i64 0), (14, .bool (decide (0 ≤ p0) && decide (p0 < 4)))] a ∧ Stw ⟨Y, [], w0⟩ [(b1, [.int .i64 p3.1, .int .i64 p3.2.1, .int .i64 p3.2.2.1, .int .i64 p3.2.2.2])] [] w) ?_ ?_
 ·
  refine Ab ?_
  refine ls F W Aa (Af F Aa).q fun a w F W => ?_
  refine ls F W Aa (DT F Aa Aa).q fun a w F W => ?_
  refine ls F W Aa (Af F Aa).q fun a w F W => ?_
  rcases Bool.eq_false_or_eq_true (decide (0 ≤ p0)) with hb0 | hb0
  ·
   rw [hb0] at F
   refine Cm F W (Ah F Aa Aa Aa Aa) Aa (An Aa) (Af F Aa).q fun a w F W => ?_
   refine Cm F W (Ah F Aa Aa Aa Aa) Aa (An Aa) (Df F Aa Aa).q fun a w F W => ?_
   refine ls F W Aa (Bc F Aa Aa Aa).q fun a w F W => ?_
   refine Ae (Ac ?_)
   exact ⟨F.re ⟨rfl, Aa, Aa, Aa, Aa, (by show some (Value.bool (decide (p0 < 4))) = some (Value.bool (decide (0 ≤ p0) && decide (p0 < 4))); try rw [hb0]; all_goals simp only [Bool.not_true, Bool.not_false, Bool.true_and, Bool.false_and, Bool.true_or, Bool.false_or, Bool.and_true, Bool.or_false, cond_true, cond_false]), trivial⟩, W⟩
  rw [hb0] at F
  iterate 2 refine GD F Aa Aa Aa Aa Aa Aa Aa fun a F => ?_
  refine ls F W Aa (AU F Aa Aa Aa).q fun a w F W => ?_
  refine Ae (Ac ?_)
  exact ⟨F.re ⟨rfl, Aa, Aa, Aa, Aa, (by show some (Value.bool false) = some (Value.bool (decide (0 ≤ p0) && decide (p0 < 4))); try rw [hb0]; all_goals simp only [Bool.not_true, Bool.not_false, Bool.true_and, Bool.false_and, Bool.true_or, Bool.false_or, Bool.and_true, Bool.or_false, cond_true, cond_false]), trivial⟩, W⟩
 rintro a w ⟨F, W⟩
 refine Ao F Aa (fun hb => ?_) fun hb => ?_
 ·
  have H := A5 hb H
  rw [hb] at F
  clear hb
  refine Ag (Ab ?_)
  refine ls F W Aa (Af F Aa).q fun a w F W => ?_
  obtain ⟨x1, h1, H⟩ := Aj H
  refine ls F W Aa (JN (0 + (p0).toNat * 1) MH F Aa Aa Aa h1 Aa).q fun a w F W => ?_
  refine ls F W Aa (As (v := Value.int .i64 x1) 0 F Aa Aa T3 (KT (base := 0) (m := 4) (l := [p3.1, p3.2.1, p3.2.2.1, p3.2.2.2]) (enc := Value.int .i64) Aa h1)).q fun a w F W => ?_
  refine ls F W Aa (Ad F Aa).q fun a w F W => ?_
  refine Ae (Ac (Aw (A4 ?_)))
  have H := AV H
  subst H
  refine A2 (.inl Aa) F W Aa (AB F Aa) ?_
  exact ⟨rfl, W.done⟩
 have H := A3 (by rw [hb]; decide) H
 rw [hb] at F
 clear hb
 refine Au (Ac (Ag (Ag (Ab ?_))))
 refine ls F W Aa (Af F Aa).q fun a w F W => ?_
 refine ls F W Aa (BU F Aa Aa).q fun a w F W => ?_
 refine Ae (Ac ?_)
 refine Ao F Aa (fun hb => ?_) fun hb => ?_
 ·
  have H := A5 (Bv hb) H
  rw [hb] at F
  clear hb
  refine Ag (Ab ?_)
  refine ls F W Aa (Af F Aa).q fun a w F W => ?_
  refine ls F W Aa (Ad F Aa).q fun a w F W => ?_
  refine Ae (Ac (Aw (A4 ?_)))
  have H := AV H
  subst H
  refine A2 (.inl Aa) F W Aa (AB F Aa) ?_
  exact ⟨rfl, W.done⟩
 have H := A3 (Bx hb) H
 rw [hb] at F
 clear hb
 refine Au (Ac (Ag (Ag (Ab ?_))))
 refine ls F W Aa (Af F Aa).q fun a w F W => ?_
 refine ls F W Aa (BU F Aa Aa).q fun a w F W => ?_
 refine Ae (Ac ?_)
 refine Ao F Aa (fun hb => ?_) fun hb => ?_
 ·
  have H := A5 (Bv hb) H
  rw [hb] at F
  clear hb
  refine Ag (Ab ?_)
  refine ls F W Aa (Af F Aa).q fun a w F W => ?_
  refine ls F W Aa (Ad F Aa).q fun a w F W => ?_
  refine Ae (Ac (Aw (A4 ?_)))
  have H := AV H
  subst H
  refine A2 (.inl Aa) F W Aa (AB F Aa) ?_
  exact ⟨rfl, W.done⟩
 have H := A3 (Bx hb) H
 rw [hb] at F
 clear hb
 refine Au (Ac (Ag (Ab ?_)))
 refine ls F W Aa (Ad F Aa).q fun a w F W => ?_
 refine Ae (Ac (Aw ?_))
 have H := AV H
 subst H
 refine A2 (.inl Aa) F W Aa (AB F Aa) ?_
 exact ⟨rfl, W.done⟩
theorem Oh : Has Tryd.prog 21 := ⟨fun args w => Ak Tryd.func21 rfl (by decide) args w⟩
noncomputable def C4 (x2 : List Int) (x3 : Int) (x4 : Int) : Int → Option (Int ⊕ (Unit ⊕ (Int ⊕ (Unit ⊕ Bool))))
  | x5 => (if x5 < (x2.length : Int) then (if x3 ≠ x4 then (ix x2 x5).bind fun x7 => (if x3 = x7 then some true else (ix x2 x5).bind fun x8 => some (decide (x4 = x8))) else some false).bind fun x6 => (if x6 = true then some (.inr (.inr (.inr (.inr false)))) else some (.inl (AJ (x5 + 1)))) else some (.inr (.inl ())))
noncomputable def Ed (p0 : Tr31) (p1 : Int) (p2 : Int) (p3 : Int × Int × Int × Int) (p4 : Int) (p5 : Int) (p6 : Int × Int × Int × Int) : Int → Option (Int ⊕ (Unit ⊕ Bool))
  | x1 => (if x1 ≤ 5 then Im ((Ez p0 x1).bind fun x2 => (Gs x1 p1 p2 p3).bind fun x3 => (Gs x1 p4 p5 p6).bind fun x4 => AZ (C4 x2 x3 x4) 0) fun _ => some (.inl (AJ (x1 + 1))) else some (.inr (.inl ())))
noncomputable def Fw (p0 : Tr31) (p1 : Int) (p2 : Int) (p3 : Int × Int × Int × Int) (p4 : Int) (p5 : Int) (p6 : Int × Int × Int × Int) : Option Bool := Im (AZ (Ed p0 p1 p2 p3 p4 p5 p6) 0) fun _ => some true
theorem J0 (Y : Nat → Prop) (w0 : World) (v1 : Value) (p0 : Tr31) (p1 : Int) (p2 : Int) (p3 : Int × Int × Int × Int) (p4 : Int) (p5 : Int) (p6 : Int × Int × Int × Int) (r : Bool) (H : Fw p0 p1 p2 p3 p4 p5 p6 = some r) (h_v1 : Sl w0 (NX []) B4 v1 p0.un.2.2.2) :
    Calls Tryd.prog 30 #[.agg #[.int .i64 p0.un.1, .int .i64 p0.un.2.1, .int .i64 p0.un.2.2.1, v1], .int .i64 p1, .int .i64 p2, .agg #[.int .i64 p3.1, .int .i64 p3.2.1, .int .i64 p3.2.2.1, .int .i64 p3.2.2.2], .int .i64 p4, .int .i64 p5, .agg #[.int .i64 p6.1, .int .i64 p6.2.1, .int .i64 p6.2.2.1, .int .i64 p6.2.2.2]] w0 fun e w' => e = .returned (.bool r) ∧ Below w0.heap.size w0 w' := by
 refine enter Tryd.func30 Aa Tryd.ntmps30 Aa fun a F => ?_
 have W := Stw.start Y w0
 obtain ⟨v2, h1, h_v1⟩ := h_v1.ex CA
 unfold Fw at H
 refine Ag (Ab ?_)
 refine Do (cs := [.int .i64 p0.un.1, .int .i64 p0.un.2.1, .int .i64 p0.un.2.2.1, v1]) F W Aa Aa Aa fun b1 a w F W => ?_
 refine Do (cs := [.int .i64 p3.1, .int .i64 p3.2.1, .int .i64 p3.2.2.1, .int .i64 p3.2.2.2]) F W Aa Aa Aa fun b2 a w F W => ?_
 refine Do (cs := [.int .i64 p6.1, .int .i64 p6.2.1, .int .i64 p6.2.2.1, .int .i64 p6.2.2.2]) F W Aa Aa Aa fun b3 a w F W => ?_
 refine ls F W Aa (Ad F Aa).q fun a w F W => ?_
 refine Ae (Ac ?_)
 obtain ⟨o1, G1, K1, L1⟩ := Mo H
 refine AW (fun a w => some (Sum.inl ()) = some o1 ∧ Fr 62 [] [(14, .bool false)] a ∧ Stw ⟨Y, [], w0⟩ [(b3, [.int .i64 p6.1, .int .i64 p6.2.1, .int .i64 p6.2.2.1, .int .i64 p6.2.2.2]), (b2, [.int .i64 p3.1, .int .i64 p3.2.1, .int .i64 p3.2.2.1, .int .i64 p3.2.2.2]), (b1, [.int .i64 p0.un.1, .int .i64 p0.un.2.1, .int .i64 p0.un.2.2.1, v1])] [] w) ?_ ?_
 ·
  have H := G1
  clear G1 K1
  refine Ag (Ab ?_)
  refine ls F W Aa (Ad F Aa).q fun a w F W => ?_
  refine Ae (Ac (Ap ?_))
  have W := W.frontM (i := 2) Aa Aa
  have W := W.frontM (i := 2) Aa Aa
  have W := W.frontM (i := 2) Aa Aa
  refine BV H (fun s a w => Fr 62 [] [(1, .int .i64 p1), (2, .int .i64 p2), (4, .int .i64 p4), (5, .int .i64 p5), (7, .pointer (some ⟨b1, 0, none⟩)), (10, .pointer (some ⟨b2, 0, none⟩)), (13, .pointer (some ⟨b3, 0, none⟩)), (14, .bool false), (15, .int .i64 s)] a ∧ Stw ⟨Y, [], w0⟩ [(b3, [.int .i64 p6.1, .int .i64 p6.2.1, .int .i64 p6.2.2.1, .int .i64 p6.2.2.2]), (b2, [.int .i64 p3.1, .int .i64 p3.2.1, .int .i64 p3.2.2.1, .int .i64 p3.2.2.2]), (b1, [.int .i64 p0.un.1, .int .i64 p0.un.2.1, .int .i64 p0.un.2.2.1, v1])] [] w) ⟨F.re ⟨rfl, Aa, Aa, Aa, Aa, Aa, Aa, Aa, Aa, trivial⟩, W⟩ fun s o a w H L2 hR => ?_
  obtain ⟨x1, rfl⟩ : ∃ x, x = s := ⟨s, rfl⟩
  obtain ⟨F, W⟩ := hR
  have F : Fr 62 [] [(1, .int .i64 p1), (2, .int .i64 p2), (4, .int .i64 p4), (5, .int .i64 p5), (7, .pointer (some ⟨b1, 0, none⟩)), (10, .pointer (some ⟨b2, 0, none⟩)), (13, .pointer (some ⟨b3, 0, none⟩)), (14, .bool false), (15, .int .i64 x1)] a := F
  have W : Stw ⟨Y, [], w0⟩ [(b3, [.int .i64 p6.1, .int .i64 p6.2.1, .int .i64 p6.2.2.1, .int .i64 p6.2.2.2]), (b2, [.int .i64 p3.1, .int .i64 p3.2.1, .int .i64 p3.2.2.1, .int .i64 p3.2.2.2]), (b1, [.int .i64 p0.un.1, .int .i64 p0.un.2.1, .int .i64 p0.un.2.2.1, v1])] [] w := W
  rw [Ed] at H
  refine Ag (Ag (Ab ?_))
  refine ls F W Aa (Af F Aa).q fun a w F W => ?_
  refine ls F W Aa (FC F Aa Aa).q fun a w F W => ?_
  refine Ae (Ac ?_)
  refine Ao F Aa (fun hb => ?_) fun hb => ?_
  ·
   have H := A5 (Bv hb) H
   rw [hb] at F
   clear hb
   refine Au (Ac ?_)
   obtain ⟨o3, G3, K3, L3⟩ := Mo H
   refine AW (fun a w => some (Sum.inl ()) = some o3 ∧ Fr 62 [] [(1, .int .i64 p1), (2, .int .i64 p2), (4, .int .i64 p4), (5, .int .i64 p5), (7, .pointer (some ⟨b1, 0, none⟩)), (10, .pointer (some ⟨b2, 0, none⟩)), (13, .pointer (some ⟨b3, 0, none⟩)), (14, .bool false), (15, .int .i64 x1)] a ∧ Stw ⟨Y, [], w0⟩ [(b3, [.int .i64 p6.1, .int .i64 p6.2.1, .int .i64 p6.2.2.1, .int .i64 p6.2.2.2]), (b2, [.int .i64 p3.1, .int .i64 p3.2.1, .int .i64 p3.2.2.1, .int .i64 p3.2.2.2]), (b1, [.int .i64 p0.un.1, .int .i64 p0.un.2.1, .int .i64 p0.un.2.2.1, v1])] [] w) ?_ ?_
   ·
    have H := G3
    clear G3 K3
    refine Ap (Ag (Ab ?_))
    refine ls F W Aa (As (v := Value.agg #[.int .i64 p0.un.1, .int .i64 p0.un.2.1, .int .i64 p0.un.2.2.1, v1]) 2 F Aa Aa D7 Aa).q fun a w F W => ?_
    refine ls F W Aa (Af F Aa).q fun a w F W => ?_
    obtain ⟨x2, h2, H⟩ := Aj H
    refine BE (Ml := []) (Zl := []) (M := [(b3, [.int .i64 p6.1, .int .i64 p6.2.1, .int .i64 p6.2.2.1, .int .i64 p6.2.2.2]), (b2, [.int .i64 p3.1, .int .i64 p3.2.1, .int .i64 p3.2.2.1, .int .i64 p3.2.2.2]), (b1, [.int .i64 p0.un.1, .int .i64 p0.un.2.1, .int .i64 p0.un.2.2.1, v1])]) (Z := []) (β := Value) (rv := fun x => x) (MM := fun x => []) (ZZ := fun x => [row x 3 (Rp.int .i64) x2]) F W O4 Aa Aa (fun hL => IR _ w (v1) p0 x1 _ h2 ((Bn CA h1 (AQ h_v1)) w W).nx) fun x a w F W => ?_
    obtain ⟨v3, rfl⟩ : ∃ y, y = x := ⟨x, rfl⟩
    have W : Stw ⟨Y, [], w0⟩ [(b3, [.int .i64 p6.1, .int .i64 p6.2.1, .int .i64 p6.2.2.1, .int .i64 p6.2.2.2]), (b2, [.int .i64 p3.1, .int .i64 p3.2.1, .int .i64 p3.2.2.1, .int .i64 p3.2.2.2]), (b1, [.int .i64 p0.un.1, .int .i64 p0.un.2.1, .int .i64 p0.un.2.2.1, v1])] [row v3 3 (Rp.int .i64) x2] w := W
    refine ls F W Aa (Ad F Aa).q fun a w F W => ?_
    refine Ae (Ac (Ag ?_))
    refine Cb W MO (by kernel_rfl) ?_
    iterate 3 refine qs F Aa (Af F Aa).q fun a F => ?_
    refine qs F Aa (As (v := Value.agg #[.int .i64 p3.1, .int .i64 p3.2.1, .int .i64 p3.2.2.1, .int .i64 p3.2.2.2]) 1 F Aa Aa Mk Aa).q fun a F => ?_
    obtain ⟨x3, h3, H⟩ := Aj H
    refine qs F Aa (Be (v := Value.int .i64 x3) F Oh Aa (fun w W => I8 any w x1 p1 p2 p3 _ h3)) fun a F => ?_
    iterate 3 refine qs F Aa (Af F Aa).q fun a F => ?_
    refine qs F Aa (As (v := Value.agg #[.int .i64 p6.1, .int .i64 p6.2.1, .int .i64 p6.2.2.1, .int .i64 p6.2.2.2]) 0 F Aa Aa Mk Aa).q fun a F => ?_
    obtain ⟨x4, h4, H⟩ := Aj H
    refine qs F Aa (Be (v := Value.int .i64 x4) F Oh Aa (fun w W => I8 any w x1 p4 p5 p6 _ h4)) fun a F => ?_
    iterate 2 refine qs F Aa (Ad F Aa).q fun a F => ?_
    refine AX fun w W => ?_
    refine Ac (Ag (Ab ?_))
    refine ls F W Aa (Ad F Aa).q fun a w F W => ?_
    refine Ae (Ac (Ap ?_))
    have W := W.frontM (i := 2) Aa Aa
    have W := W.frontM (i := 2) Aa Aa
    have W := W.frontM (i := 2) Aa Aa
    refine BV H (fun s a w => Fr 62 [] [(1, .int .i64 p1), (2, .int .i64 p2), (4, .int .i64 p4), (5, .int .i64 p5), (7, .pointer (some ⟨b1, 0, none⟩)), (10, .pointer (some ⟨b2, 0, none⟩)), (13, .pointer (some ⟨b3, 0, none⟩)), (14, .bool false), (15, .int .i64 x1), (16, v3), (17, .int .i64 x3), (18, .int .i64 x4), (19, .int .i64 s)] a ∧ Stw ⟨Y, [], w0⟩ [(b3, [.int .i64 p6.1, .int .i64 p6.2.1, .int .i64 p6.2.2.1, .int .i64 p6.2.2.2]), (b2, [.int .i64 p3.1, .int .i64 p3.2.1, .int .i64 p3.2.2.1, .int .i64 p3.2.2.2]), (b1, [.int .i64 p0.un.1, .int .i64 p0.un.2.1, .int .i64 p0.un.2.2.1, v1])] [row v3 3 (Rp.int .i64) x2] w) ⟨F.re ⟨rfl, Aa, Aa, Aa, Aa, Aa, Aa, Aa, Aa, Aa, Aa, Aa, Aa, trivial⟩, W⟩ fun s o a w H L4 hR => ?_
    obtain ⟨x5, rfl⟩ : ∃ x, x = s := ⟨s, rfl⟩
    obtain ⟨F, W⟩ := hR
    have F : Fr 62 [] [(1, .int .i64 p1), (2, .int .i64 p2), (4, .int .i64 p4), (5, .int .i64 p5), (7, .pointer (some ⟨b1, 0, none⟩)), (10, .pointer (some ⟨b2, 0, none⟩)), (13, .pointer (some ⟨b3, 0, none⟩)), (14, .bool false), (15, .int .i64 x1), (16, v3), (17, .int .i64 x3), (18, .int .i64 x4), (19, .int .i64 x5)] a := F
    have W : Stw ⟨Y, [], w0⟩ [(b3, [.int .i64 p6.1, .int .i64 p6.2.1, .int .i64 p6.2.2.1, .int .i64 p6.2.2.2]), (b2, [.int .i64 p3.1, .int .i64 p3.2.1, .int .i64 p3.2.2.1, .int .i64 p3.2.2.2]), (b1, [.int .i64 p0.un.1, .int .i64 p0.un.2.1, .int .i64 p0.un.2.2.1, v1])] [row v3 3 (Rp.int .i64) x2] w := W
    rw [C4] at H
    refine Ag (Ag (Ab ?_))
    iterate 2 refine ls F W Aa (Af F Aa).q fun a w F W => ?_
    refine ls F W Aa (DU (r := (Rp.int .i64)) (l := x2) Lp Aa F Aa (Ai 0 Aa)).q fun a w F W => ?_
    refine ls F W Aa (Df F Aa Aa).q fun a w F W => ?_
    refine Ae (Ac ?_)
    refine Ao F Aa (fun hb => ?_) fun hb => ?_
    ·
     have H := A5 (Bv hb) H
     rw [hb] at F
     clear hb
     refine Au (Ac (Ag (Ap ?_)))
     obtain ⟨o5, G5, K5⟩ := Aj H
     refine AW (fun a w => ∃ x6 : Bool, some (x6) = some o5 ∧ Fr 62 [] [(1, .int .i64 p1), (2, .int .i64 p2), (4, .int .i64 p4), (5, .int .i64 p5), (7, .pointer (some ⟨b1, 0, none⟩)), (10, .pointer (some ⟨b2, 0, none⟩)), (13, .pointer (some ⟨b3, 0, none⟩)), (14, .bool false), (15, .int .i64 x1), (16, v3), (17, .int .i64 x3), (18, .int .i64 x4), (19, .int .i64 x5), (61, .bool x6)] a ∧ Stw ⟨Y, [], w0⟩ [(b3, [.int .i64 p6.1, .int .i64 p6.2.1, .int .i64 p6.2.2.1, .int .i64 p6.2.2.2]), (b2, [.int .i64 p3.1, .int .i64 p3.2.1, .int .i64 p3.2.2.1, .int .i64 p3.2.2.2]), (b1, [.int .i64 p0.un.1, .int .i64 p0.un.2.1, .int .i64 p0.un.2.2.1, v1])] [row v3 3 (Rp.int .i64) x2] w) ?_ ?_
     ·
      have H := G5
      clear G5 K5
      refine Ab ?_
      iterate 2 refine ls F W Aa (Af F Aa).q fun a w F W => ?_
      refine ls F W Aa (JT F Aa Aa).q fun a w F W => ?_
      refine ls F W Aa (Af F Aa).q fun a w F W => ?_
      rcases Bool.eq_false_or_eq_true (decide (x3 ≠ x4)) with hb | hb
      ·
       have H := A5 (Bv hb) H
       rw [hb] at F
       clear hb
       iterate 3 refine Cm F W (Ah F Aa Aa Aa Aa) Aa (An Aa) (Af F Aa).q fun a w F W => ?_
       obtain ⟨x7, h5, H⟩ := Aj H
       refine Cm F W (Ah F Aa Aa Aa Aa) Aa (An Aa) (Ay (r := (Rp.int .i64)) CK F Aa Aa (Ai 0 Aa) h5).q fun a w F W => ?_
       refine Cm F W (Ah F Aa Aa Aa Aa) Aa (An Aa) (Am (y := Value.int .i64 x7) (j := 0) (i := x5) F Aa Aa (Ai 0 Aa) h5 Fl.int.to T3 Aa).q fun a w F W => ?_
       refine Cm F W (Ah F Aa Aa Aa Aa) Aa (An Aa) (BU F Aa Aa).q fun a w F W => ?_
       refine Cm F W (Ah F Aa Aa Aa Aa) Aa (An Aa) (Af F Aa).q fun a w F W => ?_
       rcases Bool.eq_false_or_eq_true (decide (x3 = x7)) with hb | hb
       ·
        have H := A5 (Bv hb) H
        rw [hb] at F
        clear hb
        iterate 6 refine GD F Aa Aa Aa Aa Aa Aa Aa fun a F => ?_
        refine Cm F W (Ah F Aa Aa Aa Aa) Aa (An Aa) (Bc F Aa Aa Aa).q fun a w F W => ?_
        refine ls F W Aa (Bc F Aa Aa Aa).q fun a w F W => ?_
        refine Ae (Ac ?_)
        have W := W.frontM (i := 2) Aa Aa
        have W := W.frontM (i := 2) Aa Aa
        have W := W.frontM (i := 2) Aa Aa
        exact ⟨_, H, F.re ⟨rfl, Aa, Aa, Aa, Aa, Aa, Aa, Aa, Aa, Aa, Aa, Aa, Aa, Aa, trivial⟩, W⟩
       have H := A3 (Bx hb) H
       rw [hb] at F
       clear hb
       iterate 3 refine Cm F W (Ah F Aa Aa Aa Aa) Aa (An Aa) (Af F Aa).q fun a w F W => ?_
       obtain ⟨x8, h6, H⟩ := Aj H
       refine Cm F W (Ah F Aa Aa Aa Aa) Aa (An Aa) (Ay (r := (Rp.int .i64)) CK F Aa Aa (Ai 0 Aa) h6).q fun a w F W => ?_
       refine Cm F W (Ah F Aa Aa Aa Aa) Aa (An Aa) (Am (y := Value.int .i64 x8) (j := 0) (i := x5) F Aa Aa (Ai 0 Aa) h6 Fl.int.to T3 Aa).q fun a w F W => ?_
       refine Cm F W (Ah F Aa Aa Aa Aa) Aa (An Aa) (BU F Aa Aa).q fun a w F W => ?_
       refine Cm F W (Ah F Aa Aa Aa Aa) Aa (An Aa) (AU F Aa Aa Aa).q fun a w F W => ?_
       refine ls F W Aa (Bc F Aa Aa Aa).q fun a w F W => ?_
       refine Ae (Ac ?_)
       have W := W.frontM (i := 2) Aa Aa
       have W := W.frontM (i := 2) Aa Aa
       have W := W.frontM (i := 2) Aa Aa
       exact ⟨_, H, F.re ⟨rfl, Aa, Aa, Aa, Aa, Aa, Aa, Aa, Aa, Aa, Aa, Aa, Aa, Aa, trivial⟩, W⟩
      have H := A3 (Bx hb) H
      rw [hb] at F
      clear hb
      iterate 7 refine GD F Aa Aa Aa Aa Aa Aa Aa fun a F => ?_
      iterate 6 refine OU F Aa Aa Aa Aa Aa Aa fun a F => ?_
      refine GD F Aa Aa Aa Aa Aa Aa Aa fun a F => ?_
      refine ls F W Aa (AU F Aa Aa Aa).q fun a w F W => ?_
      refine Ae (Ac ?_)
      have W := W.frontM (i := 2) Aa Aa
      have W := W.frontM (i := 2) Aa Aa
      have W := W.frontM (i := 2) Aa Aa
      exact ⟨_, H, F.re ⟨rfl, Aa, Aa, Aa, Aa, Aa, Aa, Aa, Aa, Aa, Aa, Aa, Aa, Aa, trivial⟩, W⟩
     rintro a w ⟨x6, hj, F, W⟩
     have hj := AV hj
     subst hj
     have H := K5
     clear G5 K5
     refine Ao F Aa (fun hb => ?_) fun hb => ?_
     ·
      have H := A5 hb H
      rw [hb] at F
      clear hb
      refine Ag (Ab ?_)
      refine ls F W Aa (Ad F Aa).q fun a w F W => ?_
      refine Ae (Ac (Aw (A0 ?_)))
      iterate 2 refine A4 ?_
      iterate 2 refine A0 ?_
      iterate 2 refine A4 ?_
      refine A0 (A4 ?_)
      have H := L4 _ H
      have H := L3 _ H
      have H := L2 _ H
      have H := L1 _ H
      have H := AV H
      subst H
      refine A2 (.inl Aa) F W Aa (AB F Aa) ?_
      exact ⟨rfl, W.done⟩
     have H := A3 (by rw [hb]; decide) H
     rw [hb] at F
     clear hb
     refine Au (A6 (Ac (Ab ?_)))
     refine ls F W Aa (Af F Aa).q fun a w F W => ?_
     refine ls F W Aa (BM F Aa Aa Aa).q fun a w F W => ?_
     refine ls F W Aa (Ad F Aa).q fun a w F W => ?_
     refine Ae (Ac ?_)
     have W := W.frontM (i := 2) Aa Aa
     have W := W.frontM (i := 2) Aa Aa
     have W := W.frontM (i := 2) Aa Aa
     exact ⟨_, H, F.re ⟨rfl, Aa, Aa, Aa, Aa, Aa, Aa, Aa, Aa, Aa, Aa, Aa, Aa, trivial⟩, W⟩
    have H := A3 (Bx hb) H
    rw [hb] at F
    clear hb
    refine BK ?_
    iterate 2 refine B7 ?_
    refine BN (A6 (Ac ?_))
    have W := W.frontM (i := 2) Aa Aa
    have W := W.frontM (i := 2) Aa Aa
    have W := W.frontM (i := 2) Aa Aa
    have W := W.sub (M' := [(b3, [.int .i64 p6.1, .int .i64 p6.2.1, .int .i64 p6.2.2.1, .int .i64 p6.2.2.2]), (b2, [.int .i64 p3.1, .int .i64 p3.2.1, .int .i64 p3.2.2.1, .int .i64 p3.2.2.2]), (b1, [.int .i64 p0.un.1, .int .i64 p0.un.2.1, .int .i64 p0.un.2.2.1, v1])]) (Z' := []) (List.Sublist.refl _) (List.nil_sublist _)
    have H := L4 _ H
    exact ⟨H, F.re ⟨rfl, Aa, Aa, Aa, Aa, Aa, Aa, Aa, Aa, trivial⟩, W⟩
   rintro a w ⟨hj, F, W⟩
   have H := K3 _ hj
   clear hj G3 K3 L3
   refine Ab ?_
   refine ls F W Aa (Af F Aa).q fun a w F W => ?_
   refine ls F W Aa (BM F Aa Aa Aa).q fun a w F W => ?_
   refine ls F W Aa (Ad F Aa).q fun a w F W => ?_
   refine Ae (Ac ?_)
   have W := W.frontM (i := 2) Aa Aa
   have W := W.frontM (i := 2) Aa Aa
   have W := W.frontM (i := 2) Aa Aa
   exact ⟨_, H, F.re ⟨rfl, Aa, Aa, Aa, Aa, Aa, Aa, Aa, Aa, trivial⟩, W⟩
  have H := A3 (Bx hb) H
  rw [hb] at F
  clear hb
  refine BK ?_
  iterate 2 refine B7 ?_
  refine BN (Ac ?_)
  have W := W.frontM (i := 2) Aa Aa
  have W := W.frontM (i := 2) Aa Aa
  have W := W.frontM (i := 2) Aa Aa
  have H := L2 _ H
  exact ⟨H, F.re ⟨rfl, trivial⟩, W⟩
 rintro a w ⟨hj, F, W⟩
 have H := K1 _ hj
 clear hj G1 K1 L1
 refine Ag (Ab ?_)
 refine ls F W Aa (Ad F Aa).q fun a w F W => ?_
 refine Ae (Ac (Aw ?_))
 have H := AV H
 subst H
 refine A2 (.inl Aa) F W Aa (AB F Aa) ?_
 exact ⟨rfl, W.done⟩
theorem OY : Has Tryd.prog 30 := ⟨fun args w => Ak Tryd.func30 rfl (by decide) args w⟩
theorem NN : Has Tryd.prog 23 := ⟨fun args w => Ak Tryd.func23 rfl (by decide) args w⟩
theorem Ok : Has Tryd.prog 39 := ⟨fun args w => Ak Tryd.func39 rfl (by decide) args w⟩
noncomputable def CP (fRec_pred_negated : Tr31 → Option Tr31) (p0 : List Tr31) : (List Tr31 × Int) → Option ((List Tr31 × Int) ⊕ (List Tr31))
  | (x2, x3) => (if x3 < (p0.length : Int) then (ix p0 x3).bind fun x4 => (fRec_pred_negated x4).bind fun x5 => (HC x2 ([x5] : List Tr31)).bind fun x6 => some (.inl (x6, AJ (x3 + 1))) else some (.inr x2))
noncomputable def DQ (fRec_pred_negated : Tr31 → Option Tr31) (p0 : List Tr31) : Option (List Tr31) := (AZ (CP fRec_pred_negated p0) ([], 0)).bind fun x1 => some x1
theorem HI (fRec_pred_negated : Tr31 → Option Tr31) (ih_pred_negated : ∀ (Y : Nat → Prop) (w0 : World) (v1 : Value) (p0 : Tr31) (r : Tr31) (H : fRec_pred_negated p0 = some r) (h_v1 : Sl w0 (NX []) B4 v1 p0.un.2.2.2), Calls Tryd.prog 39 #[.agg #[.int .i64 p0.un.1, .int .i64 p0.un.2.1, .int .i64 p0.un.2.2.1, v1]] w0 fun e w' => ∃ x : Value, e = .returned (.agg #[.int .i64 r.un.1, .int .i64 r.un.2.1, .int .i64 r.un.2.2.1, x]) ∧ Stw ⟨Y, [], w0⟩ [] [row (x) 31 B4 r.un.2.2.2] w') (Y : Nat → Prop) (w0 : World) (v1 : Value) (p0 : List Tr31) (r : List Tr31) (H : DQ fRec_pred_negated p0 = some r) (h_v1 : Sl w0 (NX []) B4 v1 p0) :
    Calls Tryd.prog 40 #[v1, .func (.func 39) #[] #[]] w0 fun e w' => ∃ x : Value, e = .returned (x) ∧ Stw ⟨Y, [], w0⟩ [] [row (x) 31 B4 r] w' := by
 refine enter Tryd.func40 Aa Tryd.ntmps40 Aa fun a F => ?_
 have W := Stw.start Y w0
 obtain ⟨v2, h1, h_v1⟩ := h_v1.ex CA
 unfold DQ at H
 refine Ag (Ab ?_)
 refine ls F W Aa (Ad F Aa).q fun a w F W => ?_
 refine Ae (Ac (Ag (Ab ?_)))
 refine ls F W Aa (Ad F Aa).q fun a w F W => ?_
 refine Ae (Ac ?_)
 obtain ⟨o1, G1, K1⟩ := Aj H
 refine AW (fun a w => ∃ x1 : List Tr31, ∃ v3 : Value, some (x1) = some o1 ∧ Fr 22 [] [(4, .slice none 0 0), (5, v3)] a ∧ Stw ⟨Y, [], w0⟩ [] [row v3 31 B4 x1] w) ?_ ?_
 ·
  have H := G1
  clear G1 K1
  refine Ag (Ab ?_)
  refine ls F W Aa (Af F Aa).q fun a w F W => ?_
  refine ls F W Aa (DU (r := B4) (l := p0) GC Aa F Aa (Bn CA h1 (AQ h_v1))).q fun a w F W => ?_
  refine ls F W Aa (Af F Aa).q fun a w F W => ?_
  refine Ae (Ac (Ap ?_))
  have W := W.nilRow 31 B4
  refine BV H (fun s a w => ∃ v4 : Value, Fr 22 [] [(1, .func (.func 39) #[] #[]), (4, .slice none 0 0), (5, v4), (8, v1), (9, .int .i64 (p0.length : Int)), (10, .int .i64 s.2)] a ∧ Stw ⟨Y, [], w0⟩ [] [row v4 31 B4 s.1] w) ⟨(Value.slice none 0 0), F.re ⟨rfl, Aa, Aa, Aa, Aa, Aa, trivial⟩, W⟩ fun s o a w H L2 hR => ?_
  obtain ⟨x2, x3⟩ := s
  obtain ⟨v4, F, W⟩ := hR
  have F : Fr 22 [] [(1, .func (.func 39) #[] #[]), (4, .slice none 0 0), (5, v4), (8, v1), (9, .int .i64 (p0.length : Int)), (10, .int .i64 x3)] a := F
  have W : Stw ⟨Y, [], w0⟩ [] [row v4 31 B4 x2] w := W
  rw [CP] at H
  refine Ag (Ab ?_)
  refine ls F W Aa (Df F Aa Aa).q fun a w F W => ?_
  refine Ae (Ac (Ag ?_))
  refine Ao F Aa (fun hb => ?_) fun hb => ?_
  ·
   have H := A5 (Bv hb) H
   rw [hb] at F
   clear hb
   refine Au (Ac (Ag (Ap (Ag ?_))))
   obtain ⟨v5, h2, W⟩ := W.exR CA
   refine Ab ?_
   obtain ⟨x4, h3, H⟩ := Aj H
   obtain ⟨v6, h4, h5⟩ := FV h1 h3
   have h6 : Fp v6 = [.int .i64 x4.un.1, .int .i64 x4.un.2.1, .int .i64 x4.un.2.2.1, (v6.2.2.2.1)] := congrArg (fun q : Tr31 => ([.int .i64 q.un.1, .int .i64 q.un.2.1, .int .i64 q.un.2.2.1, (v6.2.2.2.1)] : List Value)) h5
   refine ls F W Aa (Ay (r := FZ) Ji F Aa Aa (AQ h_v1) h4).q fun a w F W => ?_
   refine ls F W Aa (Am (y := Value.agg #[.int .i64 x4.un.1, .int .i64 x4.un.2.1, .int .i64 x4.un.2.2.1, (v6.2.2.2.1)]) (j := 0) (i := x3) (enc := Fp) F Aa Aa (AQ h_v1) h4 IU D7 (by rw [h6]; rfl)).q fun a w F W => ?_
   refine C8 (cs := [.int .i64 0, .int .i64 0, .int .i64 0, .slice none 0 0]) F W Aa JD Aa fun b1 a w F W => ?_
   refine Cl (vs := [.int .i64 x4.un.1, .int .i64 x4.un.2.1, .int .i64 x4.un.2.2.1, (v6.2.2.2.1)]) (M' := [(b1, [.int .i64 x4.un.1, .int .i64 x4.un.2.1, .int .i64 x4.un.2.2.1, (v6.2.2.2.1)])]) 0 F W Aa Aa Aa D7 Aa Aa Aa (AK Aa (AK Aa (AK Aa (AK ((DV (AQ h_v1) h4 (Cg.snd (Cg.snd (Cg.snd Cg.here))) (congrArg (fun q : Tr31 => q.un.2.2.2) h5)) _ W).one DI)))) Aa fun w W => ?_
   refine Ae (Ac (Ab ?_))
   iterate 2 refine ls F W Aa (Af F Aa).q fun a w F W => ?_
   refine ls F W Aa (As (v := Value.agg #[.int .i64 x4.un.1, .int .i64 x4.un.2.1, .int .i64 x4.un.2.2.1, (v6.2.2.2.1)]) 0 F Aa Aa D7 Aa).q fun a w F W => ?_
   obtain ⟨x5, h7, H⟩ := Aj H
   refine Ki (ws := [.agg #[.int .i64 x4.un.1, .int .i64 x4.un.2.1, .int .i64 x4.un.2.2.1, (v6.2.2.2.1)]]) (Ml := []) (Zl := []) (M := [(b1, [.int .i64 x4.un.1, .int .i64 x4.un.2.1, .int .i64 x4.un.2.2.1, (v6.2.2.2.1)])]) (Z := [row v4 31 FZ v5]) (β := Value) (rv := fun x => .agg #[.int .i64 x5.un.1, .int .i64 x5.un.2.1, .int .i64 x5.un.2.2.1, x]) (MM := fun x => []) (ZZ := fun x => [row x 31 B4 x5.un.2.2.2]) F W Ok Aa Aa (fun hL => ih_pred_negated _ w ((v6.2.2.2.1)) x4 _ h7 ((DV (AQ h_v1) h4 (Cg.snd (Cg.snd (Cg.snd Cg.here))) (congrArg (fun q : Tr31 => q.un.2.2.2) h5)) w W).nx) fun x a w F W => ?_
   obtain ⟨v7, rfl⟩ : ∃ y, y = x := ⟨x, rfl⟩
   have W : Stw ⟨Y, [], w0⟩ [(b1, [.int .i64 x4.un.1, .int .i64 x4.un.2.1, .int .i64 x4.un.2.2.1, (v6.2.2.2.1)])] [row v7 31 B4 x5.un.2.2.2, row v4 31 FZ v5] w := W
   have W := W.freeze
   refine Hx (z := Value.agg #[.int .i64 0, .int .i64 0, .int .i64 0, .slice none 0 0]) (cs := [.int .i64 x5.un.1, .int .i64 x5.un.2.1, .int .i64 x5.un.2.2.1, v7]) B4 ([x5] : List Tr31) F W Aa Ji JD Aa Aa Aa (Ct Aa Aa Aa DN) Aa Aa ⟨[Value.int .i64 x5.un.1, Value.int .i64 x5.un.2.1, Value.int .i64 x5.un.2.2.1, v7], _, Aa, (KD.2 ⟨[Value.int .i64 x5.un.1], [Value.int .i64 x5.un.2.1, Value.int .i64 x5.un.2.2.1, v7], Aa, Aa, ⟨[Value.int .i64 x5.un.2.1], [Value.int .i64 x5.un.2.2.1, v7], Aa, Aa, ⟨[Value.int .i64 x5.un.2.2.1], [v7], Aa, Aa, ⟨_, Aa, (W.item (i := 0) Aa)⟩⟩⟩⟩), Aa⟩ fun v8 a w F W => ?_
   have W := W.frontZ (i := 2) Aa Aa
   have W := W.hideR CA h2
   obtain ⟨x6, h8, H⟩ := Aj H
   refine FG (r := B4) (i := 0) F W Aa Ji Aa Aa Aa Aa (Gv W 1 Aa) h8 Aa fun v9 a w F W => ?_
   have W : Stw ⟨Y, [], w0⟩ [(b1, [.int .i64 x4.un.1, .int .i64 x4.un.2.1, .int .i64 x4.un.2.2.1, (v6.2.2.2.1)])] [row v9 31 B4 x6, row v8 31 B4 ([x5] : List Tr31), Mx v7 B4 x5.un.2.2.2] w := W
   refine ls F W Aa (Ad F Aa).q fun a w F W => ?_
   refine Ae (A6 (Ac (Ab ?_)))
   refine ls F W Aa (BM F Aa Aa Aa).q fun a w F W => ?_
   refine ls F W Aa (Af F Aa).q fun a w F W => ?_
   refine Ae (Ac ?_)
   have W := W.sub (M' := []) (Z' := [row v9 31 B4 x6]) (List.nil_sublist _) (List.Sublist.cons_cons _ (List.nil_sublist _))
   exact ⟨_, H, (v9), F.re ⟨rfl, Aa, Aa, Aa, Aa, Aa, trivial⟩, W⟩
  have H := A3 (Bx hb) H
  rw [hb] at F
  clear hb
  refine BK ?_
  iterate 2 refine B7 ?_
  refine BN (Ac ?_)
  have H := L2 _ H
  exact ⟨_, (v4), H, F.re ⟨rfl, Aa, trivial⟩, W⟩
 rintro a w ⟨x1, v3, hj, F, W⟩
 have hj := AV hj
 subst hj
 have H := K1
 clear G1 K1
 refine Ag (Ab ?_)
 refine ls F W Aa (Af F Aa).q fun a w F W => ?_
 refine ls F W Aa (Ad F Aa).q fun a w F W => ?_
 refine Ae (Ac (Aw ?_))
 have H := AV H
 subst H
 refine A2 (.inl Aa) F W Aa (AB F Aa) ?_
 exact ⟨(v3), Aa, W⟩
theorem NT : Has Tryd.prog 40 := ⟨fun args w => Ak Tryd.func40 rfl (by decide) args w⟩
noncomputable def Cy (fRec_pred_Push : Tr31 → Option Tr31) (fRec : Tr31 → Option Tr31) (p0 : Tr31) : Option Tr31 := (if p0.un.1 = 1 then some (Tr31.of (2, 0, 0, ([] : List Tr31))) else (if p0.un.1 = 2 then some (Tr31.of (1, 0, 0, ([] : List Tr31))) else (if (decide (p0.un.1 = 4) && decide (0 < (p0.un.2.2.2.length : Int))) = true then (ix p0.un.2.2.2 0).bind fun x1 => (fRec_pred_Push x1).bind fun x2 => some x2 else (if p0.un.1 = 5 then ((DQ fRec) p0.un.2.2.2).bind fun x3 => some (Tr31.of (6, 0, 0, x3)) else (if p0.un.1 = 6 then ((DQ fRec) p0.un.2.2.2).bind fun x4 => some (Tr31.of (5, 0, 0, x4)) else (fRec_pred_Push p0).bind fun x5 => some (Tr31.of (4, 0, 0, ([x5] : List Tr31))))))))
noncomputable def Cx (fRec_pred_Push : Tr31 → Option Tr31) : Nat → Tr31 → Option Tr31
  | 0 => fun _ => none
  | n + 1 => Cy fRec_pred_Push (Cx fRec_pred_Push n)
noncomputable def Ea (fRec_pred_Push : Tr31 → Option Tr31) (p0 : Tr31) : Option Tr31 := GN fun n => Cx fRec_pred_Push n p0
theorem Hn (fRec_pred_Push : Tr31 → Option Tr31) (ih_pred_Push : ∀ (Y : Nat → Prop) (w0 : World) (v1 : Value) (p0 : Tr31) (r : Tr31) (H : fRec_pred_Push p0 = some r) (h_v1 : Sl w0 (NX []) B4 v1 p0.un.2.2.2), Calls Tryd.prog 23 #[.agg #[.int .i64 p0.un.1, .int .i64 p0.un.2.1, .int .i64 p0.un.2.2.1, v1]] w0 fun e w' => ∃ x : Value, e = .returned (.agg #[.int .i64 r.un.1, .int .i64 r.un.2.1, .int .i64 r.un.2.2.1, x]) ∧ Stw ⟨Y, [], w0⟩ [] [row (x) 31 B4 r.un.2.2.2] w') (fRec : Tr31 → Option Tr31) (ih : ∀ (Y : Nat → Prop) (w0 : World) (v1 : Value) (p0 : Tr31) (r : Tr31) (H : fRec p0 = some r) (h_v1 : Sl w0 (NX []) B4 v1 p0.un.2.2.2), Calls Tryd.prog 39 #[.agg #[.int .i64 p0.un.1, .int .i64 p0.un.2.1, .int .i64 p0.un.2.2.1, v1]] w0 fun e w' => ∃ x : Value, e = .returned (.agg #[.int .i64 r.un.1, .int .i64 r.un.2.1, .int .i64 r.un.2.2.1, x]) ∧ Stw ⟨Y, [], w0⟩ [] [row (x) 31 B4 r.un.2.2.2] w') (Y : Nat → Prop) (w0 : World) (v1 : Value) (p0 : Tr31) (r : Tr31) (H : Cy fRec_pred_Push fRec p0 = some r) (h_v1 : Sl w0 (NX []) B4 v1 p0.un.2.2.2) :
    Calls Tryd.prog 39 #[.agg #[.int .i64 p0.un.1, .int .i64 p0.un.2.1, .int .i64 p0.un.2.2.1, v1]] w0 fun e w' => ∃ x : Value, e = .returned (.agg #[.int .i64 r.un.1, .int .i64 r.un.2.1, .int .i64 r.un.2.2.1, x]) ∧ Stw ⟨Y, [], w0⟩ [] [row (x) 31 B4 r.un.2.2.2] w' := by
 refine enter Tryd.func39 Aa Tryd.ntmps39 Aa fun a F => ?_
 have W := Stw.start Y w0
 obtain ⟨v2, h1, h_v1⟩ := h_v1.ex CA
 unfold Cy at H
 refine Ag (Ab ?_)
 refine Do (cs := [.int .i64 p0.un.1, .int .i64 p0.un.2.1, .int .i64 p0.un.2.2.1, v1]) F W Aa Aa Aa fun b1 a w F W => ?_
 refine C8 (cs := [.int .i64 0, .int .i64 0, .int .i64 0, .slice none 0 0]) F W Aa JD Aa fun b2 a w F W => ?_
 refine Ae (Ac (Ag (Ap (Ag (Ab ?_)))))
 refine ls F W Aa (Al CJ Aa Aa Aa T3 F Aa 0 Aa).q fun a w F W => ?_
 refine ls F W Aa (As (v := Value.int .i64 p0.un.1) 1 F Aa Aa T3 Aa).q fun a w F W => ?_
 refine ls F W Aa (BU F Aa Aa).q fun a w F W => ?_
 refine ls F W Aa (Ad F Aa).q fun a w F W => ?_
 refine Ae (Ac ?_)
 refine Ao F Aa (fun hb => ?_) fun hb => ?_
 ·
  have H := A5 (Bv hb) H
  rw [hb] at F
  clear hb
  refine Ag (Ab ?_)
  refine ls F W Aa (D0 (v := Value.agg #[.int .i64 2, .int .i64 0, .int .i64 0, .slice none 0 0]) Mn F Aa Aa Aa).q fun a w F W => ?_
  refine Cl (vs := [.int .i64 2, .int .i64 0, .int .i64 0, .slice none 0 0]) (M' := [(b2, [.int .i64 2, .int .i64 0, .int .i64 0, .slice none 0 0]), (b1, [.int .i64 p0.un.1, .int .i64 p0.un.2.1, .int .i64 p0.un.2.2.1, v1])]) 0 F W Aa Aa Aa D7 Aa Aa Aa Aa Aa fun w W => ?_
  refine Ae (Ac (Aw (A0 (A4 ?_))))
  have H := AV H
  subst H
  refine A2 (.inl Aa) F W Aa (ER 0 F Aa Aa D7 Aa) ?_
  have W := W.nilRow 31 B4
  have W := W.sub (M' := []) (Z' := [row (Value.slice none 0 0) 31 B4 ([])]) (List.nil_sublist _) (List.Sublist.refl _)
  exact ⟨(Value.slice none 0 0), Aa, W⟩
 have H := A3 (Bx hb) H
 rw [hb] at F
 clear hb
 refine Ag (Ab ?_)
 refine ls F W Aa (Al CJ Aa Aa Aa T3 F Aa 0 Aa).q fun a w F W => ?_
 refine ls F W Aa (As (v := Value.int .i64 p0.un.1) 1 F Aa Aa T3 Aa).q fun a w F W => ?_
 refine ls F W Aa (BU F Aa Aa).q fun a w F W => ?_
 refine ls F W Aa (Ad F Aa).q fun a w F W => ?_
 refine Ae (Ac ?_)
 refine Ao F Aa (fun hb => ?_) fun hb => ?_
 ·
  have H := A5 (Bv hb) H
  rw [hb] at F
  clear hb
  refine Ag (Ab ?_)
  refine ls F W Aa (D0 (v := Value.agg #[.int .i64 1, .int .i64 0, .int .i64 0, .slice none 0 0]) Mn F Aa Aa Aa).q fun a w F W => ?_
  refine Cl (vs := [.int .i64 1, .int .i64 0, .int .i64 0, .slice none 0 0]) (M' := [(b2, [.int .i64 1, .int .i64 0, .int .i64 0, .slice none 0 0]), (b1, [.int .i64 p0.un.1, .int .i64 p0.un.2.1, .int .i64 p0.un.2.2.1, v1])]) 0 F W Aa Aa Aa D7 Aa Aa Aa Aa Aa fun w W => ?_
  refine Ae (Ac (Aw (A0 (A4 ?_))))
  have H := AV H
  subst H
  refine A2 (.inl Aa) F W Aa (ER 0 F Aa Aa D7 Aa) ?_
  have W := W.nilRow 31 B4
  have W := W.sub (M' := []) (Z' := [row (Value.slice none 0 0) 31 B4 ([])]) (List.nil_sublist _) (List.Sublist.refl _)
  exact ⟨(Value.slice none 0 0), Aa, W⟩
 have H := A3 (Bx hb) H
 rw [hb] at F
 clear hb
 refine AW (fun a w => Fr 48 [] [(1, .pointer (some ⟨b1, 0, none⟩)), (2, .pointer (some ⟨b2, 0, none⟩)), (13, .bool (decide (p0.un.1 = 4) && decide (0 < (p0.un.2.2.2.length : Int))))] a ∧ Stw ⟨Y, [], w0⟩ [(b2, [.int .i64 0, .int .i64 0, .int .i64 0, .slice none 0 0]), (b1, [.int .i64 p0.un.1, .int .i64 p0.un.2.1, .int .i64 p0.un.2.2.1, v1])] [] w) ?_ ?_
 ·
  refine Ab ?_
  refine ls F W Aa (Al CJ Aa Aa Aa T3 F Aa 0 Aa).q fun a w F W => ?_
  refine ls F W Aa (As (v := Value.int .i64 p0.un.1) 1 F Aa Aa T3 Aa).q fun a w F W => ?_
  refine ls F W Aa (BU F Aa Aa).q fun a w F W => ?_
  refine ls F W Aa (Af F Aa).q fun a w F W => ?_
  rcases Bool.eq_false_or_eq_true (decide (p0.un.1 = 4)) with hb0 | hb0
  ·
   rw [hb0] at F
   refine Cm F W (Ah F Aa Aa Aa Aa) Aa (An Aa) (Al CJ Aa Aa Aa ET F Aa 3 Aa).q fun a w F W => ?_
   refine Cm F W (Ah F Aa Aa Aa Aa) Aa (An Aa) (As (v := v1) 1 F Aa Aa ET Aa).q fun a w F W => ?_
   refine Cm F W (Ah F Aa Aa Aa Aa) Aa (An Aa) (DU (r := B4) (l := p0.un.2.2.2) GC Aa F Aa (Bn CA h1 (AQ h_v1))).q fun a w F W => ?_
   refine Cm F W (Ah F Aa Aa Aa Aa) Aa (An Aa) (Hw F Aa Aa).q fun a w F W => ?_
   refine ls F W Aa (Bc F Aa Aa Aa).q fun a w F W => ?_
   refine ls F W Aa (Ad F Aa).q fun a w F W => ?_
   refine Ae (Ac ?_)
   exact ⟨F.re ⟨rfl, Aa, (by show some (Value.bool (decide (0 < (p0.un.2.2.2.length : Int)))) = some (Value.bool (decide (p0.un.1 = 4) && decide (0 < (p0.un.2.2.2.length : Int)))); try rw [hb0]; all_goals simp only [Bool.not_true, Bool.not_false, Bool.true_and, Bool.false_and, Bool.true_or, Bool.false_or, Bool.and_true, Bool.or_false, cond_true, cond_false]), trivial⟩, W⟩
  rw [hb0] at F
  iterate 4 refine GD F Aa Aa Aa Aa Aa Aa Aa fun a F => ?_
  refine ls F W Aa (AU F Aa Aa Aa).q fun a w F W => ?_
  refine ls F W Aa (Ad F Aa).q fun a w F W => ?_
  refine Ae (Ac ?_)
  exact ⟨F.re ⟨rfl, Aa, (by show some (Value.bool false) = some (Value.bool (decide (p0.un.1 = 4) && decide (0 < (p0.un.2.2.2.length : Int)))); try rw [hb0]; all_goals simp only [Bool.not_true, Bool.not_false, Bool.true_and, Bool.false_and, Bool.true_or, Bool.false_or, Bool.and_true, Bool.or_false, cond_true, cond_false]), trivial⟩, W⟩
 rintro a w ⟨F, W⟩
 refine Ao F Aa (fun hb => ?_) fun hb => ?_
 ·
  have H := A5 hb H
  rw [hb] at F
  clear hb
  refine Ag (Ab ?_)
  refine ls F W Aa (Al CJ Aa Aa Aa ET F Aa 3 Aa).q fun a w F W => ?_
  refine ls F W Aa (As (v := v1) 1 F Aa Aa ET Aa).q fun a w F W => ?_
  obtain ⟨x1, h2, H⟩ := Aj H
  obtain ⟨v3, h3, h4⟩ := FV h1 h2
  have h5 : Fp v3 = [.int .i64 x1.un.1, .int .i64 x1.un.2.1, .int .i64 x1.un.2.2.1, (v3.2.2.2.1)] := congrArg (fun q : Tr31 => ([.int .i64 q.un.1, .int .i64 q.un.2.1, .int .i64 q.un.2.2.1, (v3.2.2.2.1)] : List Value)) h4
  refine ls F W Aa (Ay (r := FZ) Ji F Aa Aa (AQ h_v1) h3).q fun a w F W => ?_
  refine ls F W Aa (Am (y := Value.agg #[.int .i64 x1.un.1, .int .i64 x1.un.2.1, .int .i64 x1.un.2.2.1, (v3.2.2.2.1)]) (j := 0) (i := 0) (enc := Fp) F Aa Aa (AQ h_v1) h3 IU D7 (by rw [h5]; rfl)).q fun a w F W => ?_
  obtain ⟨x2, h6, H⟩ := Aj H
  refine BE (Ml := []) (Zl := []) (M := [(b2, [.int .i64 0, .int .i64 0, .int .i64 0, .slice none 0 0]), (b1, [.int .i64 p0.un.1, .int .i64 p0.un.2.1, .int .i64 p0.un.2.2.1, v1])]) (Z := []) (β := Value) (rv := fun x => .agg #[.int .i64 x2.un.1, .int .i64 x2.un.2.1, .int .i64 x2.un.2.2.1, x]) (MM := fun x => []) (ZZ := fun x => [row x 31 B4 x2.un.2.2.2]) F W NN Aa Aa (fun hL => ih_pred_Push _ w ((v3.2.2.2.1)) x1 _ h6 ((DV (AQ h_v1) h3 (Cg.snd (Cg.snd (Cg.snd Cg.here))) (congrArg (fun q : Tr31 => q.un.2.2.2) h4)) w W).nx) fun x a w F W => ?_
  obtain ⟨v4, rfl⟩ : ∃ y, y = x := ⟨x, rfl⟩
  have W : Stw ⟨Y, [], w0⟩ [(b2, [.int .i64 0, .int .i64 0, .int .i64 0, .slice none 0 0]), (b1, [.int .i64 p0.un.1, .int .i64 p0.un.2.1, .int .i64 p0.un.2.2.1, v1])] [row v4 31 B4 x2.un.2.2.2] w := W
  refine Cl (vs := [.int .i64 x2.un.1, .int .i64 x2.un.2.1, .int .i64 x2.un.2.2.1, v4]) (M' := [(b2, [.int .i64 x2.un.1, .int .i64 x2.un.2.1, .int .i64 x2.un.2.2.1, v4]), (b1, [.int .i64 p0.un.1, .int .i64 p0.un.2.1, .int .i64 p0.un.2.2.1, v1])]) 0 F W Aa Aa Aa D7 Aa Aa Aa (AK Aa (AK Aa (AK Aa (AK (W.one (k := 0) Aa) DI)))) Aa fun w W => ?_
  refine Ae (Ac (Aw (A0 (A4 ?_))))
  have H := AV H
  subst H
  refine A2 (.inl Aa) F W Aa (ER 0 F Aa Aa D7 Aa) ?_
  have W := W.sub (M' := []) (Z' := [row v4 31 B4 x2.un.2.2.2]) (List.nil_sublist _) (List.Sublist.refl _)
  exact ⟨(v4), Aa, W⟩
 have H := A3 (by rw [hb]; decide) H
 rw [hb] at F
 clear hb
 refine Ag (Ab ?_)
 refine ls F W Aa (Al CJ Aa Aa Aa T3 F Aa 0 Aa).q fun a w F W => ?_
 refine ls F W Aa (As (v := Value.int .i64 p0.un.1) 1 F Aa Aa T3 Aa).q fun a w F W => ?_
 refine ls F W Aa (BU F Aa Aa).q fun a w F W => ?_
 refine ls F W Aa (Ad F Aa).q fun a w F W => ?_
 refine Ae (Ac ?_)
 refine Ao F Aa (fun hb => ?_) fun hb => ?_
 ·
  have H := A5 (Bv hb) H
  rw [hb] at F
  clear hb
  refine Ag (Ab ?_)
  refine ls F W Aa (Al CJ Aa Aa Aa ET F Aa 3 Aa).q fun a w F W => ?_
  refine ls F W Aa (As (v := v1) 1 F Aa Aa ET Aa).q fun a w F W => ?_
  obtain ⟨x3, h7, H⟩ := Aj H
  refine BE (Ml := []) (Zl := []) (M := [(b2, [.int .i64 0, .int .i64 0, .int .i64 0, .slice none 0 0]), (b1, [.int .i64 p0.un.1, .int .i64 p0.un.2.1, .int .i64 p0.un.2.2.1, v1])]) (Z := []) (β := Value) (rv := fun x => x) (MM := fun x => []) (ZZ := fun x => [row x 31 B4 x3]) F W NT Aa Aa (fun hL => (HI fRec ih) _ w (v1) p0.un.2.2.2 _ h7 ((Bn CA h1 (AQ h_v1)) w W).nx) fun x a w F W => ?_
  obtain ⟨v5, rfl⟩ : ∃ y, y = x := ⟨x, rfl⟩
  have W : Stw ⟨Y, [], w0⟩ [(b2, [.int .i64 0, .int .i64 0, .int .i64 0, .slice none 0 0]), (b1, [.int .i64 p0.un.1, .int .i64 p0.un.2.1, .int .i64 p0.un.2.2.1, v1])] [row v5 31 B4 x3] w := W
  refine ls F W Aa (D0 (v := Value.agg #[.int .i64 6, .int .i64 0, .int .i64 0, v5]) Mn F Aa (Ct Aa Aa Aa (Ct Aa (ES (W.one (k := 0) Aa)) Aa DN)) Aa).q fun a w F W => ?_
  refine Cl (vs := [.int .i64 6, .int .i64 0, .int .i64 0, v5]) (M' := [(b2, [.int .i64 6, .int .i64 0, .int .i64 0, v5]), (b1, [.int .i64 p0.un.1, .int .i64 p0.un.2.1, .int .i64 p0.un.2.2.1, v1])]) 0 F W Aa Aa Aa D7 Aa Aa Aa (AK Aa (AK Aa (AK Aa (AK (W.one (k := 0) Aa) DI)))) Aa fun w W => ?_
  refine Ae (Ac (Aw (A0 (A4 ?_))))
  have H := AV H
  subst H
  refine A2 (.inl Aa) F W Aa (ER 0 F Aa Aa D7 Aa) ?_
  have W := W.sub (M' := []) (Z' := [row v5 31 B4 x3]) (List.nil_sublist _) (List.Sublist.refl _)
  exact ⟨(v5), Aa, W⟩
 have H := A3 (Bx hb) H
 rw [hb] at F
 clear hb
 refine Ag (Ab ?_)
 refine ls F W Aa (Al CJ Aa Aa Aa T3 F Aa 0 Aa).q fun a w F W => ?_
 refine ls F W Aa (As (v := Value.int .i64 p0.un.1) 1 F Aa Aa T3 Aa).q fun a w F W => ?_
 refine ls F W Aa (BU F Aa Aa).q fun a w F W => ?_
 refine ls F W Aa (Ad F Aa).q fun a w F W => ?_
 refine Ae (Ac ?_)
 refine Ao F Aa (fun hb => ?_) fun hb => ?_
 ·
  have H := A5 (Bv hb) H
  rw [hb] at F
  clear hb
  refine Ag (Ab ?_)
  refine ls F W Aa (Al CJ Aa Aa Aa ET F Aa 3 Aa).q fun a w F W => ?_
  refine ls F W Aa (As (v := v1) 1 F Aa Aa ET Aa).q fun a w F W => ?_
  obtain ⟨x4, h8, H⟩ := Aj H
  refine BE (Ml := []) (Zl := []) (M := [(b2, [.int .i64 0, .int .i64 0, .int .i64 0, .slice none 0 0]), (b1, [.int .i64 p0.un.1, .int .i64 p0.un.2.1, .int .i64 p0.un.2.2.1, v1])]) (Z := []) (β := Value) (rv := fun x => x) (MM := fun x => []) (ZZ := fun x => [row x 31 B4 x4]) F W NT Aa Aa (fun hL => (HI fRec ih) _ w (v1) p0.un.2.2.2 _ h8 ((Bn CA h1 (AQ h_v1)) w W).nx) fun x a w F W => ?_
  obtain ⟨v6, rfl⟩ : ∃ y, y = x := ⟨x, rfl⟩
  have W : Stw ⟨Y, [], w0⟩ [(b2, [.int .i64 0, .int .i64 0, .int .i64 0, .slice none 0 0]), (b1, [.int .i64 p0.un.1, .int .i64 p0.un.2.1, .int .i64 p0.un.2.2.1, v1])] [row v6 31 B4 x4] w := W
  refine ls F W Aa (D0 (v := Value.agg #[.int .i64 5, .int .i64 0, .int .i64 0, v6]) Mn F Aa (Ct Aa Aa Aa (Ct Aa (ES (W.one (k := 0) Aa)) Aa DN)) Aa).q fun a w F W => ?_
  refine Cl (vs := [.int .i64 5, .int .i64 0, .int .i64 0, v6]) (M' := [(b2, [.int .i64 5, .int .i64 0, .int .i64 0, v6]), (b1, [.int .i64 p0.un.1, .int .i64 p0.un.2.1, .int .i64 p0.un.2.2.1, v1])]) 0 F W Aa Aa Aa D7 Aa Aa Aa (AK Aa (AK Aa (AK Aa (AK (W.one (k := 0) Aa) DI)))) Aa fun w W => ?_
  refine Ae (Ac (Aw (A0 (A4 ?_))))
  have H := AV H
  subst H
  refine A2 (.inl Aa) F W Aa (ER 0 F Aa Aa D7 Aa) ?_
  have W := W.sub (M' := []) (Z' := [row v6 31 B4 x4]) (List.nil_sublist _) (List.Sublist.refl _)
  exact ⟨(v6), Aa, W⟩
 have H := A3 (Bx hb) H
 rw [hb] at F
 clear hb
 refine Au (A6 (Ac (Ag (Ab ?_))))
 refine ls F W Aa (As (v := Value.agg #[.int .i64 p0.un.1, .int .i64 p0.un.2.1, .int .i64 p0.un.2.2.1, v1]) 1 F Aa Aa D7 Aa).q fun a w F W => ?_
 obtain ⟨x5, h9, H⟩ := Aj H
 refine BE (Ml := []) (Zl := []) (M := [(b2, [.int .i64 0, .int .i64 0, .int .i64 0, .slice none 0 0]), (b1, [.int .i64 p0.un.1, .int .i64 p0.un.2.1, .int .i64 p0.un.2.2.1, v1])]) (Z := []) (β := Value) (rv := fun x => .agg #[.int .i64 x5.un.1, .int .i64 x5.un.2.1, .int .i64 x5.un.2.2.1, x]) (MM := fun x => []) (ZZ := fun x => [row x 31 B4 x5.un.2.2.2]) F W NN Aa Aa (fun hL => ih_pred_Push _ w (v1) p0 _ h9 ((Bn CA h1 (AQ h_v1)) w W).nx) fun x a w F W => ?_
 obtain ⟨v7, rfl⟩ : ∃ y, y = x := ⟨x, rfl⟩
 have W : Stw ⟨Y, [], w0⟩ [(b2, [.int .i64 0, .int .i64 0, .int .i64 0, .slice none 0 0]), (b1, [.int .i64 p0.un.1, .int .i64 p0.un.2.1, .int .i64 p0.un.2.2.1, v1])] [row v7 31 B4 x5.un.2.2.2] w := W
 have W := W.freeze
 refine Hx (z := Value.agg #[.int .i64 0, .int .i64 0, .int .i64 0, .slice none 0 0]) (cs := [.int .i64 x5.un.1, .int .i64 x5.un.2.1, .int .i64 x5.un.2.2.1, v7]) B4 ([x5] : List Tr31) F W Aa Ji JD Aa Aa Aa (Ct Aa Aa Aa DN) Aa Aa ⟨[Value.int .i64 x5.un.1, Value.int .i64 x5.un.2.1, Value.int .i64 x5.un.2.2.1, v7], _, Aa, (KD.2 ⟨[Value.int .i64 x5.un.1], [Value.int .i64 x5.un.2.1, Value.int .i64 x5.un.2.2.1, v7], Aa, Aa, ⟨[Value.int .i64 x5.un.2.1], [Value.int .i64 x5.un.2.2.1, v7], Aa, Aa, ⟨[Value.int .i64 x5.un.2.2.1], [v7], Aa, Aa, ⟨_, Aa, (W.item (i := 0) Aa)⟩⟩⟩⟩), Aa⟩ fun v8 a w F W => ?_
 refine ls F W Aa (D0 (v := Value.agg #[.int .i64 4, .int .i64 0, .int .i64 0, v8]) Mn F Aa (Ct Aa Aa Aa (Ct Aa (ES (W.one (k := 0) Aa)) Aa DN)) Aa).q fun a w F W => ?_
 refine Cl (vs := [.int .i64 4, .int .i64 0, .int .i64 0, v8]) (M' := [(b2, [.int .i64 4, .int .i64 0, .int .i64 0, v8]), (b1, [.int .i64 p0.un.1, .int .i64 p0.un.2.1, .int .i64 p0.un.2.2.1, v1])]) 0 F W Aa Aa Aa D7 Aa Aa Aa (AK Aa (AK Aa (AK Aa (AK (W.one (k := 0) Aa) DI)))) Aa fun w W => ?_
 refine Ae (Ac (Aw ?_))
 have H := AV H
 subst H
 refine A2 (.inl Aa) F W Aa (ER 0 F Aa Aa D7 Aa) ?_
 have W := W.sub (M' := []) (Z' := [row v8 31 B4 ([x5] : List Tr31)]) (List.nil_sublist _) (List.Sublist.cons_cons _ (List.nil_sublist _))
 exact ⟨(v8), Aa, W⟩
theorem HT (fRec_pred_Push : Tr31 → Option Tr31) (ih_pred_Push : ∀ (Y : Nat → Prop) (w0 : World) (v1 : Value) (p0 : Tr31) (r : Tr31) (H : fRec_pred_Push p0 = some r) (h_v1 : Sl w0 (NX []) B4 v1 p0.un.2.2.2), Calls Tryd.prog 23 #[.agg #[.int .i64 p0.un.1, .int .i64 p0.un.2.1, .int .i64 p0.un.2.2.1, v1]] w0 fun e w' => ∃ x : Value, e = .returned (.agg #[.int .i64 r.un.1, .int .i64 r.un.2.1, .int .i64 r.un.2.2.1, x]) ∧ Stw ⟨Y, [], w0⟩ [] [row (x) 31 B4 r.un.2.2.2] w') : ∀ (n : Nat) (Y : Nat → Prop) (w0 : World) (v1 : Value) (p0 : Tr31) (r : Tr31) (H : Cx fRec_pred_Push n p0 = some r) (h_v1 : Sl w0 (NX []) B4 v1 p0.un.2.2.2), Calls Tryd.prog 39 #[.agg #[.int .i64 p0.un.1, .int .i64 p0.un.2.1, .int .i64 p0.un.2.2.1, v1]] w0 fun e w' => ∃ x : Value, e = .returned (.agg #[.int .i64 r.un.1, .int .i64 r.un.2.1, .int .i64 r.un.2.2.1, x]) ∧ Stw ⟨Y, [], w0⟩ [] [row (x) 31 B4 r.un.2.2.2] w' := by
  intro n
  induction n with
  | zero => intro Y w0 v1 p0 r H; exact nomatch H
  | succ n ih => intro Y w0 v1 p0 r H h_v1; exact Hn fRec_pred_Push ih_pred_Push (Cx fRec_pred_Push n) ih Y w0 v1 p0 r H h_v1
theorem IG (fRec_pred_Push : Tr31 → Option Tr31) (ih_pred_Push : ∀ (Y : Nat → Prop) (w0 : World) (v1 : Value) (p0 : Tr31) (r : Tr31) (H : fRec_pred_Push p0 = some r) (h_v1 : Sl w0 (NX []) B4 v1 p0.un.2.2.2), Calls Tryd.prog 23 #[.agg #[.int .i64 p0.un.1, .int .i64 p0.un.2.1, .int .i64 p0.un.2.2.1, v1]] w0 fun e w' => ∃ x : Value, e = .returned (.agg #[.int .i64 r.un.1, .int .i64 r.un.2.1, .int .i64 r.un.2.2.1, x]) ∧ Stw ⟨Y, [], w0⟩ [] [row (x) 31 B4 r.un.2.2.2] w') (Y : Nat → Prop) (w0 : World) (v1 : Value) (p0 : Tr31) (r : Tr31) (H : Ea fRec_pred_Push p0 = some r) (h_v1 : Sl w0 (NX []) B4 v1 p0.un.2.2.2) :
    Calls Tryd.prog 39 #[.agg #[.int .i64 p0.un.1, .int .i64 p0.un.2.1, .int .i64 p0.un.2.2.1, v1]] w0 fun e w' => ∃ x : Value, e = .returned (.agg #[.int .i64 r.un.1, .int .i64 r.un.2.1, .int .i64 r.un.2.2.1, x]) ∧ Stw ⟨Y, [], w0⟩ [] [row (x) 31 B4 r.un.2.2.2] w' := by
  obtain ⟨n, H⟩ := DC H
  exact HT fRec_pred_Push ih_pred_Push n Y w0 v1 p0 r H h_v1
noncomputable def Cv (fRec_pred_Push : Tr31 → Option Tr31) (p0 : List Tr31) : (List Tr31 × Int) → Option ((List Tr31 × Int) ⊕ (List Tr31))
  | (x2, x3) => (if x3 < (p0.length : Int) then (ix p0 x3).bind fun x4 => (fRec_pred_Push x4).bind fun x5 => (HC x2 ([x5] : List Tr31)).bind fun x6 => some (.inl (x6, AJ (x3 + 1))) else some (.inr x2))
noncomputable def Dl (fRec_pred_Push : Tr31 → Option Tr31) (p0 : List Tr31) : Option (List Tr31) := (AZ (Cv fRec_pred_Push p0) ([], 0)).bind fun x1 => some x1
theorem IY (fRec_pred_Push : Tr31 → Option Tr31) (ih_pred_Push : ∀ (Y : Nat → Prop) (w0 : World) (v1 : Value) (p0 : Tr31) (r : Tr31) (H : fRec_pred_Push p0 = some r) (h_v1 : Sl w0 (NX []) B4 v1 p0.un.2.2.2), Calls Tryd.prog 23 #[.agg #[.int .i64 p0.un.1, .int .i64 p0.un.2.1, .int .i64 p0.un.2.2.1, v1]] w0 fun e w' => ∃ x : Value, e = .returned (.agg #[.int .i64 r.un.1, .int .i64 r.un.2.1, .int .i64 r.un.2.2.1, x]) ∧ Stw ⟨Y, [], w0⟩ [] [row (x) 31 B4 r.un.2.2.2] w') (Y : Nat → Prop) (w0 : World) (v1 : Value) (p0 : List Tr31) (r : List Tr31) (H : Dl fRec_pred_Push p0 = some r) (h_v1 : Sl w0 (NX []) B4 v1 p0) :
    Calls Tryd.prog 40 #[v1, .func (.func 23) #[] #[]] w0 fun e w' => ∃ x : Value, e = .returned (x) ∧ Stw ⟨Y, [], w0⟩ [] [row (x) 31 B4 r] w' := by
 refine enter Tryd.func40 Aa Tryd.ntmps40 Aa fun a F => ?_
 have W := Stw.start Y w0
 obtain ⟨v2, h1, h_v1⟩ := h_v1.ex CA
 unfold Dl at H
 refine Ag (Ab ?_)
 refine ls F W Aa (Ad F Aa).q fun a w F W => ?_
 refine Ae (Ac (Ag (Ab ?_)))
 refine ls F W Aa (Ad F Aa).q fun a w F W => ?_
 refine Ae (Ac ?_)
 obtain ⟨o1, G1, K1⟩ := Aj H
 refine AW (fun a w => ∃ x1 : List Tr31, ∃ v3 : Value, some (x1) = some o1 ∧ Fr 22 [] [(4, .slice none 0 0), (5, v3)] a ∧ Stw ⟨Y, [], w0⟩ [] [row v3 31 B4 x1] w) ?_ ?_
 ·
  have H := G1
  clear G1 K1
  refine Ag (Ab ?_)
  refine ls F W Aa (Af F Aa).q fun a w F W => ?_
  refine ls F W Aa (DU (r := B4) (l := p0) GC Aa F Aa (Bn CA h1 (AQ h_v1))).q fun a w F W => ?_
  refine ls F W Aa (Af F Aa).q fun a w F W => ?_
  refine Ae (Ac (Ap ?_))
  have W := W.nilRow 31 B4
  refine BV H (fun s a w => ∃ v4 : Value, Fr 22 [] [(1, .func (.func 23) #[] #[]), (4, .slice none 0 0), (5, v4), (8, v1), (9, .int .i64 (p0.length : Int)), (10, .int .i64 s.2)] a ∧ Stw ⟨Y, [], w0⟩ [] [row v4 31 B4 s.1] w) ⟨(Value.slice none 0 0), F.re ⟨rfl, Aa, Aa, Aa, Aa, Aa, trivial⟩, W⟩ fun s o a w H L2 hR => ?_
  obtain ⟨x2, x3⟩ := s
  obtain ⟨v4, F, W⟩ := hR
  have F : Fr 22 [] [(1, .func (.func 23) #[] #[]), (4, .slice none 0 0), (5, v4), (8, v1), (9, .int .i64 (p0.length : Int)), (10, .int .i64 x3)] a := F
  have W : Stw ⟨Y, [], w0⟩ [] [row v4 31 B4 x2] w := W
  rw [Cv] at H
  refine Ag (Ab ?_)
  refine ls F W Aa (Df F Aa Aa).q fun a w F W => ?_
  refine Ae (Ac (Ag ?_))
  refine Ao F Aa (fun hb => ?_) fun hb => ?_
  ·
   have H := A5 (Bv hb) H
   rw [hb] at F
   clear hb
   refine Au (Ac (Ag (Ap (Ag ?_))))
   obtain ⟨v5, h2, W⟩ := W.exR CA
   refine Ab ?_
   obtain ⟨x4, h3, H⟩ := Aj H
   obtain ⟨v6, h4, h5⟩ := FV h1 h3
   have h6 : Fp v6 = [.int .i64 x4.un.1, .int .i64 x4.un.2.1, .int .i64 x4.un.2.2.1, (v6.2.2.2.1)] := congrArg (fun q : Tr31 => ([.int .i64 q.un.1, .int .i64 q.un.2.1, .int .i64 q.un.2.2.1, (v6.2.2.2.1)] : List Value)) h5
   refine ls F W Aa (Ay (r := FZ) Ji F Aa Aa (AQ h_v1) h4).q fun a w F W => ?_
   refine ls F W Aa (Am (y := Value.agg #[.int .i64 x4.un.1, .int .i64 x4.un.2.1, .int .i64 x4.un.2.2.1, (v6.2.2.2.1)]) (j := 0) (i := x3) (enc := Fp) F Aa Aa (AQ h_v1) h4 IU D7 (by rw [h6]; rfl)).q fun a w F W => ?_
   refine C8 (cs := [.int .i64 0, .int .i64 0, .int .i64 0, .slice none 0 0]) F W Aa JD Aa fun b1 a w F W => ?_
   refine Cl (vs := [.int .i64 x4.un.1, .int .i64 x4.un.2.1, .int .i64 x4.un.2.2.1, (v6.2.2.2.1)]) (M' := [(b1, [.int .i64 x4.un.1, .int .i64 x4.un.2.1, .int .i64 x4.un.2.2.1, (v6.2.2.2.1)])]) 0 F W Aa Aa Aa D7 Aa Aa Aa (AK Aa (AK Aa (AK Aa (AK ((DV (AQ h_v1) h4 (Cg.snd (Cg.snd (Cg.snd Cg.here))) (congrArg (fun q : Tr31 => q.un.2.2.2) h5)) _ W).one DI)))) Aa fun w W => ?_
   refine Ae (Ac (Ab ?_))
   iterate 2 refine ls F W Aa (Af F Aa).q fun a w F W => ?_
   refine ls F W Aa (As (v := Value.agg #[.int .i64 x4.un.1, .int .i64 x4.un.2.1, .int .i64 x4.un.2.2.1, (v6.2.2.2.1)]) 0 F Aa Aa D7 Aa).q fun a w F W => ?_
   obtain ⟨x5, h7, H⟩ := Aj H
   refine Ki (ws := [.agg #[.int .i64 x4.un.1, .int .i64 x4.un.2.1, .int .i64 x4.un.2.2.1, (v6.2.2.2.1)]]) (Ml := []) (Zl := []) (M := [(b1, [.int .i64 x4.un.1, .int .i64 x4.un.2.1, .int .i64 x4.un.2.2.1, (v6.2.2.2.1)])]) (Z := [row v4 31 FZ v5]) (β := Value) (rv := fun x => .agg #[.int .i64 x5.un.1, .int .i64 x5.un.2.1, .int .i64 x5.un.2.2.1, x]) (MM := fun x => []) (ZZ := fun x => [row x 31 B4 x5.un.2.2.2]) F W NN Aa Aa (fun hL => ih_pred_Push _ w ((v6.2.2.2.1)) x4 _ h7 ((DV (AQ h_v1) h4 (Cg.snd (Cg.snd (Cg.snd Cg.here))) (congrArg (fun q : Tr31 => q.un.2.2.2) h5)) w W).nx) fun x a w F W => ?_
   obtain ⟨v7, rfl⟩ : ∃ y, y = x := ⟨x, rfl⟩
   have W : Stw ⟨Y, [], w0⟩ [(b1, [.int .i64 x4.un.1, .int .i64 x4.un.2.1, .int .i64 x4.un.2.2.1, (v6.2.2.2.1)])] [row v7 31 B4 x5.un.2.2.2, row v4 31 FZ v5] w := W
   have W := W.freeze
   refine Hx (z := Value.agg #[.int .i64 0, .int .i64 0, .int .i64 0, .slice none 0 0]) (cs := [.int .i64 x5.un.1, .int .i64 x5.un.2.1, .int .i64 x5.un.2.2.1, v7]) B4 ([x5] : List Tr31) F W Aa Ji JD Aa Aa Aa (Ct Aa Aa Aa DN) Aa Aa ⟨[Value.int .i64 x5.un.1, Value.int .i64 x5.un.2.1, Value.int .i64 x5.un.2.2.1, v7], _, Aa, (KD.2 ⟨[Value.int .i64 x5.un.1], [Value.int .i64 x5.un.2.1, Value.int .i64 x5.un.2.2.1, v7], Aa, Aa, ⟨[Value.int .i64 x5.un.2.1], [Value.int .i64 x5.un.2.2.1, v7], Aa, Aa, ⟨[Value.int .i64 x5.un.2.2.1], [v7], Aa, Aa, ⟨_, Aa, (W.item (i := 0) Aa)⟩⟩⟩⟩), Aa⟩ fun v8 a w F W => ?_
   have W := W.frontZ (i := 2) Aa Aa
   have W := W.hideR CA h2
   obtain ⟨x6, h8, H⟩ := Aj H
   refine FG (r := B4) (i := 0) F W Aa Ji Aa Aa Aa Aa (Gv W 1 Aa) h8 Aa fun v9 a w F W => ?_
   have W : Stw ⟨Y, [], w0⟩ [(b1, [.int .i64 x4.un.1, .int .i64 x4.un.2.1, .int .i64 x4.un.2.2.1, (v6.2.2.2.1)])] [row v9 31 B4 x6, row v8 31 B4 ([x5] : List Tr31), Mx v7 B4 x5.un.2.2.2] w := W
   refine ls F W Aa (Ad F Aa).q fun a w F W => ?_
   refine Ae (A6 (Ac (Ab ?_)))
   refine ls F W Aa (BM F Aa Aa Aa).q fun a w F W => ?_
   refine ls F W Aa (Af F Aa).q fun a w F W => ?_
   refine Ae (Ac ?_)
   have W := W.sub (M' := []) (Z' := [row v9 31 B4 x6]) (List.nil_sublist _) (List.Sublist.cons_cons _ (List.nil_sublist _))
   exact ⟨_, H, (v9), F.re ⟨rfl, Aa, Aa, Aa, Aa, Aa, trivial⟩, W⟩
  have H := A3 (Bx hb) H
  rw [hb] at F
  clear hb
  refine BK ?_
  iterate 2 refine B7 ?_
  refine BN (Ac ?_)
  have H := L2 _ H
  exact ⟨_, (v4), H, F.re ⟨rfl, Aa, trivial⟩, W⟩
 rintro a w ⟨x1, v3, hj, F, W⟩
 have hj := AV hj
 subst hj
 have H := K1
 clear G1 K1
 refine Ag (Ab ?_)
 refine ls F W Aa (Af F Aa).q fun a w F W => ?_
 refine ls F W Aa (Ad F Aa).q fun a w F W => ?_
 refine Ae (Ac (Aw ?_))
 have H := AV H
 subst H
 refine A2 (.inl Aa) F W Aa (AB F Aa) ?_
 exact ⟨(v3), Aa, W⟩
end Go.Proofs.YtepfcpffbabgmaaDoor
