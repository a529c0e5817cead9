/- The functions of layer 41, Ec. Conditions: none. -/
import Derived.Test.YtpmhmemmniiomaaDoorcA2
namespace Go.Proofs.YtpmhmemmniiomaaDoor
open Go Go.RowKit
set_option linter.unusedVariables false
set_option linter.unusedSimpArgs false
set_option maxRecDepth 20000
noncomputable def AL (p0 : List (Int × Int × Int × Int × Int × Int)) : (Int × Int) → Option ((Int × Int) ⊕ Int)
  | (x3, x4) => (if x4 < (p0.length : Int) then ((ix p0 x4).bind fun x6 => (if x6.1 = 1 then some (DS (x3 + 1)) else some x3)).bind fun x5 => some (.inl (x5, DS (x4 + 1))) else some (.inr x3))
noncomputable def Ba (p1 : Int × Int × Int × Int × Int × Int) (x2 : Int) (x10 : (List (Int × Int × Int × Int × List Int × Int × Int × Int))) (x12 : (List (Int × Int × Int × Int × List Int × Int × Int × Int))) : Int → Option (Int ⊕ (Unit ⊕ Bool))
  | x13 => (if x13 < x2 then ((ix x10 x13).bind fun x15 => (if x15.1 ≠ p1.2.2.1 then (CC x10 x13 (DS (x13 + 1))).bind fun x16 => (CC x12 x13 (DS (x13 + 1))).bind fun x17 => (Cd x16 x17).bind fun x18 => some (!x18) else (ix x10 x13).bind fun x19 => (if x19.2.2.2.2.2.1 ≠ 0 then (CC x10 x13 (DS (x13 + 1))).bind fun x20 => (CC x12 x13 (DS (x13 + 1))).bind fun x21 => (Cd x20 x21).bind fun x22 => some (!x22) else some false))).bind fun x14 => (if x14 = true then some (.inr (.inr false)) else some (.inl (DS (x13 + 1)))) else some (.inr (.inl ())))
noncomputable def B2 (p0 : List (Int × Int × Int × Int × Int × Int)) (p1 : Int × Int × Int × Int × Int × Int) : Option Bool := (if 100 < (p0.length : Int) then (B3).bind fun x1 => some x1 else (AP (AL p0) (0, 0)).bind fun x2 => (CL ([] : List (Int × Int × Int × Int × Int × Int)) p0).bind fun x7 => (CL x7 ([p1] : List (Int × Int × Int × Int × Int × Int))).bind fun x8 => (Ca p0).bind fun x9 => (BE x9).bind fun x10 => (Ca x8).bind fun x11 => (BE x11).bind fun x12 => (if (decide ((x10.length : Int) ≠ x2) || decide ((x12.length : Int) < x2)) = true then some false else HY (AP (Ba p1 x2 x10 x12) 0) fun _ => (B3).bind fun x23 => some x23))
theorem Ed (Y : Nat → Prop) (w0 : World) (v1 : Value) (p0 : List (Int × Int × Int × Int × Int × Int)) (p1 : Int × Int × Int × Int × Int × Int) (r : Bool) (H : B2 p0 p1 = some r) (s_v1 : Sl w0 Y CK v1 p0) (hG : Gk [] w0) :
    Calls Tryd.prog 4 #[v1, .agg #[.int .i64 p1.1, .int .i64 p1.2.1, .int .i64 p1.2.2.1, .int .i64 p1.2.2.2.1, .int .i64 p1.2.2.2.2.1, .int .i64 p1.2.2.2.2.2]] w0 fun e w' => e = .returned (.bool r) ∧ Below w0.heap.size w0 w' := by
 refine enter Tryd.func4 Aa Tryd.ntmps4 Aa fun a F => ?_
 have W := Stw.start Y w0
 have h_v1 := W.nx s_v1
 unfold B2 at H
 refine Ai (Ac ?_)
 refine DH (cs := [.int .i64 p1.1, .int .i64 p1.2.1, .int .i64 p1.2.2.1, .int .i64 p1.2.2.2.1, .int .i64 p1.2.2.2.2.1, .int .i64 p1.2.2.2.2.2]) F W Aa Aa Aa fun b1 a w F W => ?_
 refine ls F W Aa (Ah F Aa).q fun a w F W => ?_
 refine Ae (Ad (Ai (Ai (Ac ?_))))
 refine ls F W Aa (Ag F Aa).q fun a w F W => ?_
 refine ls F W Aa (BD (r := CK) (l := p0) G0 Aa F Aa (Ax h_v1)).q fun a w F W => ?_
 refine ls F W Aa (HM F Aa Aa).q fun a w F W => ?_
 refine Ae (Ad ?_)
 refine AJ F Aa (fun hb => ?_) fun hb => ?_
 ·
  have H := A9 (Bj hb) H
  rw [hb] at F
  clear hb
  refine Ai (Ac ?_)
  obtain ⟨x1, h1, H⟩ := Am H
  refine ls F W Aa (Bg (v := Value.bool x1) F H5 Aa (fun w W => DD any w _ h1 (hG.go0 W))) fun a w F W => ?_
  refine ls F W Aa (Ah F Aa).q fun a w F W => ?_
  refine Ae (Ad (AQ (Bx ?_)))
  have H := Bf H
  subst H
  refine Bk (.inl Aa) F W Aa (AZ F Aa) ?_
  exact ⟨rfl, W.done⟩
 have H := A5 (Bi hb) H
 rw [hb] at F
 clear hb
 refine AC (Ad (Ai (Ac ?_)))
 refine ls F W Aa (Ah F Aa).q fun a w F W => ?_
 refine Ae (Ad ?_)
 obtain ⟨o1, G1, K1⟩ := Am H
 refine Bq (fun a w => ∃ x2 : Int, some (x2) = some o1 ∧ Fr 88 [] [(0, v1), (3, .pointer (some ⟨b1, 0, none⟩)), (4, .bool false), (5, .int .i64 x2)] a ∧ Stw ⟨Y, [], w0⟩ [(b1, [.int .i64 p1.1, .int .i64 p1.2.1, .int .i64 p1.2.2.1, .int .i64 p1.2.2.2.1, .int .i64 p1.2.2.2.2.1, .int .i64 p1.2.2.2.2.2])] [] w) ?_ ?_
 ·
  have H := G1
  clear G1 K1
  refine Ai (Ac ?_)
  refine ls F W Aa (Ah F Aa).q fun a w F W => ?_
  refine Ae (Ad (AG ?_))
  refine Cj H (fun s a w => Fr 88 [] [(0, v1), (3, .pointer (some ⟨b1, 0, none⟩)), (4, .bool false), (5, .int .i64 s.1), (6, .int .i64 s.2)] a ∧ Stw ⟨Y, [], w0⟩ [(b1, [.int .i64 p1.1, .int .i64 p1.2.1, .int .i64 p1.2.2.1, .int .i64 p1.2.2.2.1, .int .i64 p1.2.2.2.2.1, .int .i64 p1.2.2.2.2.2])] [] w) ⟨F.re ⟨rfl, Aa, Aa, Aa, Aa, trivial⟩, W⟩ fun s o a w H L2 hR => ?_
  obtain ⟨x3, x4⟩ := s
  obtain ⟨F, W⟩ := hR
  have F : Fr 88 [] [(0, v1), (3, .pointer (some ⟨b1, 0, none⟩)), (4, .bool false), (5, .int .i64 x3), (6, .int .i64 x4)] a := F
  have W : Stw ⟨Y, [], w0⟩ [(b1, [.int .i64 p1.1, .int .i64 p1.2.1, .int .i64 p1.2.2.1, .int .i64 p1.2.2.2.1, .int .i64 p1.2.2.2.2.1, .int .i64 p1.2.2.2.2.2])] [] w := W
  rw [AL] at H
  refine Ai (Ai (Ac ?_))
  iterate 2 refine ls F W Aa (Ag F Aa).q fun a w F W => ?_
  refine ls F W Aa (BD (r := CK) (l := p0) G0 Aa F Aa (Ax h_v1)).q fun a w F W => ?_
  refine ls F W Aa (Df F Aa Aa).q fun a w F W => ?_
  refine Ae (Ad ?_)
  refine AJ F Aa (fun hb => ?_) fun hb => ?_
  ·
   have H := A9 (Bj hb) H
   rw [hb] at F
   clear hb
   refine AC (Ad ?_)
   obtain ⟨o3, G3, K3⟩ := Am H
   refine Bq (fun a w => ∃ x5 : Int, some (x5) = some o3 ∧ Fr 88 [] [(0, v1), (3, .pointer (some ⟨b1, 0, none⟩)), (4, .bool false), (5, .int .i64 x5), (6, .int .i64 x4)] a ∧ Stw ⟨Y, [], w0⟩ [(b1, [.int .i64 p1.1, .int .i64 p1.2.1, .int .i64 p1.2.2.1, .int .i64 p1.2.2.2.1, .int .i64 p1.2.2.2.2.1, .int .i64 p1.2.2.2.2.2])] [] w) ?_ ?_
   ·
    have H := G3
    clear G3 K3
    refine AG (Ai (Ac ?_))
    iterate 2 refine ls F W Aa (Ag F Aa).q fun a w F W => ?_
    obtain ⟨x6, h2, H⟩ := Am H
    refine ls F W Aa (A0 (r := CK) HH F Aa Aa (Ax h_v1) h2).q fun a w F W => ?_
    refine ls F W Aa (Ab CF Aa Aa Aa T3 F Aa (Cg v1 + (x4).toNat * 6) Aa).q fun a w F W => ?_
    refine ls F W Aa (AD (y := Value.int .i64 x6.1) (j := 0) (i := x4) F Aa Aa (Ax h_v1) h2 HP.to T3 Aa).q fun a w F W => ?_
    refine ls F W Aa (CR F Aa Aa).q fun a w F W => ?_
    refine Ae (Ad ?_)
    refine AJ F Aa (fun hb => ?_) fun hb => ?_
    ·
     have H := A9 (Bj hb) H
     rw [hb] at F
     clear hb
     refine Ac ?_
     refine ls F W Aa (Ag F Aa).q fun a w F W => ?_
     refine ls F W Aa (Cy F Aa Aa Aa).q fun a w F W => ?_
     refine ls F W Aa (Ah F Aa).q fun a w F W => ?_
     refine Ae (AW (Ad ?_))
     exact ⟨_, H, F.re ⟨rfl, Aa, Aa, Aa, Aa, trivial⟩, W⟩
    have H := A5 (Bi hb) H
    rw [hb] at F
    clear hb
    refine AC (AW (Ad ?_))
    exact ⟨_, H, F.re ⟨rfl, Aa, Aa, Aa, Aa, trivial⟩, W⟩
   rintro a w ⟨x5, hj, F, W⟩
   have hj := Bf hj
   subst hj
   have H := K3
   clear G3 K3
   refine Ac ?_
   refine ls F W Aa (Ag F Aa).q fun a w F W => ?_
   refine ls F W Aa (Cy F Aa Aa Aa).q fun a w F W => ?_
   refine ls F W Aa (Ah F Aa).q fun a w F W => ?_
   refine Ae (Ad ?_)
   exact ⟨_, H, F.re ⟨rfl, Aa, Aa, Aa, Aa, trivial⟩, W⟩
  have H := A5 (Bi hb) H
  rw [hb] at F
  clear hb
  refine Ck ?_
  iterate 2 refine CX ?_
  refine Co (Ad ?_)
  have H := L2 _ H
  exact ⟨_, H, F.re ⟨rfl, Aa, Aa, Aa, trivial⟩, W⟩
 rintro a w ⟨x2, hj, F, W⟩
 have hj := Bf hj
 subst hj
 have H := K1
 clear G1 K1
 refine Ai (Ac ?_)
 refine ls F W Aa (Ah F Aa).q fun a w F W => ?_
 refine Ae (Ad (Ai (Ac ?_)))
 iterate 2 refine ls F W Aa (Ag F Aa).q fun a w F W => ?_
 have W := W.nilRow 41 CK
 obtain ⟨x7, h3, H⟩ := Am H
 refine Cx (r := CK) (i := 0) F W Aa HH Aa Aa Aa Aa (GU W s_v1) h3 Aa fun v2 a w F W => ?_
 have W : Stw ⟨Y, [], w0⟩ [(b1, [.int .i64 p1.1, .int .i64 p1.2.1, .int .i64 p1.2.2.1, .int .i64 p1.2.2.2.1, .int .i64 p1.2.2.2.2.1, .int .i64 p1.2.2.2.2.2])] [row v2 41 CK x7] w := W
 refine ls F W Aa (Ah F Aa).q fun a w F W => ?_
 refine Ae (Ad (Ai (Ac ?_)))
 refine ls F W Aa (Ag F Aa).q fun a w F W => ?_
 refine ls F W Aa (Ap (v := Value.agg #[.int .i64 p1.1, .int .i64 p1.2.1, .int .i64 p1.2.2.1, .int .i64 p1.2.2.2.1, .int .i64 p1.2.2.2.2.1, .int .i64 p1.2.2.2.2.2]) 0 F Aa Aa HD Aa).q fun a w F W => ?_
 refine EB (z := Value.agg #[.int .i64 0, .int .i64 0, .int .i64 0, .int .i64 0, .int .i64 0, .int .i64 0]) (cs := [.int .i64 p1.1, .int .i64 p1.2.1, .int .i64 p1.2.2.1, .int .i64 p1.2.2.2.1, .int .i64 p1.2.2.2.2.1, .int .i64 p1.2.2.2.2.2]) CK ([p1] : List (Int × Int × Int × Int × Int × Int)) F W Aa HH H7 Aa Aa Aa Aa Aa Aa (HP.repL _ _ ([p1] : List (Int × Int × Int × Int × Int × Int))) fun v3 a w F W => ?_
 obtain ⟨x8, h4, H⟩ := Am H
 refine Cx (r := CK) (i := 1) F W Aa HH Aa Aa Aa Aa (Dw W 0 Aa) h4 Aa fun v4 a w F W => ?_
 have W : Stw ⟨Y, [], w0⟩ [(b1, [.int .i64 p1.1, .int .i64 p1.2.1, .int .i64 p1.2.2.1, .int .i64 p1.2.2.2.1, .int .i64 p1.2.2.2.2.1, .int .i64 p1.2.2.2.2.2])] [row v4 41 CK x8, row v3 41 CK ([p1] : List (Int × Int × Int × Int × Int × Int))] w := W
 refine ls F W Aa (Ah F Aa).q fun a w F W => ?_
 refine Ae (Ad (Ai (Ac ?_)))
 refine ls F W Aa (Ag F Aa).q fun a w F W => ?_
 obtain ⟨x9, h5, H⟩ := Am H
 refine Bd (Ml := []) (Zl := []) (M := [(b1, [.int .i64 p1.1, .int .i64 p1.2.1, .int .i64 p1.2.2.1, .int .i64 p1.2.2.2.1, .int .i64 p1.2.2.2.2.1, .int .i64 p1.2.2.2.2.2])]) (Z := [row v4 41 CK x8, row v3 41 CK ([p1] : List (Int × Int × Int × Int × Int × Int))]) (β := Value) (rv := fun x => x) (MM := fun x => []) (ZZ := fun x => [row x 34 Eb x9]) F W H6 Aa Aa (fun hL => Di _ w (v1) p0 _ h5 ((Ax h_v1) w W).nx) fun x a w F W => ?_
 obtain ⟨v5, rfl⟩ : ∃ y, y = x := ⟨x, rfl⟩
 have W : Stw ⟨Y, [], w0⟩ [(b1, [.int .i64 p1.1, .int .i64 p1.2.1, .int .i64 p1.2.2.1, .int .i64 p1.2.2.2.1, .int .i64 p1.2.2.2.2.1, .int .i64 p1.2.2.2.2.2])] [row v5 34 Eb x9, row v4 41 CK x8, row v3 41 CK ([p1] : List (Int × Int × Int × Int × Int × Int))] w := W
 obtain ⟨x10, h6, H⟩ := Am H
 have W := W.freeze
 refine Bd (Ml := []) (Zl := []) (M := [(b1, [.int .i64 p1.1, .int .i64 p1.2.1, .int .i64 p1.2.2.1, .int .i64 p1.2.2.2.1, .int .i64 p1.2.2.2.2.1, .int .i64 p1.2.2.2.2.2])]) (Z := [Fy v5 Eb x9, row v4 41 CK x8, row v3 41 CK ([p1] : List (Int × Int × Int × Int × Int × Int))]) (β := Value) (rv := fun x => x) (MM := fun x => []) (ZZ := fun x => [row x 32 Cf x10]) F W H9 Aa Aa (fun hL => Dt _ w (v5) x9 _ h6 (W.item (i := 0) Aa)) fun x a w F W => ?_
 obtain ⟨v6, rfl⟩ : ∃ y, y = x := ⟨x, rfl⟩
 have W : Stw ⟨Y, [], w0⟩ [(b1, [.int .i64 p1.1, .int .i64 p1.2.1, .int .i64 p1.2.2.1, .int .i64 p1.2.2.2.1, .int .i64 p1.2.2.2.2.1, .int .i64 p1.2.2.2.2.2])] [row v6 32 Cf x10, Fy v5 Eb x9, row v4 41 CK x8, row v3 41 CK ([p1] : List (Int × Int × Int × Int × Int × Int))] w := W
 refine ls F W Aa (Ag F Aa).q fun a w F W => ?_
 obtain ⟨x11, h7, H⟩ := Am H
 refine Bd (Ml := []) (Zl := []) (M := [(b1, [.int .i64 p1.1, .int .i64 p1.2.1, .int .i64 p1.2.2.1, .int .i64 p1.2.2.2.1, .int .i64 p1.2.2.2.2.1, .int .i64 p1.2.2.2.2.2])]) (Z := [row v6 32 Cf x10, Fy v5 Eb x9, row v4 41 CK x8, row v3 41 CK ([p1] : List (Int × Int × Int × Int × Int × Int))]) (β := Value) (rv := fun x => x) (MM := fun x => []) (ZZ := fun x => [row x 34 Eb x11]) F W H6 Aa Aa (fun hL => Di _ w (v4) x8 _ h7 ((Az 2 Aa) w W).nx) fun x a w F W => ?_
 obtain ⟨v7, rfl⟩ : ∃ y, y = x := ⟨x, rfl⟩
 have W : Stw ⟨Y, [], w0⟩ [(b1, [.int .i64 p1.1, .int .i64 p1.2.1, .int .i64 p1.2.2.1, .int .i64 p1.2.2.2.1, .int .i64 p1.2.2.2.2.1, .int .i64 p1.2.2.2.2.2])] [row v7 34 Eb x11, row v6 32 Cf x10, Fy v5 Eb x9, row v4 41 CK x8, row v3 41 CK ([p1] : List (Int × Int × Int × Int × Int × Int))] w := W
 obtain ⟨x12, h8, H⟩ := Am H
 have W := W.freeze
 refine Bd (Ml := []) (Zl := []) (M := [(b1, [.int .i64 p1.1, .int .i64 p1.2.1, .int .i64 p1.2.2.1, .int .i64 p1.2.2.2.1, .int .i64 p1.2.2.2.2.1, .int .i64 p1.2.2.2.2.2])]) (Z := [Fy v7 Eb x11, row v6 32 Cf x10, Fy v5 Eb x9, row v4 41 CK x8, row v3 41 CK ([p1] : List (Int × Int × Int × Int × Int × Int))]) (β := Value) (rv := fun x => x) (MM := fun x => []) (ZZ := fun x => [row x 32 Cf x12]) F W H9 Aa Aa (fun hL => Dt _ w (v7) x11 _ h8 (W.item (i := 0) Aa)) fun x a w F W => ?_
 obtain ⟨v8, rfl⟩ : ∃ y, y = x := ⟨x, rfl⟩
 have W : Stw ⟨Y, [], w0⟩ [(b1, [.int .i64 p1.1, .int .i64 p1.2.1, .int .i64 p1.2.2.1, .int .i64 p1.2.2.2.1, .int .i64 p1.2.2.2.2.1, .int .i64 p1.2.2.2.2.2])] [row v8 32 Cf x12, Fy v7 Eb x11, row v6 32 Cf x10, Fy v5 Eb x9, row v4 41 CK x8, row v3 41 CK ([p1] : List (Int × Int × Int × Int × Int × Int))] w := W
 iterate 2 refine ls F W Aa (Ah F Aa).q fun a w F W => ?_
 refine Ae (Ad (Ai ?_))
 refine Bq (fun a w => Fr 88 [] [(3, .pointer (some ⟨b1, 0, none⟩)), (4, .bool false), (5, .int .i64 x2), (8, v6), (9, v8), (51, .bool (decide ((x10.length : Int) ≠ x2) || decide ((x12.length : Int) < x2)))] a ∧ Stw ⟨Y, [], w0⟩ [(b1, [.int .i64 p1.1, .int .i64 p1.2.1, .int .i64 p1.2.2.1, .int .i64 p1.2.2.2.1, .int .i64 p1.2.2.2.2.1, .int .i64 p1.2.2.2.2.2])] [row v8 32 Cf x12, Fy v7 Eb x11, row v6 32 Cf x10, Fy v5 Eb x9, row v4 41 CK x8, row v3 41 CK ([p1] : List (Int × Int × Int × Int × Int × Int))] w) ?_ ?_
 ·
  refine Ac ?_
  refine ls F W Aa (Ag F Aa).q fun a w F W => ?_
  refine ls F W Aa (BD (r := Cf) (l := x10) FQ Aa F Aa (Az 2 Aa)).q fun a w F W => ?_
  refine ls F W Aa (Ag F Aa).q fun a w F W => ?_
  refine ls F W Aa (Cl F Aa Aa).q fun a w F W => ?_
  refine ls F W Aa (Ag F Aa).q fun a w F W => ?_
  rcases Bool.eq_false_or_eq_true (decide ((x10.length : Int) ≠ x2)) with hb0 | hb0
  ·
   rw [hb0] at F
   iterate 4 refine C1 F Aa Aa Aa Aa Aa Aa Aa fun a F => ?_
   refine ls F W Aa (Av F Aa Aa Aa).q fun a w F W => ?_
   refine Ae (Ad ?_)
   exact ⟨F.re ⟨rfl, Aa, Aa, Aa, Aa, (by show some (Value.bool true) = some (Value.bool (decide ((x10.length : Int) ≠ x2) || decide ((x12.length : Int) < x2))); try rw [hb0]; all_goals simp only [Bool.not_true, Bool.not_false, Bool.true_and, Bool.false_and, Bool.true_or, Bool.false_or, Bool.and_true, Bool.or_false, cond_true, cond_false]), trivial⟩, W⟩
  rw [hb0] at F
  refine AK F W (Af F Aa Aa Aa Aa) Aa (Au Aa) (Ag F Aa).q fun a w F W => ?_
  refine AK F W (Af F Aa Aa Aa Aa) Aa (Au Aa) (BD (r := Cf) (l := x12) FQ Aa F Aa (Az 0 Aa)).q fun a w F W => ?_
  refine AK F W (Af F Aa Aa Aa Aa) Aa (Au Aa) (Ag F Aa).q fun a w F W => ?_
  refine AK F W (Af F Aa Aa Aa Aa) Aa (Au Aa) (Df F Aa Aa).q fun a w F W => ?_
  refine ls F W Aa (AN F Aa Aa Aa).q fun a w F W => ?_
  refine Ae (Ad ?_)
  exact ⟨F.re ⟨rfl, Aa, Aa, Aa, Aa, (by show some (Value.bool (decide ((x12.length : Int) < x2))) = some (Value.bool (decide ((x10.length : Int) ≠ x2) || decide ((x12.length : Int) < x2))); try rw [hb0]; all_goals simp only [Bool.not_true, Bool.not_false, Bool.true_and, Bool.false_and, Bool.true_or, Bool.false_or, Bool.and_true, Bool.or_false, cond_true, cond_false]), trivial⟩, W⟩
 rintro a w ⟨F, W⟩
 refine AJ F Aa (fun hb => ?_) fun hb => ?_
 ·
  have H := A9 hb H
  rw [hb] at F
  clear hb
  refine Ai (Ac ?_)
  refine ls F W Aa (Ah F Aa).q fun a w F W => ?_
  refine Ae (Ad (AQ (Bx ?_)))
  have H := Bf H
  subst H
  refine Bk (.inl Aa) F W Aa (AZ F Aa) ?_
  exact ⟨rfl, W.done⟩
 have H := A5 (by rw [hb]; decide) H
 rw [hb] at F
 clear hb
 refine AC (Ad ?_)
 obtain ⟨o4, G4, K4, L4⟩ := Ih H
 refine Bq (fun a w => some (Sum.inl ()) = some o4 ∧ Fr 88 [] [(4, .bool false)] a ∧ Stw ⟨Y, [], w0⟩ [(b1, [.int .i64 p1.1, .int .i64 p1.2.1, .int .i64 p1.2.2.1, .int .i64 p1.2.2.2.1, .int .i64 p1.2.2.2.2.1, .int .i64 p1.2.2.2.2.2])] [] w) ?_ ?_
 ·
  have H := G4
  clear G4 K4
  refine Ai (Ac ?_)
  refine ls F W Aa (Ah F Aa).q fun a w F W => ?_
  refine Ae (Ad (AG ?_))
  have W := W.frontZ (i := 2) Aa Aa
  have W := W.sub (M' := [(b1, [.int .i64 p1.1, .int .i64 p1.2.1, .int .i64 p1.2.2.1, .int .i64 p1.2.2.2.1, .int .i64 p1.2.2.2.2.1, .int .i64 p1.2.2.2.2.2])]) (Z' := [row v6 32 Cf x10, row v8 32 Cf x12]) (List.Sublist.refl _) (List.Sublist.cons_cons _ (List.Sublist.cons_cons _ (List.nil_sublist _)))
  refine Cj H (fun s a w => Fr 88 [] [(3, .pointer (some ⟨b1, 0, none⟩)), (4, .bool false), (5, .int .i64 x2), (8, v6), (9, v8), (10, .int .i64 s)] a ∧ Stw ⟨Y, [], w0⟩ [(b1, [.int .i64 p1.1, .int .i64 p1.2.1, .int .i64 p1.2.2.1, .int .i64 p1.2.2.2.1, .int .i64 p1.2.2.2.2.1, .int .i64 p1.2.2.2.2.2])] [row v6 32 Cf x10, row v8 32 Cf x12] w) ⟨F.re ⟨rfl, Aa, Aa, Aa, Aa, Aa, trivial⟩, W⟩ fun s o a w H L5 hR => ?_
  obtain ⟨x13, rfl⟩ : ∃ x, x = s := ⟨s, rfl⟩
  obtain ⟨F, W⟩ := hR
  have F : Fr 88 [] [(3, .pointer (some ⟨b1, 0, none⟩)), (4, .bool false), (5, .int .i64 x2), (8, v6), (9, v8), (10, .int .i64 x13)] a := F
  have W : Stw ⟨Y, [], w0⟩ [(b1, [.int .i64 p1.1, .int .i64 p1.2.1, .int .i64 p1.2.2.1, .int .i64 p1.2.2.2.1, .int .i64 p1.2.2.2.2.1, .int .i64 p1.2.2.2.2.2])] [row v6 32 Cf x10, row v8 32 Cf x12] w := W
  rw [Ba] at H
  refine Ai (Ai (Ac ?_))
  iterate 2 refine ls F W Aa (Ag F Aa).q fun a w F W => ?_
  refine ls F W Aa (Df F Aa Aa).q fun a w F W => ?_
  refine Ae (Ad ?_)
  refine AJ F Aa (fun hb => ?_) fun hb => ?_
  ·
   have H := A9 (Bj hb) H
   rw [hb] at F
   clear hb
   refine AC (Ad (Ai (AG ?_)))
   obtain ⟨o6, G6, K6⟩ := Am H
   refine Bq (fun a w => ∃ x14 : Bool, some (x14) = some o6 ∧ Fr 88 [] [(3, .pointer (some ⟨b1, 0, none⟩)), (4, .bool false), (5, .int .i64 x2), (8, v6), (9, v8), (10, .int .i64 x13), (86, .bool x14)] a ∧ Stw ⟨Y, [], w0⟩ [(b1, [.int .i64 p1.1, .int .i64 p1.2.1, .int .i64 p1.2.2.1, .int .i64 p1.2.2.2.1, .int .i64 p1.2.2.2.2.1, .int .i64 p1.2.2.2.2.2])] [row v6 32 Cf x10, row v8 32 Cf x12] w) ?_ ?_
   ·
    have H := G6
    clear G6 K6
    obtain ⟨v9, h9, W⟩ := W.exR Ce
    have W := W.frontZ (i := 1) Aa Aa
    obtain ⟨v10, h10, W⟩ := W.exR Ce
    refine DC W MO (by kernel_rfl) ?_
    iterate 2 refine qs F Aa (Ag F Aa).q fun a F => ?_
    obtain ⟨x15, h11, H⟩ := Am H
    obtain ⟨v11, h12, h13⟩ := Cm h9 h11
    have h14 : EK v11 = [.int .i64 x15.1, .int .i64 x15.2.1, .int .i64 x15.2.2.1, .int .i64 x15.2.2.2.1, (v11.2.2.2.2.1.1), .int .i64 x15.2.2.2.2.2.1, .int .i64 x15.2.2.2.2.2.2.1, .int .i64 x15.2.2.2.2.2.2.2] := congrArg (fun q : Int × Int × Int × Int × List Int × Int × Int × Int => ([.int .i64 q.1, .int .i64 q.2.1, .int .i64 q.2.2.1, .int .i64 q.2.2.2.1, (v11.2.2.2.2.1.1), .int .i64 q.2.2.2.2.2.1, .int .i64 q.2.2.2.2.2.2.1, .int .i64 q.2.2.2.2.2.2.2] : List Value)) h13
    refine qs F Aa (A0 (r := FX) GJ F Aa Aa (Az 1 Aa) h12).q fun a F => ?_
    refine qs F Aa (Ab CA Aa Aa Aa T3 F Aa (Cg v6 + (x13).toNat * 8) Aa).q fun a F => ?_
    refine qs F Aa (AD (y := Value.int .i64 x15.1) (j := 0) (i := x13) (enc := EK) F Aa Aa (Az 1 Aa) h12 GK T3 (by rw [h14]; rfl)).q fun a F => ?_
    refine qs F Aa (Ab CF Aa Aa Aa T3 F Aa 2 Aa).q fun a F => ?_
    refine qs F Aa (Ap (v := Value.int .i64 p1.2.2.1) 0 F Aa Aa T3 Aa).q fun a F => ?_
    refine qs F Aa (Cl F Aa Aa).q fun a F => ?_
    refine qs F Aa (Ag F Aa).q fun a F => ?_
    rcases Bool.eq_false_or_eq_true (decide (x15.1 ≠ p1.2.2.1)) with hb | hb
    ·
     have H := A9 (Bj hb) H
     rw [hb] at F
     clear hb
     iterate 6 refine FI F (DY F Aa Aa Aa Aa Aa) Aa Aa fun a F => ?_
     refine qs F Aa (Av F Aa Aa Aa).q fun a F => ?_
     refine qs F Aa (Ag F Aa).q fun a F => ?_
     iterate 3 refine Ch F (Af F Aa Aa Aa Aa) Aa (Au Aa) (Ag F Aa).q fun a F => ?_
     refine Ch F (Af F Aa Aa Aa Aa) Aa (Au Aa) (Cy F Aa Aa Aa).q fun a F => ?_
     obtain ⟨x16, h15, H⟩ := Am H
     obtain ⟨v12, h16, h17⟩ := DT h9 h15
     refine Ch F (Af F Aa Aa Aa Aa) Aa (Au Aa) (DV (r := Cf) GJ F Aa Aa Aa (A3 Ce h9 (Az 1 Aa)) h15).q fun a F => ?_
     iterate 3 refine Ch F (Af F Aa Aa Aa Aa) Aa (Au Aa) (Ag F Aa).q fun a F => ?_
     refine Ch F (Af F Aa Aa Aa Aa) Aa (Au Aa) (Cy F Aa Aa Aa).q fun a F => ?_
     obtain ⟨x17, h18, H⟩ := Am H
     obtain ⟨v13, h19, h20⟩ := DT h10 h18
     refine Ch F (Af F Aa Aa Aa Aa) Aa (Au Aa) (DV (r := Cf) GJ F Aa Aa Aa (A3 Ce h10 (Az 0 Aa)) h18).q fun a F => ?_
     obtain ⟨x18, h21, H⟩ := Am H
     refine Ch F (Af F Aa Aa Aa Aa) Aa (Au Aa) (Bg (v := Value.bool x18) F H8 Aa (fun w W => DW any w ((Bn v6 x13 (DS (x13 + 1)) 8)) ((Bn v8 x13 (DS (x13 + 1)) 8)) x16 x17 _ h21 (((DP (A3 Ce h9 (Az 1 Aa)) h15) : DF _ _ _ _ _ _) w W).nx (((DP (A3 Ce h10 (Az 0 Aa)) h18) : DF _ _ _ _ _ _) w W).nx)) fun a F => ?_
     refine Ch F (Af F Aa Aa Aa Aa) Aa (Au Aa) (E3 F Aa).q fun a F => ?_
     refine qs F Aa (Av F Aa Aa Aa).q fun a F => ?_
     refine Bv fun w W => ?_
     have W := W.note (W.rowAt (k := 1) Aa h12 (Aq.snd (Aq.snd (Aq.snd (Aq.snd (Aq.fst Aq.here))))) (congrArg (fun q : Int × Int × Int × Int × List Int × Int × Int × Int => q.2.2.2.2.1) h13))
     refine Ad ?_
     have W := W.frontZ (i := 2) Aa Aa
     have W := W.hideR Ce h9
     have W := W.frontZ (i := 2) Aa Aa
     have W := W.hideR Ce h10
     have W := W.frontZ (i := 1) Aa Aa
     have W := W.sub (M' := [(b1, [.int .i64 p1.1, .int .i64 p1.2.1, .int .i64 p1.2.2.1, .int .i64 p1.2.2.2.1, .int .i64 p1.2.2.2.2.1, .int .i64 p1.2.2.2.2.2])]) (Z' := [row v6 32 Cf x10, row v8 32 Cf x12]) (List.Sublist.refl _) (List.Sublist.cons_cons _ (List.Sublist.cons_cons _ (List.nil_sublist _)))
     exact ⟨_, H, F.re ⟨rfl, Aa, Aa, Aa, Aa, Aa, Aa, trivial⟩, W⟩
    have H := A5 (Bi hb) H
    rw [hb] at F
    clear hb
    iterate 2 refine Ch F (Af F Aa Aa Aa Aa) Aa (Au Aa) (Ag F Aa).q fun a F => ?_
    obtain ⟨x19, h22, H⟩ := Am H
    obtain ⟨v14, h23, h24⟩ := Cm h9 h22
    have h25 : EK v14 = [.int .i64 x19.1, .int .i64 x19.2.1, .int .i64 x19.2.2.1, .int .i64 x19.2.2.2.1, (v14.2.2.2.2.1.1), .int .i64 x19.2.2.2.2.2.1, .int .i64 x19.2.2.2.2.2.2.1, .int .i64 x19.2.2.2.2.2.2.2] := congrArg (fun q : Int × Int × Int × Int × List Int × Int × Int × Int => ([.int .i64 q.1, .int .i64 q.2.1, .int .i64 q.2.2.1, .int .i64 q.2.2.2.1, (v14.2.2.2.2.1.1), .int .i64 q.2.2.2.2.2.1, .int .i64 q.2.2.2.2.2.2.1, .int .i64 q.2.2.2.2.2.2.2] : List Value)) h24
    refine Ch F (Af F Aa Aa Aa Aa) Aa (Au Aa) (A0 (r := FX) GJ F Aa Aa (Az 1 Aa) h23).q fun a F => ?_
    refine Ch F (Af F Aa Aa Aa Aa) Aa (Au Aa) (Ab CA Aa Aa Aa T3 F Aa (Cg v6 + (x13).toNat * 8 + 5) Aa).q fun a F => ?_
    refine Ch F (Af F Aa Aa Aa Aa) Aa (Au Aa) (AD (y := Value.int .i64 x19.2.2.2.2.2.1) (j := 5) (i := x13) (enc := EK) F Aa Aa (Az 1 Aa) h23 GK T3 (by rw [h25]; rfl)).q fun a F => ?_
    refine Ch F (Af F Aa Aa Aa Aa) Aa (Au Aa) (Cl F Aa Aa).q fun a F => ?_
    refine qs F Aa (AN F Aa Aa Aa).q fun a F => ?_
    refine qs F Aa (Ag F Aa).q fun a F => ?_
    rcases Bool.eq_false_or_eq_true (decide (x19.2.2.2.2.2.1 ≠ 0)) with hb | hb
    ·
     have H := A9 (Bj hb) H
     rw [hb] at F
     clear hb
     iterate 3 refine Ch F (Af F Aa Aa Aa Aa) Aa (Au Aa) (Ag F Aa).q fun a F => ?_
     refine Ch F (Af F Aa Aa Aa Aa) Aa (Au Aa) (Cy F Aa Aa Aa).q fun a F => ?_
     obtain ⟨x20, h26, H⟩ := Am H
     obtain ⟨v15, h27, h28⟩ := DT h9 h26
     refine Ch F (Af F Aa Aa Aa Aa) Aa (Au Aa) (DV (r := Cf) GJ F Aa Aa Aa (A3 Ce h9 (Az 1 Aa)) h26).q fun a F => ?_
     iterate 3 refine Ch F (Af F Aa Aa Aa Aa) Aa (Au Aa) (Ag F Aa).q fun a F => ?_
     refine Ch F (Af F Aa Aa Aa Aa) Aa (Au Aa) (Cy F Aa Aa Aa).q fun a F => ?_
     obtain ⟨x21, h29, H⟩ := Am H
     obtain ⟨v16, h30, h31⟩ := DT h10 h29
     refine Ch F (Af F Aa Aa Aa Aa) Aa (Au Aa) (DV (r := Cf) GJ F Aa Aa Aa (A3 Ce h10 (Az 0 Aa)) h29).q fun a F => ?_
     obtain ⟨x22, h32, H⟩ := Am H
     refine Ch F (Af F Aa Aa Aa Aa) Aa (Au Aa) (Bg (v := Value.bool x22) F H8 Aa (fun w W => DW any w ((Bn v6 x13 (DS (x13 + 1)) 8)) ((Bn v8 x13 (DS (x13 + 1)) 8)) x20 x21 _ h32 (((DP (A3 Ce h9 (Az 1 Aa)) h26) : DF _ _ _ _ _ _) w W).nx (((DP (A3 Ce h10 (Az 0 Aa)) h29) : DF _ _ _ _ _ _) w W).nx)) fun a F => ?_
     refine Ch F (Af F Aa Aa Aa Aa) Aa (Au Aa) (E3 F Aa).q fun a F => ?_
     refine qs F Aa (Av F Aa Aa Aa).q fun a F => ?_
     refine Bv fun w W => ?_
     have W := W.note (W.rowAt (k := 1) Aa h12 (Aq.snd (Aq.snd (Aq.snd (Aq.snd (Aq.fst Aq.here))))) (congrArg (fun q : Int × Int × Int × Int × List Int × Int × Int × Int => q.2.2.2.2.1) h13))
     have W := W.note (W.rowAt (k := 2) Aa h23 (Aq.snd (Aq.snd (Aq.snd (Aq.snd (Aq.fst Aq.here))))) (congrArg (fun q : Int × Int × Int × Int × List Int × Int × Int × Int => q.2.2.2.2.1) h24))
     refine Ad ?_
     have W := W.frontZ (i := 3) Aa Aa
     have W := W.hideR Ce h9
     have W := W.frontZ (i := 3) Aa Aa
     have W := W.hideR Ce h10
     have W := W.frontZ (i := 1) Aa Aa
     have W := W.sub (M' := [(b1, [.int .i64 p1.1, .int .i64 p1.2.1, .int .i64 p1.2.2.1, .int .i64 p1.2.2.2.1, .int .i64 p1.2.2.2.2.1, .int .i64 p1.2.2.2.2.2])]) (Z' := [row v6 32 Cf x10, row v8 32 Cf x12]) (List.Sublist.refl _) (List.Sublist.cons_cons _ (List.Sublist.cons_cons _ (List.nil_sublist _)))
     exact ⟨_, H, F.re ⟨rfl, Aa, Aa, Aa, Aa, Aa, Aa, trivial⟩, W⟩
    have H := A5 (Bi hb) H
    rw [hb] at F
    clear hb
    iterate 12 refine FI F (DY F Aa Aa Aa Aa Aa) Aa Aa fun a F => ?_
    refine qs F Aa (AN F Aa Aa Aa).q fun a F => ?_
    refine Bv fun w W => ?_
    have W := W.note (W.rowAt (k := 1) Aa h12 (Aq.snd (Aq.snd (Aq.snd (Aq.snd (Aq.fst Aq.here))))) (congrArg (fun q : Int × Int × Int × Int × List Int × Int × Int × Int => q.2.2.2.2.1) h13))
    have W := W.note (W.rowAt (k := 2) Aa h23 (Aq.snd (Aq.snd (Aq.snd (Aq.snd (Aq.fst Aq.here))))) (congrArg (fun q : Int × Int × Int × Int × List Int × Int × Int × Int => q.2.2.2.2.1) h24))
    refine Ad ?_
    have W := W.frontZ (i := 3) Aa Aa
    have W := W.hideR Ce h9
    have W := W.frontZ (i := 3) Aa Aa
    have W := W.hideR Ce h10
    have W := W.frontZ (i := 1) Aa Aa
    have W := W.sub (M' := [(b1, [.int .i64 p1.1, .int .i64 p1.2.1, .int .i64 p1.2.2.1, .int .i64 p1.2.2.2.1, .int .i64 p1.2.2.2.2.1, .int .i64 p1.2.2.2.2.2])]) (Z' := [row v6 32 Cf x10, row v8 32 Cf x12]) (List.Sublist.refl _) (List.Sublist.cons_cons _ (List.Sublist.cons_cons _ (List.nil_sublist _)))
    exact ⟨_, H, F.re ⟨rfl, Aa, Aa, Aa, Aa, Aa, Aa, trivial⟩, W⟩
   rintro a w ⟨x14, hj, F, W⟩
   have hj := Bf hj
   subst hj
   have H := K6
   clear G6 K6
   refine AJ F Aa (fun hb => ?_) fun hb => ?_
   ·
    have H := A9 hb H
    rw [hb] at F
    clear hb
    refine Ai (Ac ?_)
    refine ls F W Aa (Ah F Aa).q fun a w F W => ?_
    refine Ae (Ad (AQ (Cq ?_)))
    iterate 2 refine Bx ?_
    refine Cq (Bx ?_)
    have H := L5 _ H
    have H := L4 _ H
    have H := Bf H
    subst H
    refine Bk (.inl Aa) F W Aa (AZ F Aa) ?_
    exact ⟨rfl, W.done⟩
   have H := A5 (by rw [hb]; decide) H
   rw [hb] at F
   clear hb
   refine AC (AW (Ad (Ac ?_)))
   refine ls F W Aa (Ag F Aa).q fun a w F W => ?_
   refine ls F W Aa (Cy F Aa Aa Aa).q fun a w F W => ?_
   refine ls F W Aa (Ah F Aa).q fun a w F W => ?_
   refine Ae (Ad ?_)
   have W := W.frontZ (i := 1) Aa Aa
   have W := W.frontZ (i := 1) Aa Aa
   exact ⟨_, H, F.re ⟨rfl, Aa, Aa, Aa, Aa, Aa, trivial⟩, W⟩
  have H := A5 (Bi hb) H
  rw [hb] at F
  clear hb
  refine Ck ?_
  iterate 2 refine CX ?_
  refine Co (Ad ?_)
  have W := W.sub (M' := [(b1, [.int .i64 p1.1, .int .i64 p1.2.1, .int .i64 p1.2.2.1, .int .i64 p1.2.2.2.1, .int .i64 p1.2.2.2.2.1, .int .i64 p1.2.2.2.2.2])]) (Z' := []) (List.Sublist.refl _) (List.nil_sublist _)
  have H := L5 _ H
  exact ⟨H, F.re ⟨rfl, trivial⟩, W⟩
 rintro a w ⟨hj, F, W⟩
 have H := K4 _ hj
 clear hj G4 K4 L4
 refine Ai (Ac ?_)
 obtain ⟨x23, h33, H⟩ := Am H
 refine ls F W Aa (Bg (v := Value.bool x23) F H5 Aa (fun w W => DD any w _ h33 (hG.go0 W))) fun a w F W => ?_
 refine ls F W Aa (Ah F Aa).q fun a w F W => ?_
 refine Ae (Ad (AQ ?_))
 have H := Bf H
 subst H
 refine Bk (.inl Aa) F W Aa (AZ F Aa) ?_
 exact ⟨rfl, W.done⟩
end Go.Proofs.YtpmhmemmniiomaaDoor
