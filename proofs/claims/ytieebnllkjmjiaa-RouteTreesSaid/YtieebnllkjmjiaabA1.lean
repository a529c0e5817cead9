/- The functions of layer 21, G0. Conditions: none. -/
import Derived.Test.YtieebnllkjmjiaabA0
namespace Go.Proofs.Ytieebnllkjmjiaa
open Go Go.RowKit
set_option linter.unusedVariables false
set_option linter.unusedSimpArgs false
set_option maxRecDepth 20000
theorem QQ : type_of% Try.underlying69 := Try.underlying69
theorem SF : Has Try.prog 35 := ⟨fun args w => Aj Try.func35 rfl (by decide) args w⟩
noncomputable def BH (p0 : Int × (List (Int × Int × Int × Int × Int × Int)) × (List (Int × Int))) (x2 : (List (Int × Int))) : (Int × (List ((Int × Int) × Unit))) → Option ((Int × (List ((Int × Int) × Unit))) ⊕ ((List ((Int × Int) × Unit)) ⊕ Bool))
  | (x3, x4) => (if x3 < (x2.length : Int) then (ix x2 x3).bind fun x5 => (if (decide (x5.1 < 0) || (decide (p0.1 ≤ x5.1) || (decide (x5.2 < 0) || decide (8 ≤ x5.2)))) = true then some (.inr (.inr false)) else (if ((Ic x4 x5).isSome) = true then some (.inr (.inr false)) else some (.inl (BV (x3 + 1), Ij x4 x5 ())))) else some (.inr (.inl x4)))
noncomputable def C9 (p0 : Int × (List (Int × Int × Int × Int × Int × Int)) × (List (Int × Int))) : Option Bool := (if (decide (p0.1 < 1) || (decide (8 < p0.1) || (decide (24 < (p0.2.1.length : Int)) || decide (8 < (p0.2.2.length : Int))))) = true then some false else Fv ((Db p0).bind fun x2 => AA (BH p0 x2) (0, ([] : List ((Int × Int) × Unit)))) fun x1 => (AS p0.2.1).bind fun x6 => some (!x6))
theorem Hh (Y : Nat → Prop) (w0 : World) (v1 : Value) (v2 : Value) (p0 : Int × (List (Int × Int × Int × Int × Int × Int)) × (List (Int × Int))) (r : Bool) (H : C9 p0 = some r) (h_v1 : Sl w0 (NX []) Ev v1 p0.2.1) (h_v2 : Sl w0 (NX []) Ep v2 p0.2.2) :
    Calls Try.prog 21 #[.agg #[.int .i64 p0.1, v1, v2]] w0 fun e w' => e = .returned (.bool r) ∧ Below w0.heap.size w0 w' := by
 refine enter Try.func21 Aa Try.ntmps21 Aa fun a F => ?_
 have W := Stw.start Y w0
 unfold C9 at H
 refine Ah (Ab ?_)
 refine C5 (cs := [.int .i64 p0.1, v1, v2]) F W Aa Aa Aa fun b1 a w F W => ?_
 refine ls F W Aa (Ae F Aa).q fun a w F W => ?_
 refine Ad (Ac (Ah ?_))
 refine AJ (fun a w => Fr 71 [] [(1, .pointer (some ⟨b1, 0, none⟩)), (2, .bool false), (27, .bool (decide (p0.1 < 1) || (decide (8 < p0.1) || (decide (24 < (p0.2.1.length : Int)) || decide (8 < (p0.2.2.length : Int))))))] a ∧ Stw ⟨Y, [], w0⟩ [(b1, [.int .i64 p0.1, v1, v2])] [] w) ?_ ?_
 ·
  refine Ab ?_
  refine ls F W Aa (Ai CC Aa Aa Aa T3 F Aa 0 Aa).q fun a w F W => ?_
  refine ls F W Aa (An (v := Value.int .i64 p0.1) 0 F Aa Aa T3 Aa).q fun a w F W => ?_
  refine ls F W Aa (Bg F Aa Aa).q fun a w F W => ?_
  refine ls F W Aa (Af F Aa).q fun a w F W => ?_
  rcases Bool.eq_false_or_eq_true (decide (p0.1 < 1)) with hb0 | hb0
  ·
   rw [hb0] at F
   iterate 3 refine Cd F Aa Aa Aa Aa Aa Aa Aa fun a F => ?_
   refine ls F W Aa (Ao F Aa Aa Aa).q fun a w F W => ?_
   refine ls F W Aa (Af F Aa).q fun a w F W => ?_
   iterate 4 refine Cd F Aa Aa Aa Aa Aa Aa Aa fun a F => ?_
   refine ls F W Aa (Ao F Aa Aa Aa).q fun a w F W => ?_
   refine ls F W Aa (Af F Aa).q fun a w F W => ?_
   iterate 4 refine Cd F Aa Aa Aa Aa Aa Aa Aa fun a F => ?_
   refine ls F W Aa (Ao F Aa Aa Aa).q fun a w F W => ?_
   refine Ad (Ac ?_)
   exact ⟨F.re ⟨rfl, Aa, (by show some (Value.bool true) = some (Value.bool (decide (p0.1 < 1) || (decide (8 < p0.1) || (decide (24 < (p0.2.1.length : Int)) || decide (8 < (p0.2.2.length : Int)))))); try rw [hb0]; all_goals simp only [Bool.not_true, Bool.not_false, Bool.true_and, Bool.false_and, Bool.true_or, Bool.false_or, Bool.and_true, Bool.or_false, cond_true, cond_false]), trivial⟩, W⟩
  rw [hb0] at F
  refine AF F W (Ag F Aa Aa Aa Aa) Aa (Al Aa) (Ai CC Aa Aa Aa T3 F Aa 0 Aa).q fun a w F W => ?_
  refine AF F W (Ag F Aa Aa Aa Aa) Aa (Al Aa) (An (v := Value.int .i64 p0.1) 0 F Aa Aa T3 Aa).q fun a w F W => ?_
  refine AF F W (Ag F Aa Aa Aa Aa) Aa (Al Aa) (DI F Aa Aa).q fun a w F W => ?_
  refine ls F W Aa (Au F Aa Aa Aa).q fun a w F W => ?_
  refine ls F W Aa (Af F Aa).q fun a w F W => ?_
  rcases Bool.eq_false_or_eq_true (decide (8 < p0.1)) with hb1 | hb1
  ·
   rw [hb1] at F
   iterate 4 refine Cd F Aa Aa Aa Aa Aa Aa Aa fun a F => ?_
   refine ls F W Aa (Ao F Aa Aa Aa).q fun a w F W => ?_
   refine ls F W Aa (Af F Aa).q fun a w F W => ?_
   iterate 4 refine Cd F Aa Aa Aa Aa Aa Aa Aa fun a F => ?_
   refine ls F W Aa (Ao F Aa Aa Aa).q fun a w F W => ?_
   refine Ad (Ac ?_)
   exact ⟨F.re ⟨rfl, Aa, (by show some (Value.bool true) = some (Value.bool (decide (p0.1 < 1) || (decide (8 < p0.1) || (decide (24 < (p0.2.1.length : Int)) || decide (8 < (p0.2.2.length : Int)))))); try rw [hb0]; try rw [hb1]; all_goals simp only [Bool.not_true, Bool.not_false, Bool.true_and, Bool.false_and, Bool.true_or, Bool.false_or, Bool.and_true, Bool.or_false, cond_true, cond_false]), trivial⟩, W⟩
  rw [hb1] at F
  refine AF F W (Ag F Aa Aa Aa Aa) Aa (Al Aa) (Ai CC Aa Aa Aa Il F Aa 1 Aa).q fun a w F W => ?_
  refine AF F W (Ag F Aa Aa Aa Aa) Aa (Al Aa) (An (v := v1) 0 F Aa Aa Il Aa).q fun a w F W => ?_
  refine AF F W (Ag F Aa Aa Aa Aa) Aa (Al Aa) (Bh (r := Ev) (l := p0.2.1) IC Aa F Aa (Ak h_v1)).q fun a w F W => ?_
  refine AF F W (Ag F Aa Aa Aa Aa) Aa (Al Aa) (DI F Aa Aa).q fun a w F W => ?_
  refine ls F W Aa (Au F Aa Aa Aa).q fun a w F W => ?_
  refine ls F W Aa (Af F Aa).q fun a w F W => ?_
  rcases Bool.eq_false_or_eq_true (decide (24 < (p0.2.1.length : Int))) with hb2 | hb2
  ·
   rw [hb2] at F
   iterate 4 refine Cd F Aa Aa Aa Aa Aa Aa Aa fun a F => ?_
   refine ls F W Aa (Ao F Aa Aa Aa).q fun a w F W => ?_
   refine Ad (Ac ?_)
   exact ⟨F.re ⟨rfl, Aa, (by show some (Value.bool true) = some (Value.bool (decide (p0.1 < 1) || (decide (8 < p0.1) || (decide (24 < (p0.2.1.length : Int)) || decide (8 < (p0.2.2.length : Int)))))); try rw [hb2]; try rw [hb0]; try rw [hb1]; all_goals simp only [Bool.not_true, Bool.not_false, Bool.true_and, Bool.false_and, Bool.true_or, Bool.false_or, Bool.and_true, Bool.or_false, cond_true, cond_false]), trivial⟩, W⟩
  rw [hb2] at F
  refine AF F W (Ag F Aa Aa Aa Aa) Aa (Al Aa) (Ai CC Aa Aa Aa Gy F Aa 2 Aa).q fun a w F W => ?_
  refine AF F W (Ag F Aa Aa Aa Aa) Aa (Al Aa) (An (v := v2) 0 F Aa Aa Gy Aa).q fun a w F W => ?_
  refine AF F W (Ag F Aa Aa Aa Aa) Aa (Al Aa) (Bh (r := Ep) (l := p0.2.2) IG Aa F Aa (Ak h_v2)).q fun a w F W => ?_
  refine AF F W (Ag F Aa Aa Aa Aa) Aa (Al Aa) (DI F Aa Aa).q fun a w F W => ?_
  refine ls F W Aa (Au F Aa Aa Aa).q fun a w F W => ?_
  refine Ad (Ac ?_)
  exact ⟨F.re ⟨rfl, Aa, (by show some (Value.bool (decide (8 < (p0.2.2.length : Int)))) = some (Value.bool (decide (p0.1 < 1) || (decide (8 < p0.1) || (decide (24 < (p0.2.1.length : Int)) || decide (8 < (p0.2.2.length : Int)))))); try rw [hb2]; try rw [hb0]; try rw [hb1]; all_goals simp only [Bool.not_true, Bool.not_false, Bool.true_and, Bool.false_and, Bool.true_or, Bool.false_or, Bool.and_true, Bool.or_false, cond_true, cond_false]), trivial⟩, W⟩
 rintro a w ⟨F, W⟩
 refine Aw F Aa (fun hb => ?_) fun hb => ?_
 ·
  have H := AM hb H
  rw [hb] at F
  clear hb
  refine Ah (Ab ?_)
  refine ls F W Aa (Ae F Aa).q fun a w F W => ?_
  refine Ad (Ac (Av (AH ?_)))
  have H := AP H
  subst H
  refine AQ (.inl Aa) F W Aa (Ap F Aa) ?_
  exact ⟨rfl, W.done⟩
 have H := AN (by rw [hb]; decide) H
 rw [hb] at F
 clear hb
 refine Aq (Ac (Ah (Ab ?_)))
 refine Np Hm HW F W Aa fun b2 a w F W => ?_
 have W : Stw ⟨Y, [], w0⟩ [(b1, [.int .i64 p0.1, v1, v2])] [mp b2 Hm HW ([] : List ((Int × Int) × Unit))] w := W
 refine ls F W Aa (Ae F Aa).q fun a w F W => ?_
 refine Ad (Ac ?_)
 obtain ⟨o1, G1, K1, L1⟩ := KJ H
 refine AJ (fun a w => ∃ x1 : List ((Int × Int) × Unit), some (Sum.inl x1) = some o1 ∧ Fr 71 [] [(1, .pointer (some ⟨b1, 0, none⟩)), (2, .bool false)] a ∧ Stw ⟨Y, [], w0⟩ [(b1, [.int .i64 p0.1, v1, v2])] [mp b2 Hm HW x1] w) ?_ ?_
 ·
  have H := G1
  clear G1 K1
  refine Ah (Ab ?_)
  refine ls F W Aa (An (v := Value.agg #[.int .i64 p0.1, v1, v2]) 0 F Aa Aa GI Aa).q fun a w F W => ?_
  obtain ⟨x2, h1, H⟩ := Am H
  refine BK (Ml := []) (Zl := []) (M := [(b1, [.int .i64 p0.1, v1, v2])]) (Z := [mp b2 Hm HW ([] : List ((Int × Int) × Unit))]) (β := Value) (rv := fun x => x) (MM := fun x => []) (ZZ := fun x => [row x 73 HH x2]) F W RZ Aa Aa (fun hL => JB _ w (v1) (v2) p0 _ h1 ((Ak h_v1) w W).nx ((Ak h_v2) w W).nx) fun x a w F W => ?_
  obtain ⟨v3, rfl⟩ : ∃ y, y = x := ⟨x, rfl⟩
  have W : Stw ⟨Y, [], w0⟩ [(b1, [.int .i64 p0.1, v1, v2])] [row v3 73 HH x2, mp b2 Hm HW ([] : List ((Int × Int) × Unit))] w := W
  refine ls F W Aa (Bh (r := HH) (l := x2) QL Aa F Aa (Ax 0 Aa)).q fun a w F W => ?_
  refine ls F W Aa (Af F Aa).q fun a w F W => ?_
  refine Ad (Ac (As ?_))
  have W := W.frontZ (i := 1) Aa Aa
  have W := W.frontZ (i := 1) Aa Aa
  refine A4 H (fun s a w => Fr 71 [] [(1, .pointer (some ⟨b1, 0, none⟩)), (2, .bool false), (3, .map (some b2)), (30, v3), (31, .int .i64 (x2.length : Int)), (32, .int .i64 s.1)] a ∧ Stw ⟨Y, [], w0⟩ [(b1, [.int .i64 p0.1, v1, v2])] [row v3 73 HH x2, mp b2 Hm HW s.2] w) ⟨F.re ⟨rfl, Aa, Aa, Aa, Aa, Aa, trivial⟩, W⟩ fun s o a w H L2 hR => ?_
  obtain ⟨x3, x4⟩ := s
  obtain ⟨F, W⟩ := hR
  have F : Fr 71 [] [(1, .pointer (some ⟨b1, 0, none⟩)), (2, .bool false), (3, .map (some b2)), (30, v3), (31, .int .i64 (x2.length : Int)), (32, .int .i64 x3)] a := F
  have W : Stw ⟨Y, [], w0⟩ [(b1, [.int .i64 p0.1, v1, v2])] [row v3 73 HH x2, mp b2 Hm HW x4] w := W
  rw [BH] at H
  refine Ah (Ab ?_)
  refine ls F W Aa (Bg F Aa Aa).q fun a w F W => ?_
  refine Ad (Ac (Ah ?_))
  refine Aw F Aa (fun hb => ?_) fun hb => ?_
  ·
   have H := AM (Bj hb) H
   rw [hb] at F
   clear hb
   refine Aq (Ac (Ah (As (Ah (Ab ?_)))))
   obtain ⟨x5, h2, H⟩ := Am H
   refine ls F W Aa (AK (r := HH) Qz F Aa Aa (Ax 0 Aa) h2).q fun a w F W => ?_
   refine ls F W Aa (Ay (y := Value.agg #[.int .i64 x5.1, .int .i64 x5.2]) (j := 0) (i := x3) F Aa Aa (Ax 0 Aa) h2 Rb.to Qr Aa).q fun a w F W => ?_
   refine CB (cs := [.int .i64 0, .int .i64 0]) F W Aa QY Aa fun b3 a w F W => ?_
   refine C4 (vs := [.int .i64 x5.1, .int .i64 x5.2]) (M' := [(b3, [.int .i64 x5.1, .int .i64 x5.2]), (b1, [.int .i64 p0.1, v1, v2])]) 0 F W Aa Aa Aa Qr Aa Aa Aa Aa Aa fun w W => ?_
   refine Ad (Ac (Ah ?_))
   refine AJ (fun a w => Fr 71 [] [(1, .pointer (some ⟨b1, 0, none⟩)), (2, .bool false), (3, .map (some b2)), (5, .pointer (some ⟨b3, 0, none⟩)), (30, v3), (31, .int .i64 (x2.length : Int)), (32, .int .i64 x3), (55, .bool (decide (x5.1 < 0) || (decide (p0.1 ≤ x5.1) || (decide (x5.2 < 0) || decide (8 ≤ x5.2)))))] a ∧ Stw ⟨Y, [], w0⟩ [(b3, [.int .i64 x5.1, .int .i64 x5.2]), (b1, [.int .i64 p0.1, v1, v2])] [row v3 73 HH x2, mp b2 Hm HW x4] w) ?_ ?_
   ·
    refine Ab ?_
    refine ls F W Aa (Ai K6 Aa Aa Aa T3 F Aa 0 Aa).q fun a w F W => ?_
    refine ls F W Aa (An (v := Value.int .i64 x5.1) 0 F Aa Aa T3 Aa).q fun a w F W => ?_
    refine ls F W Aa (Bg F Aa Aa).q fun a w F W => ?_
    refine ls F W Aa (Af F Aa).q fun a w F W => ?_
    rcases Bool.eq_false_or_eq_true (decide (x5.1 < 0)) with hb0 | hb0
    ·
     rw [hb0] at F
     iterate 5 refine Cd F Aa Aa Aa Aa Aa Aa Aa fun a F => ?_
     refine ls F W Aa (Ao F Aa Aa Aa).q fun a w F W => ?_
     refine ls F W Aa (Af F Aa).q fun a w F W => ?_
     iterate 3 refine Cd F Aa Aa Aa Aa Aa Aa Aa fun a F => ?_
     refine ls F W Aa (Ao F Aa Aa Aa).q fun a w F W => ?_
     refine ls F W Aa (Af F Aa).q fun a w F W => ?_
     iterate 3 refine Cd F Aa Aa Aa Aa Aa Aa Aa fun a F => ?_
     refine ls F W Aa (Ao F Aa Aa Aa).q fun a w F W => ?_
     refine Ad (Ac ?_)
     exact ⟨F.re ⟨rfl, Aa, Aa, Aa, Aa, Aa, Aa, (by show some (Value.bool true) = some (Value.bool (decide (x5.1 < 0) || (decide (p0.1 ≤ x5.1) || (decide (x5.2 < 0) || decide (8 ≤ x5.2))))); try rw [hb0]; all_goals simp only [Bool.not_true, Bool.not_false, Bool.true_and, Bool.false_and, Bool.true_or, Bool.false_or, Bool.and_true, Bool.or_false, cond_true, cond_false]), trivial⟩, W⟩
    rw [hb0] at F
    refine AF F W (Ag F Aa Aa Aa Aa) Aa (Al Aa) (Ai K6 Aa Aa Aa T3 F Aa 0 Aa).q fun a w F W => ?_
    refine AF F W (Ag F Aa Aa Aa Aa) Aa (Al Aa) (An (v := Value.int .i64 x5.1) 0 F Aa Aa T3 Aa).q fun a w F W => ?_
    refine AF F W (Ag F Aa Aa Aa Aa) Aa (Al Aa) (Ai CC Aa Aa Aa T3 F Aa 0 Aa).q fun a w F W => ?_
    refine AF F W (Ag F Aa Aa Aa Aa) Aa (Al Aa) (An (v := Value.int .i64 p0.1) 1 F Aa Aa T3 Aa).q fun a w F W => ?_
    refine AF F W (Ag F Aa Aa Aa Aa) Aa (Al Aa) (Ei F Aa Aa).q fun a w F W => ?_
    refine ls F W Aa (Au F Aa Aa Aa).q fun a w F W => ?_
    refine ls F W Aa (Af F Aa).q fun a w F W => ?_
    rcases Bool.eq_false_or_eq_true (decide (p0.1 ≤ x5.1)) with hb1 | hb1
    ·
     rw [hb1] at F
     iterate 3 refine Cd F Aa Aa Aa Aa Aa Aa Aa fun a F => ?_
     refine ls F W Aa (Ao F Aa Aa Aa).q fun a w F W => ?_
     refine ls F W Aa (Af F Aa).q fun a w F W => ?_
     iterate 3 refine Cd F Aa Aa Aa Aa Aa Aa Aa fun a F => ?_
     refine ls F W Aa (Ao F Aa Aa Aa).q fun a w F W => ?_
     refine Ad (Ac ?_)
     exact ⟨F.re ⟨rfl, Aa, Aa, Aa, Aa, Aa, Aa, (by show some (Value.bool true) = some (Value.bool (decide (x5.1 < 0) || (decide (p0.1 ≤ x5.1) || (decide (x5.2 < 0) || decide (8 ≤ x5.2))))); try rw [hb1]; try rw [hb0]; all_goals simp only [Bool.not_true, Bool.not_false, Bool.true_and, Bool.false_and, Bool.true_or, Bool.false_or, Bool.and_true, Bool.or_false, cond_true, cond_false]), trivial⟩, W⟩
    rw [hb1] at F
    refine AF F W (Ag F Aa Aa Aa Aa) Aa (Al Aa) (Ai K6 Aa Aa Aa T3 F Aa 1 Aa).q fun a w F W => ?_
    refine AF F W (Ag F Aa Aa Aa Aa) Aa (Al Aa) (An (v := Value.int .i64 x5.2) 0 F Aa Aa T3 Aa).q fun a w F W => ?_
    refine AF F W (Ag F Aa Aa Aa Aa) Aa (Al Aa) (Bg F Aa Aa).q fun a w F W => ?_
    refine ls F W Aa (Au F Aa Aa Aa).q fun a w F W => ?_
    refine ls F W Aa (Af F Aa).q fun a w F W => ?_
    rcases Bool.eq_false_or_eq_true (decide (x5.2 < 0)) with hb2 | hb2
    ·
     rw [hb2] at F
     iterate 3 refine Cd F Aa Aa Aa Aa Aa Aa Aa fun a F => ?_
     refine ls F W Aa (Ao F Aa Aa Aa).q fun a w F W => ?_
     refine Ad (Ac ?_)
     exact ⟨F.re ⟨rfl, Aa, Aa, Aa, Aa, Aa, Aa, (by show some (Value.bool true) = some (Value.bool (decide (x5.1 < 0) || (decide (p0.1 ≤ x5.1) || (decide (x5.2 < 0) || decide (8 ≤ x5.2))))); try rw [hb1]; try rw [hb0]; try rw [hb2]; all_goals simp only [Bool.not_true, Bool.not_false, Bool.true_and, Bool.false_and, Bool.true_or, Bool.false_or, Bool.and_true, Bool.or_false, cond_true, cond_false]), trivial⟩, W⟩
    rw [hb2] at F
    refine AF F W (Ag F Aa Aa Aa Aa) Aa (Al Aa) (Ai K6 Aa Aa Aa T3 F Aa 1 Aa).q fun a w F W => ?_
    refine AF F W (Ag F Aa Aa Aa Aa) Aa (Al Aa) (An (v := Value.int .i64 x5.2) 0 F Aa Aa T3 Aa).q fun a w F W => ?_
    refine AF F W (Ag F Aa Aa Aa Aa) Aa (Al Aa) (Ei F Aa Aa).q fun a w F W => ?_
    refine ls F W Aa (Au F Aa Aa Aa).q fun a w F W => ?_
    refine Ad (Ac ?_)
    exact ⟨F.re ⟨rfl, Aa, Aa, Aa, Aa, Aa, Aa, (by show some (Value.bool (decide (8 ≤ x5.2))) = some (Value.bool (decide (x5.1 < 0) || (decide (p0.1 ≤ x5.1) || (decide (x5.2 < 0) || decide (8 ≤ x5.2))))); try rw [hb1]; try rw [hb0]; try rw [hb2]; all_goals simp only [Bool.not_true, Bool.not_false, Bool.true_and, Bool.false_and, Bool.true_or, Bool.false_or, Bool.and_true, Bool.or_false, cond_true, cond_false]), trivial⟩, W⟩
   rintro a w ⟨F, W⟩
   refine Aw F Aa (fun hb => ?_) fun hb => ?_
   ·
    have H := AM hb H
    rw [hb] at F
    clear hb
    refine Ah (Ab ?_)
    refine ls F W Aa (Ae F Aa).q fun a w F W => ?_
    refine Ad (Ac (Av (AH (AU ?_))))
    iterate 2 refine AH ?_
    refine AU (AH ?_)
    have H := L2 _ H
    have H := L1 _ H
    have H := AP H
    subst H
    refine AQ (.inl Aa) F W Aa (Ap F Aa) ?_
    exact ⟨rfl, W.done⟩
   have H := AN (by rw [hb]; decide) H
   rw [hb] at F
   clear hb
   refine Aq (Ac (Ah (Ah (Ab ?_))))
   refine ls F W Aa (Af F Aa).q fun a w F W => ?_
   refine ls F W Aa (An (v := Value.agg #[.int .i64 x5.1, .int .i64 x5.2]) 0 F Aa Aa Qr Aa).q fun a w F W => ?_
   refine ls F W Aa (Ng (zv := (() : Unit)) (kx := (x5 : Int × Int)) (q := 1) (E := Hm) (V := HW) F Aa Aa Aa QK QQ RU).q fun a w F W => ?_
   refine ls F W Aa (Af F Aa).q fun a w F W => ?_
   refine ls F W Aa (Bc (v := Value.agg #[]) F Aa Aa).q fun a w F W => ?_
   refine ls F W Aa (Bc (v := Value.bool ((Ic x4 x5).isSome)) F Aa Aa).q fun a w F W => ?_
   refine CB (cs := []) F W Aa RU Aa fun b4 a w F W => ?_
   refine C4 (vs := []) (M' := [(b4, []), (b3, [.int .i64 x5.1, .int .i64 x5.2]), (b1, [.int .i64 p0.1, v1, v2])]) 0 F W Aa Aa Aa SM Aa Aa Aa Aa Aa fun w W => ?_
   refine ls F W Aa (Ae F Aa).q fun a w F W => ?_
   refine Ad (Ac (Ah (Ab ?_)))
   refine ls F W Aa (Af F Aa).q fun a w F W => ?_
   refine Ad (Ac ?_)
   refine Aw F Aa (fun hb => ?_) fun hb => ?_
   ·
    have H := AM hb H
    rw [hb] at F
    clear hb
    refine Ah (Ab ?_)
    refine ls F W Aa (Ae F Aa).q fun a w F W => ?_
    refine Ad (Ac (Av (AH (AU ?_))))
    iterate 2 refine AH ?_
    refine AU (AH ?_)
    have H := L2 _ H
    have H := L1 _ H
    have H := AP H
    subst H
    refine AQ (.inl Aa) F W Aa (Ap F Aa) ?_
    exact ⟨rfl, W.done⟩
   have H := AN (by rw [hb]; decide) H
   rw [hb] at F
   clear hb
   refine Aq (Ac (Ab ?_))
   refine ls F W Aa (Af F Aa).q fun a w F W => ?_
   refine ls F W Aa (An (v := Value.agg #[.int .i64 x5.1, .int .i64 x5.2]) 1 F Aa Aa Qr Aa).q fun a w F W => ?_
   refine ls F W Aa (Dr (v := Value.agg #[]) Sg F Aa Aa Aa).q fun a w F W => ?_
   refine OR (q := 1) (kx := (x5 : Int × Int)) (vx := (() : Unit)) (E := Hm) (V := HW) F W Aa Aa Aa Aa Aa QK QQ fun w W => ?_
   have W : Stw ⟨Y, [], w0⟩ [(b4, []), (b3, [.int .i64 x5.1, .int .i64 x5.2]), (b1, [.int .i64 p0.1, v1, v2])] [mp b2 Hm HW (Ij x4 x5 ()), row v3 73 HH x2] w := W
   refine Ad (AR (Ac (Ab ?_)))
   refine ls F W Aa (BB F Aa Aa Aa).q fun a w F W => ?_
   refine ls F W Aa (Af F Aa).q fun a w F W => ?_
   refine Ad (Ac ?_)
   have W := W.frontZ (i := 1) Aa Aa
   have W := W.frontM (i := 2) Aa Aa
   have W := W.sub (M' := [(b1, [.int .i64 p0.1, v1, v2])]) (Z' := [row v3 73 HH x2, mp b2 Hm HW (Ij x4 x5 ())]) (List.Sublist.cons_cons _ (List.nil_sublist _)) (List.Sublist.refl _)
   exact ⟨_, H, F.re ⟨rfl, Aa, Aa, Aa, Aa, Aa, trivial⟩, W⟩
  have H := AN (Bk hb) H
  rw [hb] at F
  clear hb
  refine Ba ?_
  iterate 2 refine Br ?_
  refine Bb (Ac ?_)
  have W := W.frontZ (i := 1) Aa Aa
  have W := W.sub (M' := [(b1, [.int .i64 p0.1, v1, v2])]) (Z' := [mp b2 Hm HW x4]) (List.Sublist.refl _) (List.Sublist.cons_cons _ (List.nil_sublist _))
  have H := L2 _ H
  exact ⟨_, H, F.re ⟨rfl, Aa, trivial⟩, W⟩
 rintro a w ⟨x1, hj, F, W⟩
 have H := K1 _ hj
 clear hj G1 K1 L1
 refine Ah (Ab ?_)
 refine ls F W Aa (Ai CC Aa Aa Aa Il F Aa 1 Aa).q fun a w F W => ?_
 refine ls F W Aa (An (v := v1) 0 F Aa Aa Il Aa).q fun a w F W => ?_
 obtain ⟨x6, h3, H⟩ := Am H
 refine ls F W Aa (AW (v := Value.bool x6) F SF Aa (fun w W => C7 any w (v1) p0.2.1 _ h3 (((Ak h_v1) : CE _ _ _ _ _ _) w W).nx)) fun a w F W => ?_
 refine ls F W Aa (EP F Aa).q fun a w F W => ?_
 refine ls F W Aa (Ae F Aa).q fun a w F W => ?_
 refine Ad (Ac (Av ?_))
 have H := AP H
 subst H
 refine AQ (.inl Aa) F W Aa (Ap F Aa) ?_
 exact ⟨rfl, W.done⟩
theorem RD : Has Try.prog 21 := ⟨fun args w => Aj Try.func21 rfl (by decide) args w⟩
def BS (p0 : Int) : Bool := (decide (p0 < 0) || decide (8 ≤ p0))
theorem Hg (Y : Nat → Prop) (w0 : World)  (p0 : Int) (r : Bool) (H : BS p0 = r)  :
    Calls Try.prog 30 #[.int .i64 p0] w0 fun e w' => e = .returned (.bool r) ∧ Below w0.heap.size w0 w' := by
 refine enter Try.func30 Aa Try.ntmps30 Aa fun a F => ?_
 have W := Stw.start Y w0
 unfold BS at H
 refine Ah (Ab ?_)
 refine ls F W Aa (Ae F Aa).q fun a w F W => ?_
 refine Ad (Ac ?_)
 refine AJ (fun a w => Fr 9 [] [(2, .bool (decide (p0 < 0) || decide (8 ≤ p0)))] a ∧ Stw ⟨Y, [], w0⟩ [] [] w) ?_ ?_
 ·
  refine Ab ?_
  refine ls F W Aa (Af F Aa).q fun a w F W => ?_
  refine ls F W Aa (Bg F Aa Aa).q fun a w F W => ?_
  refine ls F W Aa (Af F Aa).q fun a w F W => ?_
  rcases Bool.eq_false_or_eq_true (decide (p0 < 0)) with hb0 | hb0
  ·
   rw [hb0] at F
   iterate 2 refine Cd F Aa Aa Aa Aa Aa Aa Aa fun a F => ?_
   refine ls F W Aa (Ao F Aa Aa Aa).q fun a w F W => ?_
   refine ls F W Aa (Ae F Aa).q fun a w F W => ?_
   refine Ad (Ac ?_)
   exact ⟨F.re ⟨(by show some (Value.bool true) = some (Value.bool (decide (p0 < 0) || decide (8 ≤ p0))); try rw [hb0]; all_goals simp only [Bool.not_true, Bool.not_false, Bool.true_and, Bool.false_and, Bool.true_or, Bool.false_or, Bool.and_true, Bool.or_false, cond_true, cond_false]), trivial⟩, W⟩
  rw [hb0] at F
  refine AF F W (Ag F Aa Aa Aa Aa) Aa (Al Aa) (Af F Aa).q fun a w F W => ?_
  refine AF F W (Ag F Aa Aa Aa Aa) Aa (Al Aa) (Ei F Aa Aa).q fun a w F W => ?_
  refine ls F W Aa (Au F Aa Aa Aa).q fun a w F W => ?_
  refine ls F W Aa (Ae F Aa).q fun a w F W => ?_
  refine Ad (Ac ?_)
  exact ⟨F.re ⟨(by show some (Value.bool (decide (8 ≤ p0))) = some (Value.bool (decide (p0 < 0) || decide (8 ≤ p0))); try rw [hb0]; all_goals simp only [Bool.not_true, Bool.not_false, Bool.true_and, Bool.false_and, Bool.true_or, Bool.false_or, Bool.and_true, Bool.or_false, cond_true, cond_false]), trivial⟩, W⟩
 rintro a w ⟨F, W⟩
 refine Av ?_
 subst H
 refine AQ (.inl Aa) F W Aa (Ap F Aa) ?_
 exact ⟨rfl, W.done⟩
theorem Sm : Has Try.prog 30 := ⟨fun args w => Aj Try.func30 rfl (by decide) args w⟩
noncomputable def AV (p0 : List Int) : Int → Option (Int ⊕ (Unit ⊕ Int))
  | x1 => (if x1 < (p0.length : Int) then (ix p0 x1).bind fun x2 => (if (BS x2) = true then some (.inr (.inr x1)) else some (.inl (BV (x1 + 1)))) else some (.inr (.inl ())))
noncomputable def Bq (p0 : List Int) : Option Int := Fv (AA (AV p0) 0) fun _ => some (-1)
theorem E3 (Y : Nat → Prop) (w0 : World) (v1 : Value) (p0 : List Int) (r : Int) (H : Bq p0 = some r) (h_v1 : Sl w0 (NX []) (Rp.int .i64) v1 p0) :
    Calls Try.prog 50 #[v1, .func (.func 30) #[] #[]] w0 fun e w' => e = .returned (.int .i64 r) ∧ Below w0.heap.size w0 w' := by
 refine enter Try.func50 Aa Try.ntmps50 Aa fun a F => ?_
 have W := Stw.start Y w0
 unfold Bq at H
 refine Ah (Ab ?_)
 refine ls F W Aa (Ae F Aa).q fun a w F W => ?_
 refine Ad (Ac ?_)
 obtain ⟨o1, G1, K1, L1⟩ := KJ H
 refine AJ (fun a w => some (Sum.inl ()) = some o1 ∧ Fr 19 [] [(4, .int .i64 0)] a ∧ Stw ⟨Y, [], w0⟩ [] [] w) ?_ ?_
 ·
  have H := G1
  clear G1 K1
  refine Ah (Ab ?_)
  refine ls F W Aa (Af F Aa).q fun a w F W => ?_
  refine ls F W Aa (Bh (r := (Rp.int .i64)) (l := p0) GH Aa F Aa (Ak h_v1)).q fun a w F W => ?_
  refine ls F W Aa (Af F Aa).q fun a w F W => ?_
  refine Ad (Ac (As ?_))
  refine A4 H (fun s a w => Fr 19 [] [(0, v1), (1, .func (.func 30) #[] #[]), (4, .int .i64 0), (7, .int .i64 (p0.length : Int)), (8, .int .i64 s)] a ∧ Stw ⟨Y, [], w0⟩ [] [] w) ⟨F.re ⟨rfl, Aa, Aa, Aa, Aa, trivial⟩, W⟩ fun s o a w H L2 hR => ?_
  obtain ⟨x1, rfl⟩ : ∃ x, x = s := ⟨s, rfl⟩
  obtain ⟨F, W⟩ := hR
  have F : Fr 19 [] [(0, v1), (1, .func (.func 30) #[] #[]), (4, .int .i64 0), (7, .int .i64 (p0.length : Int)), (8, .int .i64 x1)] a := F
  have W : Stw ⟨Y, [], w0⟩ [] [] w := W
  rw [AV] at H
  refine Ah (Ab ?_)
  refine ls F W Aa (Bg F Aa Aa).q fun a w F W => ?_
  refine Ad (Ac (Ah ?_))
  refine Aw F Aa (fun hb => ?_) fun hb => ?_
  ·
   have H := AM (Bj hb) H
   rw [hb] at F
   clear hb
   refine Aq (Ac (Ah (As (Ah (Ab ?_)))))
   refine ls F W Aa (Af F Aa).q fun a w F W => ?_
   refine ls F W Aa (Ae F Aa).q fun a w F W => ?_
   refine Ad (Ac (Ah (Ab ?_)))
   iterate 3 refine ls F W Aa (Af F Aa).q fun a w F W => ?_
   obtain ⟨x2, h1, H⟩ := Am H
   refine ls F W Aa (AK (r := (Rp.int .i64)) EQ F Aa Aa (Ak h_v1) h1).q fun a w F W => ?_
   refine ls F W Aa (Ay (y := Value.int .i64 x2) (j := 0) (i := x1) F Aa Aa (Ak h_v1) h1 Fl.int.to T3 Aa).q fun a w F W => ?_
   refine ls F W Aa (IM (ws := [.int .i64 x2]) (v := Value.bool (BS x2)) F Sm Aa (fun w W => Hg any w x2 _ Aa)) fun a w F W => ?_
   refine Ad (Ac ?_)
   refine Aw F Aa (fun hb => ?_) fun hb => ?_
   ·
    have H := AM hb H
    rw [hb] at F
    clear hb
    refine Ah (Ab ?_)
    refine ls F W Aa (Af F Aa).q fun a w F W => ?_
    refine ls F W Aa (Ae F Aa).q fun a w F W => ?_
    refine Ad (Ac (Av (AU ?_)))
    iterate 2 refine AH ?_
    refine AU (AH ?_)
    have H := L2 _ H
    have H := L1 _ H
    have H := AP H
    subst H
    refine AQ (.inl Aa) F W Aa (Ap F Aa) ?_
    exact ⟨rfl, W.done⟩
   have H := AN (by rw [hb]; decide) H
   rw [hb] at F
   clear hb
   refine Aq (AR (Ac (Ab ?_)))
   refine ls F W Aa (BB F Aa Aa Aa).q fun a w F W => ?_
   refine ls F W Aa (Af F Aa).q fun a w F W => ?_
   refine Ad (Ac ?_)
   exact ⟨_, H, F.re ⟨rfl, Aa, Aa, Aa, Aa, trivial⟩, W⟩
  have H := AN (Bk hb) H
  rw [hb] at F
  clear hb
  refine Ba ?_
  iterate 2 refine Br ?_
  refine Bb (Ac ?_)
  have H := L2 _ H
  exact ⟨H, F.re ⟨rfl, trivial⟩, W⟩
 rintro a w ⟨hj, F, W⟩
 have H := K1 _ hj
 clear hj G1 K1 L1
 refine Ah (Ab ?_)
 refine ls F W Aa (Ae F Aa).q fun a w F W => ?_
 refine Ad (Ac (Av ?_))
 have H := AP H
 subst H
 refine AQ (.inl Aa) F W Aa (Ap F Aa) ?_
 exact ⟨rfl, W.done⟩
theorem St : Has Try.prog 50 := ⟨fun args w => Aj Try.func50 rfl (by decide) args w⟩
noncomputable def A5 (p0 : List Int) : Option Bool := (Bq p0).bind fun x1 => some (decide (0 ≤ x1))
theorem EC (Y : Nat → Prop) (w0 : World) (v1 : Value) (p0 : List Int) (r : Bool) (H : A5 p0 = some r) (h_v1 : Sl w0 (NX []) (Rp.int .i64) v1 p0) :
    Calls Try.prog 29 #[v1, .func (.func 30) #[] #[]] w0 fun e w' => e = .returned (.bool r) ∧ Below w0.heap.size w0 w' := by
 refine enter Try.func29 Aa Try.ntmps29 Aa fun a F => ?_
 have W := Stw.start Y w0
 unfold A5 at H
 refine Ah (Ab ?_)
 refine ls F W Aa (Ae F Aa).q fun a w F W => ?_
 refine Ad (Ac (Ah (Ab ?_)))
 iterate 2 refine ls F W Aa (Af F Aa).q fun a w F W => ?_
 obtain ⟨x1, h1, H⟩ := Am H
 refine ls F W Aa (AW (v := Value.int .i64 x1) F St Aa (fun w W => E3 any w (v1) p0 _ h1 (((Ak h_v1) : CE _ _ _ _ _ _) w W).nx)) fun a w F W => ?_
 refine ls F W Aa (Ei F Aa Aa).q fun a w F W => ?_
 refine ls F W Aa (Ae F Aa).q fun a w F W => ?_
 refine Ad (Ac (Av ?_))
 have H := AP H
 subst H
 refine AQ (.inl Aa) F W Aa (Ap F Aa) ?_
 exact ⟨rfl, W.done⟩
theorem Si : Has Try.prog 29 := ⟨fun args w => Aj Try.func29 rfl (by decide) args w⟩
noncomputable def Co (p0 : Int × (List (Int × Int × Int × Int × Int × Int)) × (List (Int × Int))) (p1 : List (List Int)) : Int → Option (Int ⊕ (Unit ⊕ Bool))
  | x3 => (if x3 < (p1.length : Int) then (ix p1 x3).bind fun x4 => (if (x4.length : Int) ≠ (p0.2.2.length : Int) then some true else (A5 x4).bind fun x6 => some x6).bind fun x5 => (if x5 = true then some (.inr (.inr false)) else some (.inl (BV (x3 + 1)))) else some (.inr (.inl ())))
noncomputable def CM (p0 : Int × (List (Int × Int × Int × Int × Int × Int)) × (List (Int × Int))) (p1 : List (List Int)) : Option Bool := ((C9 p0).bind fun x2 => (if (!x2) = true then some true else some (decide ((p1.length : Int) ≠ p0.1)))).bind fun x1 => (if x1 = true then some false else Fv (AA (Co p0 p1) 0) fun _ => some true)
theorem GN (Y : Nat → Prop) (w0 : World) (v1 : Value) (v2 : Value) (v3 : Value) (p0 : Int × (List (Int × Int × Int × Int × Int × Int)) × (List (Int × Int))) (p1 : List (List Int)) (r : Bool) (H : CM p0 p1 = some r) (h_v1 : Sl w0 (NX []) Ev v1 p0.2.1) (h_v2 : Sl w0 (NX []) Ep v2 p0.2.2) (h_v3 : Sl w0 (NX []) (Rp.slice (Rp.int .i64)) v3 p1) :
    Calls Try.prog 17 #[.agg #[.int .i64 p0.1, v1, v2], v3] w0 fun e w' => e = .returned (.bool r) ∧ Below w0.heap.size w0 w' := by
 refine enter Try.func17 Aa Try.ntmps17 Aa fun a F => ?_
 have W := Stw.start Y w0
 obtain ⟨v4, h1, h_v3⟩ := h_v3.ex F4
 unfold CM at H
 refine Ah (Ab ?_)
 refine C5 (cs := [.int .i64 p0.1, v1, v2]) F W Aa Aa Aa fun b1 a w F W => ?_
 refine ls F W Aa (Ae F Aa).q fun a w F W => ?_
 refine Ad (Ac (Ah ?_))
 obtain ⟨o1, G1, K1⟩ := Am H
 refine AJ (fun a w => ∃ x1 : Bool, some (x1) = some o1 ∧ Fr 34 [] [(1, v3), (2, .pointer (some ⟨b1, 0, none⟩)), (4, .bool false), (16, .bool x1)] a ∧ Stw ⟨Y, [], w0⟩ [(b1, [.int .i64 p0.1, v1, v2])] [] w) ?_ ?_
 ·
  have H := G1
  clear G1 K1
  refine Ab ?_
  refine ls F W Aa (An (v := Value.agg #[.int .i64 p0.1, v1, v2]) 0 F Aa Aa GI Aa).q fun a w F W => ?_
  obtain ⟨x2, h2, H⟩ := Am H
  refine ls F W Aa (AW (v := Value.bool x2) F RD Aa (fun w W => Hh any w (v1) (v2) p0 _ h2 (((Ak h_v1) : CE _ _ _ _ _ _) w W).nx (((Ak h_v2) : CE _ _ _ _ _ _) w W).nx)) fun a w F W => ?_
  refine ls F W Aa (EP F Aa).q fun a w F W => ?_
  refine ls F W Aa (Af F Aa).q fun a w F W => ?_
  rcases Bool.eq_false_or_eq_true (!x2) with hb | hb
  ·
   have H := AM hb H
   rw [hb] at F
   clear hb
   iterate 5 refine Cd F Aa Aa Aa Aa Aa Aa Aa fun a F => ?_
   refine ls F W Aa (Ao F Aa Aa Aa).q fun a w F W => ?_
   refine Ad (Ac ?_)
   exact ⟨_, H, F.re ⟨rfl, Aa, Aa, Aa, trivial⟩, W⟩
  have H := AN (by rw [hb]; decide) H
  rw [hb] at F
  clear hb
  refine AF F W (Ag F Aa Aa Aa Aa) Aa (Al Aa) (Af F Aa).q fun a w F W => ?_
  refine AF F W (Ag F Aa Aa Aa Aa) Aa (Al Aa) (Bh (r := (Rp.slice (Rp.int .i64))) (l := p1) K9 Aa F Aa (Dj F4 h1 (Ak h_v3))).q fun a w F W => ?_
  refine AF F W (Ag F Aa Aa Aa Aa) Aa (Al Aa) (Ai CC Aa Aa Aa T3 F Aa 0 Aa).q fun a w F W => ?_
  refine AF F W (Ag F Aa Aa Aa Aa) Aa (Al Aa) (An (v := Value.int .i64 p0.1) 0 F Aa Aa T3 Aa).q fun a w F W => ?_
  refine AF F W (Ag F Aa Aa Aa Aa) Aa (Al Aa) (GM F Aa Aa).q fun a w F W => ?_
  refine ls F W Aa (Au F Aa Aa Aa).q fun a w F W => ?_
  refine Ad (Ac ?_)
  exact ⟨_, H, F.re ⟨rfl, Aa, Aa, Aa, trivial⟩, W⟩
 rintro a w ⟨x1, hj, F, W⟩
 have hj := AP hj
 subst hj
 have H := K1
 clear G1 K1
 refine Aw F Aa (fun hb => ?_) fun hb => ?_
 ·
  have H := AM hb H
  rw [hb] at F
  clear hb
  refine Ah (Ab ?_)
  refine ls F W Aa (Ae F Aa).q fun a w F W => ?_
  refine Ad (Ac (Av (AH ?_)))
  have H := AP H
  subst H
  refine AQ (.inl Aa) F W Aa (Ap F Aa) ?_
  exact ⟨rfl, W.done⟩
 have H := AN (by rw [hb]; decide) H
 rw [hb] at F
 clear hb
 refine Aq (Ac ?_)
 obtain ⟨o2, G2, K2, L2⟩ := KJ H
 refine AJ (fun a w => some (Sum.inl ()) = some o2 ∧ Fr 34 [] [(4, .bool false)] a ∧ Stw ⟨Y, [], w0⟩ [(b1, [.int .i64 p0.1, v1, v2])] [] w) ?_ ?_
 ·
  have H := G2
  clear G2 K2
  refine Ah (Ab ?_)
  refine ls F W Aa (Af F Aa).q fun a w F W => ?_
  refine ls F W Aa (Bh (r := (Rp.slice (Rp.int .i64))) (l := p1) K9 Aa F Aa (Dj F4 h1 (Ak h_v3))).q fun a w F W => ?_
  refine ls F W Aa (Af F Aa).q fun a w F W => ?_
  refine Ad (Ac (As ?_))
  refine A4 H (fun s a w => Fr 34 [] [(2, .pointer (some ⟨b1, 0, none⟩)), (4, .bool false), (17, v3), (18, .int .i64 (p1.length : Int)), (19, .int .i64 s)] a ∧ Stw ⟨Y, [], w0⟩ [(b1, [.int .i64 p0.1, v1, v2])] [] w) ⟨F.re ⟨rfl, Aa, Aa, Aa, Aa, trivial⟩, W⟩ fun s o a w H L3 hR => ?_
  obtain ⟨x3, rfl⟩ : ∃ x, x = s := ⟨s, rfl⟩
  obtain ⟨F, W⟩ := hR
  have F : Fr 34 [] [(2, .pointer (some ⟨b1, 0, none⟩)), (4, .bool false), (17, v3), (18, .int .i64 (p1.length : Int)), (19, .int .i64 x3)] a := F
  have W : Stw ⟨Y, [], w0⟩ [(b1, [.int .i64 p0.1, v1, v2])] [] w := W
  rw [Co] at H
  refine Ah (Ab ?_)
  refine ls F W Aa (Bg F Aa Aa).q fun a w F W => ?_
  refine Ad (Ac (Ah ?_))
  refine Aw F Aa (fun hb => ?_) fun hb => ?_
  ·
   have H := AM (Bj hb) H
   rw [hb] at F
   clear hb
   refine Aq (Ac (Ah (As (Ah (Ab ?_)))))
   obtain ⟨x4, h3, H⟩ := Am H
   obtain ⟨v5, h4, h5⟩ := Hi h1 h3
   have h6 : HU v5 = [(v5.1)] := congrArg (fun q : List Int => ([(v5.1)] : List Value)) h5
   refine ls F W Aa (AK (r := (Rp.vsl (Rp.int .i64))) Nx F Aa Aa (Ak h_v3) h4).q fun a w F W => ?_
   refine ls F W Aa (Ay (y := (v5.1)) (j := 0) (i := x3) (enc := HU) F Aa Aa (Ak h_v3) h4 Nk PU (by rw [h6]; rfl)).q fun a w F W => ?_
   refine ls F W Aa (Ae F Aa).q fun a w F W => ?_
   refine Ad (Ac ?_)
   obtain ⟨o4, G4, K4⟩ := Am H
   refine AJ (fun a w => ∃ x5 : Bool, some (x5) = some o4 ∧ Fr 34 [] [(2, .pointer (some ⟨b1, 0, none⟩)), (4, .bool false), (17, v3), (18, .int .i64 (p1.length : Int)), (19, .int .i64 x3), (32, .bool x5)] a ∧ Stw ⟨Y, [], w0⟩ [(b1, [.int .i64 p0.1, v1, v2])] [] w) ?_ ?_
   ·
    have H := G4
    clear G4 K4
    refine Ab ?_
    refine ls F W Aa (Af F Aa).q fun a w F W => ?_
    refine ls F W Aa (Bh (r := (Rp.int .i64)) (l := x4) GH Aa F Aa (FQ (Ak h_v3) h4 Gn.here (congrArg (fun q : List Int => q) h5))).q fun a w F W => ?_
    refine ls F W Aa (Ai CC Aa Aa Aa Gy F Aa 2 Aa).q fun a w F W => ?_
    refine ls F W Aa (An (v := v2) 0 F Aa Aa Gy Aa).q fun a w F W => ?_
    refine ls F W Aa (Bh (r := Ep) (l := p0.2.2) IG Aa F Aa (Ak h_v2)).q fun a w F W => ?_
    refine ls F W Aa (GM F Aa Aa).q fun a w F W => ?_
    refine ls F W Aa (Af F Aa).q fun a w F W => ?_
    rcases Bool.eq_false_or_eq_true (decide ((x4.length : Int) ≠ (p0.2.2.length : Int))) with hb | hb
    ·
     have H := AM (Bj hb) H
     rw [hb] at F
     clear hb
     iterate 2 refine Cd F Aa Aa Aa Aa Aa Aa Aa fun a F => ?_
     refine ls F W Aa (Ao F Aa Aa Aa).q fun a w F W => ?_
     refine Ad (Ac ?_)
     exact ⟨_, H, F.re ⟨rfl, Aa, Aa, Aa, Aa, Aa, trivial⟩, W⟩
    have H := AN (Bk hb) H
    rw [hb] at F
    clear hb
    refine AF F W (Ag F Aa Aa Aa Aa) Aa (Al Aa) (Af F Aa).q fun a w F W => ?_
    refine FL (Ag F Aa Aa Aa Aa) ?_
    obtain ⟨x6, h7, H⟩ := Am H
    refine ls F W Aa (AW (v := Value.bool x6) F Si Aa (fun w W => EC any w ((v5.1)) x4 _ h7 (((FQ (Ak h_v3) h4 Gn.here (congrArg (fun q : List Int => q) h5)) : CE _ _ _ _ _ _) w W).nx)) fun a w F W => ?_
    refine ls F W Aa (Au F Aa Aa Aa).q fun a w F W => ?_
    refine Ad (Ac ?_)
    exact ⟨_, H, F.re ⟨rfl, Aa, Aa, Aa, Aa, Aa, trivial⟩, W⟩
   rintro a w ⟨x5, hj, F, W⟩
   have hj := AP hj
   subst hj
   have H := K4
   clear G4 K4
   refine Aw F Aa (fun hb => ?_) fun hb => ?_
   ·
    have H := AM hb H
    rw [hb] at F
    clear hb
    refine Ah (Ab ?_)
    refine ls F W Aa (Ae F Aa).q fun a w F W => ?_
    refine Ad (Ac (Av (AU ?_)))
    iterate 2 refine AH ?_
    refine AU (AH ?_)
    have H := L3 _ H
    have H := L2 _ H
    have H := AP H
    subst H
    refine AQ (.inl Aa) F W Aa (Ap F Aa) ?_
    exact ⟨rfl, W.done⟩
   have H := AN (by rw [hb]; decide) H
   rw [hb] at F
   clear hb
   refine Aq (AR (Ac (Ab ?_)))
   refine ls F W Aa (BB F Aa Aa Aa).q fun a w F W => ?_
   refine ls F W Aa (Af F Aa).q fun a w F W => ?_
   refine Ad (Ac ?_)
   exact ⟨_, H, F.re ⟨rfl, Aa, Aa, Aa, Aa, trivial⟩, W⟩
  have H := AN (Bk hb) H
  rw [hb] at F
  clear hb
  refine Ba ?_
  iterate 2 refine Br ?_
  refine Bb (Ac ?_)
  have H := L3 _ H
  exact ⟨H, F.re ⟨rfl, trivial⟩, W⟩
 rintro a w ⟨hj, F, W⟩
 have H := K2 _ hj
 clear hj G2 K2 L2
 refine Ah (Ab ?_)
 refine ls F W Aa (Ae F Aa).q fun a w F W => ?_
 refine Ad (Ac (Av ?_))
 have H := AP H
 subst H
 refine AQ (.inl Aa) F W Aa (Ap F Aa) ?_
 exact ⟨rfl, W.done⟩
theorem RV : Has Try.prog 17 := ⟨fun args w => Aj Try.func17 rfl (by decide) args w⟩
theorem Ri (dd : Nat) (x0 : Int) (x1 : Int) (y0 : Int) (y1 : Int) (w : World) : (Op.equalIn (dd + 2) 43 (.agg #[.int .i64 x0, .int .i64 x1]) (.agg #[.int .i64 y0, .int .i64 y1])).run Try.prog w = .ok (decide (x0 = y0 ∧ x1 = y1)) w :=
  J5 (d := dd + 1) (rs := [decide (x0 = y0), decide (x1 = y1)]) JQ (by kernel_rfl) ⟨rfl, IR (d := dd + 0) rfl rfl LS T3 rfl rfl, rfl, IR (d := dd + 0) rfl rfl LS T3 rfl rfl, trivial⟩ (by simp) w
theorem SA : Try.prog.eqGuardType Try.prog.depth 43 = false := by kernel_rfl
theorem SC (x0 : Int) (x1 : Int) (y0 : Int) (y1 : Int) (w : World) : (Op.equalIn 10000 43 (.agg #[.int .i64 x0, .int .i64 x1]) (.agg #[.int .i64 y0, .int .i64 y1])).run Try.prog w = .ok (decide (x0 = y0 ∧ x1 = y1)) w := Ri 9998 x0 x1 y0 y1 w
noncomputable def AG (p0 : List (Int × Int)) (p1 : Int × Int) : Int → Option (Int ⊕ (Unit ⊕ Int))
  | x1 => (if x1 < (p0.length : Int) then (ix p0 x1).bind fun x2 => (if p1.1 = x2.1 ∧ p1.2 = x2.2 then some (.inr (.inr x1)) else some (.inl (BV (x1 + 1)))) else some (.inr (.inl ())))
noncomputable def A7 (p0 : List (Int × Int)) (p1 : Int × Int) : Option Int := Fv (AA (AG p0 p1) 0) fun _ => some (-1)
theorem Eb (Y : Nat → Prop) (w0 : World) (v1 : Value) (p0 : List (Int × Int)) (p1 : Int × Int) (r : Int) (H : A7 p0 p1 = some r) (h_v1 : Sl w0 (NX []) Ep v1 p0) :
    Calls Try.prog 51 #[v1, .agg #[.int .i64 p1.1, .int .i64 p1.2]] w0 fun e w' => e = .returned (.int .i64 r) ∧ Below w0.heap.size w0 w' := by
 refine enter Try.func51 Aa Try.ntmps51 Aa fun a F => ?_
 have W := Stw.start Y w0
 unfold A7 at H
 refine Ah (Ab ?_)
 refine C5 (cs := [.int .i64 p1.1, .int .i64 p1.2]) F W Aa Aa Aa fun b1 a w F W => ?_
 refine ls F W Aa (Ae F Aa).q fun a w F W => ?_
 refine Ad (Ac ?_)
 obtain ⟨o1, G1, K1, L1⟩ := KJ H
 refine AJ (fun a w => some (Sum.inl ()) = some o1 ∧ Fr 19 [] [(4, .int .i64 0)] a ∧ Stw ⟨Y, [], w0⟩ [(b1, [.int .i64 p1.1, .int .i64 p1.2])] [] w) ?_ ?_
 ·
  have H := G1
  clear G1 K1
  refine Ah (Ab ?_)
  refine ls F W Aa (Af F Aa).q fun a w F W => ?_
  refine ls F W Aa (Bh (r := Ep) (l := p0) IG Aa F Aa (Ak h_v1)).q fun a w F W => ?_
  refine ls F W Aa (Af F Aa).q fun a w F W => ?_
  refine Ad (Ac (As ?_))
  refine A4 H (fun s a w => Fr 19 [] [(0, v1), (3, .pointer (some ⟨b1, 0, none⟩)), (4, .int .i64 0), (7, .int .i64 (p0.length : Int)), (8, .int .i64 s)] a ∧ Stw ⟨Y, [], w0⟩ [(b1, [.int .i64 p1.1, .int .i64 p1.2])] [] w) ⟨F.re ⟨rfl, Aa, Aa, Aa, Aa, trivial⟩, W⟩ fun s o a w H L2 hR => ?_
  obtain ⟨x1, rfl⟩ : ∃ x, x = s := ⟨s, rfl⟩
  obtain ⟨F, W⟩ := hR
  have F : Fr 19 [] [(0, v1), (3, .pointer (some ⟨b1, 0, none⟩)), (4, .int .i64 0), (7, .int .i64 (p0.length : Int)), (8, .int .i64 x1)] a := F
  have W : Stw ⟨Y, [], w0⟩ [(b1, [.int .i64 p1.1, .int .i64 p1.2])] [] w := W
  rw [AG] at H
  refine Ah (Ab ?_)
  refine ls F W Aa (Bg F Aa Aa).q fun a w F W => ?_
  refine Ad (Ac (Ah ?_))
  refine Aw F Aa (fun hb => ?_) fun hb => ?_
  ·
   have H := AM (Bj hb) H
   rw [hb] at F
   clear hb
   refine Aq (Ac (Ah (As (Ah (Ab ?_)))))
   refine ls F W Aa (Af F Aa).q fun a w F W => ?_
   refine ls F W Aa (Ae F Aa).q fun a w F W => ?_
   refine Ad (Ac (Ah ?_))
   refine Cn W MO (by kernel_rfl) ?_
   refine qs F Aa (An (v := Value.agg #[.int .i64 p1.1, .int .i64 p1.2]) 0 F Aa Aa QX Aa).q fun a F => ?_
   iterate 2 refine qs F Aa (Af F Aa).q fun a F => ?_
   obtain ⟨x2, h1, H⟩ := Am H
   refine qs F Aa (AK (r := Ep) Pl F Aa Aa (Ak h_v1) h1).q fun a F => ?_
   refine qs F Aa (Ay (y := Value.agg #[.int .i64 x2.1, .int .i64 x2.2]) (j := 0) (i := x1) F Aa Aa (Ak h_v1) h1 Po.to QX Aa).q fun a F => ?_
   refine qs F Aa (Oo (t := decide (p1.1 = x2.1 ∧ p1.2 = x2.2)) SA (SC _ _ _ _) F Aa Aa).q fun a F => ?_
   refine Bo fun w W => ?_
   refine Ac ?_
   refine Aw F Aa (fun hb => ?_) fun hb => ?_
   ·
    have H := AM (Bj hb) H
    rw [hb] at F
    clear hb
    refine Ah (Ab ?_)
    refine ls F W Aa (Af F Aa).q fun a w F W => ?_
    refine ls F W Aa (Ae F Aa).q fun a w F W => ?_
    refine Ad (Ac (Av (AU ?_)))
    iterate 2 refine AH ?_
    refine AU (AH ?_)
    have H := L2 _ H
    have H := L1 _ H
    have H := AP H
    subst H
    refine AQ (.inl Aa) F W Aa (Ap F Aa) ?_
    exact ⟨rfl, W.done⟩
   have H := AN (Bk hb) H
   rw [hb] at F
   clear hb
   refine Aq (AR (Ac (Ab ?_)))
   refine ls F W Aa (BB F Aa Aa Aa).q fun a w F W => ?_
   refine ls F W Aa (Af F Aa).q fun a w F W => ?_
   refine Ad (Ac ?_)
   exact ⟨_, H, F.re ⟨rfl, Aa, Aa, Aa, Aa, trivial⟩, W⟩
  have H := AN (Bk hb) H
  rw [hb] at F
  clear hb
  refine Ba ?_
  iterate 2 refine Br ?_
  refine Bb (Ac ?_)
  have H := L2 _ H
  exact ⟨H, F.re ⟨rfl, trivial⟩, W⟩
 rintro a w ⟨hj, F, W⟩
 have H := K1 _ hj
 clear hj G1 K1 L1
 refine Ah (Ab ?_)
 refine ls F W Aa (Ae F Aa).q fun a w F W => ?_
 refine Ad (Ac (Av ?_))
 have H := AP H
 subst H
 refine AQ (.inl Aa) F W Aa (Ap F Aa) ?_
 exact ⟨rfl, W.done⟩
theorem SB : Has Try.prog 51 := ⟨fun args w => Aj Try.func51 rfl (by decide) args w⟩
noncomputable def CP (p0 : Int × (List (Int × Int × Int × Int × Int × Int)) × (List (Int × Int))) (p1 : Int) (p2 : Int) : Option Int := (A7 p0.2.2 (p1, p2)).bind fun x1 => some x1
theorem JG (Y : Nat → Prop) (w0 : World) (v1 : Value) (v2 : Value) (p0 : Int × (List (Int × Int × Int × Int × Int × Int)) × (List (Int × Int))) (p1 : Int) (p2 : Int) (r : Int) (H : CP p0 p1 p2 = some r) (h_v1 : Sl w0 (NX []) Ev v1 p0.2.1) (h_v2 : Sl w0 (NX []) Ep v2 p0.2.2) :
    Calls Try.prog 31 #[.agg #[.int .i64 p0.1, v1, v2], .int .i64 p1, .int .i64 p2] w0 fun e w' => e = .returned (.int .i64 r) ∧ Below w0.heap.size w0 w' := by
 refine enter Try.func31 Aa Try.ntmps31 Aa fun a F => ?_
 have W := Stw.start Y w0
 unfold CP at H
 refine Ah (Ab ?_)
 refine C5 (cs := [.int .i64 p0.1, v1, v2]) F W Aa Aa Aa fun b1 a w F W => ?_
 refine ls F W Aa (Ae F Aa).q fun a w F W => ?_
 refine Ad (Ac (Ah (Ab ?_)))
 refine ls F W Aa (Ai CC Aa Aa Aa Gy F Aa 2 Aa).q fun a w F W => ?_
 refine ls F W Aa (An (v := v2) 0 F Aa Aa Gy Aa).q fun a w F W => ?_
 iterate 2 refine ls F W Aa (Af F Aa).q fun a w F W => ?_
 refine ls F W Aa (Dr (v := Value.agg #[.int .i64 p1, .int .i64 p2]) RL F Aa Aa Aa).q fun a w F W => ?_
 obtain ⟨x1, h1, H⟩ := Am H
 refine ls F W Aa (AW (v := Value.int .i64 x1) F SB Aa (fun w W => Eb any w (v2) p0.2.2 (p1, p2) _ h1 (((Ak h_v2) : CE _ _ _ _ _ _) w W).nx)) fun a w F W => ?_
 refine ls F W Aa (Ae F Aa).q fun a w F W => ?_
 refine Ad (Ac (Av ?_))
 have H := AP H
 subst H
 refine AQ (.inl Aa) F W Aa (Ap F Aa) ?_
 exact ⟨rfl, W.done⟩
theorem SX : Has Try.prog 31 := ⟨fun args w => Aj Try.func31 rfl (by decide) args w⟩
noncomputable def BJ (p0 : Int × (List (Int × Int × Int × Int × Int × Int)) × (List (Int × Int))) (p1 : Int) (p2 : Int) : Int → Option (Int ⊕ (Unit ⊕ (Int × Int × Int × Bool)))
  | x1 => (if x1 < (p0.2.1.length : Int) then (ix p0.2.1 x1).bind fun x2 => (if p1 = x2.1 ∧ p2 = x2.2.1 then some (.inr (.inr (x2.2.2.1, x2.2.2.2.1, x1, true))) else (if p1 = x2.2.2.1 ∧ p2 = x2.2.2.2.1 then some (.inr (.inr (x2.1, x2.2.1, x1, true))) else some (.inl (BV (x1 + 1))))) else some (.inr (.inl ())))
noncomputable def Cx (p0 : Int × (List (Int × Int × Int × Int × Int × Int)) × (List (Int × Int))) (p1 : Int) (p2 : Int) : Option (Int × Int × Int × Bool) := Fv (AA (BJ p0 p1 p2) 0) fun _ => some (0, 0, 0, false)
theorem KQ (Y : Nat → Prop) (w0 : World) (v1 : Value) (v2 : Value) (p0 : Int × (List (Int × Int × Int × Int × Int × Int)) × (List (Int × Int))) (p1 : Int) (p2 : Int) (r : Int × Int × Int × Bool) (H : Cx p0 p1 p2 = some r) (h_v1 : Sl w0 (NX []) Ev v1 p0.2.1) (h_v2 : Sl w0 (NX []) Ep v2 p0.2.2) :
    Calls Try.prog 52 #[.agg #[.int .i64 p0.1, v1, v2], .int .i64 p1, .int .i64 p2] w0 fun e w' => e = .returned (.tuple #[.int .i64 r.1, .int .i64 r.2.1, .int .i64 r.2.2.1, .bool r.2.2.2]) ∧ Below w0.heap.size w0 w' := by
 refine enter Try.func52 Aa Try.ntmps52 Aa fun a F => ?_
 have W := Stw.start Y w0
 unfold Cx at H
 refine Ah (Ab ?_)
 refine C5 (cs := [.int .i64 p0.1, v1, v2]) F W Aa Aa Aa fun b1 a w F W => ?_
 iterate 4 refine ls F W Aa (Ae F Aa).q fun a w F W => ?_
 refine Ad (Ac (Ah (Ab ?_)))
 iterate 2 refine ls F W Aa (Af F Aa).q fun a w F W => ?_
 refine ls F W Aa (Dr (v := Value.agg #[.int .i64 p1, .int .i64 p2]) Qx F Aa Aa Aa).q fun a w F W => ?_
 refine CB (cs := [.int .i64 0, .int .i64 0]) F W Aa QY Aa fun b2 a w F W => ?_
 refine C4 (vs := [.int .i64 p1, .int .i64 p2]) (M' := [(b2, [.int .i64 p1, .int .i64 p2]), (b1, [.int .i64 p0.1, v1, v2])]) 0 F W Aa Aa Aa Qr Aa Aa Aa Aa Aa fun w W => ?_
 refine Ad (Ac ?_)
 obtain ⟨o1, G1, K1, L1⟩ := KJ H
 refine AJ (fun a w => some (Sum.inl ()) = some o1 ∧ Fr 49 [] [(6, .int .i64 0), (7, .int .i64 0), (8, .int .i64 0), (9, .bool false)] a ∧ Stw ⟨Y, [], w0⟩ [(b2, [.int .i64 p1, .int .i64 p2]), (b1, [.int .i64 p0.1, v1, v2])] [] w) ?_ ?_
 ·
  have H := G1
  clear G1 K1
  refine Ah (Ab ?_)
  refine ls F W Aa (Ai CC Aa Aa Aa Il F Aa 1 Aa).q fun a w F W => ?_
  refine ls F W Aa (An (v := v1) 1 F Aa Aa Il Aa).q fun a w F W => ?_
  refine ls F W Aa (Bh (r := Ev) (l := p0.2.1) IC Aa F Aa (Ak h_v1)).q fun a w F W => ?_
  refine ls F W Aa (Af F Aa).q fun a w F W => ?_
  refine Ad (Ac (As ?_))
  have W := W.frontM (i := 1) Aa Aa
  have W := W.frontM (i := 1) Aa Aa
  refine A4 H (fun s a w => Fr 49 [] [(6, .int .i64 0), (7, .int .i64 0), (8, .int .i64 0), (9, .bool false), (10, .pointer (some ⟨b2, 0, none⟩)), (17, v1), (18, .int .i64 (p0.2.1.length : Int)), (19, .int .i64 s)] a ∧ Stw ⟨Y, [], w0⟩ [(b2, [.int .i64 p1, .int .i64 p2]), (b1, [.int .i64 p0.1, v1, v2])] [] w) ⟨F.re ⟨rfl, Aa, Aa, Aa, Aa, Aa, Aa, Aa, trivial⟩, W⟩ fun s o a w H L2 hR => ?_
  obtain ⟨x1, rfl⟩ : ∃ x, x = s := ⟨s, rfl⟩
  obtain ⟨F, W⟩ := hR
  have F : Fr 49 [] [(6, .int .i64 0), (7, .int .i64 0), (8, .int .i64 0), (9, .bool false), (10, .pointer (some ⟨b2, 0, none⟩)), (17, v1), (18, .int .i64 (p0.2.1.length : Int)), (19, .int .i64 x1)] a := F
  have W : Stw ⟨Y, [], w0⟩ [(b2, [.int .i64 p1, .int .i64 p2]), (b1, [.int .i64 p0.1, v1, v2])] [] w := W
  rw [BJ] at H
  refine Ah (Ab ?_)
  refine ls F W Aa (Bg F Aa Aa).q fun a w F W => ?_
  refine Ad (Ac (Ah ?_))
  refine Aw F Aa (fun hb => ?_) fun hb => ?_
  ·
   have H := AM (Bj hb) H
   rw [hb] at F
   clear hb
   refine Aq (Ac (Ah (As (Ah (Ab ?_)))))
   refine ls F W Aa (Af F Aa).q fun a w F W => ?_
   obtain ⟨x2, h1, H⟩ := Am H
   refine ls F W Aa (AK (r := Ev) P9 F Aa Aa (Ak h_v1) h1).q fun a w F W => ?_
   refine ls F W Aa (Ay (y := Value.agg #[.int .i64 x2.1, .int .i64 x2.2.1, .int .i64 x2.2.2.1, .int .i64 x2.2.2.2.1, .int .i64 x2.2.2.2.2.1, .int .i64 x2.2.2.2.2.2]) (j := 0) (i := x1) F Aa Aa (Ak h_v1) h1 P1.to OW Aa).q fun a w F W => ?_
   refine CB (cs := [.int .i64 0, .int .i64 0, .int .i64 0, .int .i64 0, .int .i64 0, .int .i64 0]) F W Aa Qw Aa fun b3 a w F W => ?_
   refine ls F W Aa (Ae F Aa).q fun a w F W => ?_
   refine C4 (vs := [.int .i64 x2.1, .int .i64 x2.2.1, .int .i64 x2.2.2.1, .int .i64 x2.2.2.2.1, .int .i64 x2.2.2.2.2.1, .int .i64 x2.2.2.2.2.2]) (M' := [(b3, [.int .i64 x2.1, .int .i64 x2.2.1, .int .i64 x2.2.2.1, .int .i64 x2.2.2.2.1, .int .i64 x2.2.2.2.2.1, .int .i64 x2.2.2.2.2.2]), (b2, [.int .i64 p1, .int .i64 p2]), (b1, [.int .i64 p0.1, v1, v2])]) 0 F W Aa Aa Aa OW Aa Aa Aa Aa Aa fun w W => ?_
   refine Ad (Ac (Ah (Ah (Ab ?_))))
   refine ls F W Aa (An (v := Value.agg #[.int .i64 p1, .int .i64 p2]) 1 F Aa Aa Qr Aa).q fun a w F W => ?_
   refine ls F W Aa (Ai CQ Aa Aa Aa T3 F Aa 0 Aa).q fun a w F W => ?_
   refine ls F W Aa (An (v := Value.int .i64 x2.1) 0 F Aa Aa T3 Aa).q fun a w F W => ?_
   refine ls F W Aa (Ai CQ Aa Aa Aa T3 F Aa 1 Aa).q fun a w F W => ?_
   refine ls F W Aa (An (v := Value.int .i64 x2.2.1) 0 F Aa Aa T3 Aa).q fun a w F W => ?_
   refine ls F W Aa (Dr (v := Value.agg #[.int .i64 x2.1, .int .i64 x2.2.1]) Qx F Aa Aa Aa).q fun a w F W => ?_
   refine ls F W Aa (Oo (t := decide (p1 = x2.1 ∧ p2 = x2.2.1)) RJ (Rj _ _ _ _) F Aa Aa).q fun a w F W => ?_
   refine Ad (Ac ?_)
   refine Aw F Aa (fun hb => ?_) fun hb => ?_
   ·
    have H := AM (Bj hb) H
    rw [hb] at F
    clear hb
    refine Ah ?_
    refine Cn W MO (by kernel_rfl) ?_
    refine qs F Aa (Ai CQ Aa Aa Aa T3 F Aa 2 Aa).q fun a F => ?_
    refine qs F Aa (An (v := Value.int .i64 x2.2.2.1) 0 F Aa Aa T3 Aa).q fun a F => ?_
    refine qs F Aa (Ai CQ Aa Aa Aa T3 F Aa 3 Aa).q fun a F => ?_
    refine qs F Aa (An (v := Value.int .i64 x2.2.2.2.1) 0 F Aa Aa T3 Aa).q fun a F => ?_
    refine qs F Aa (Af F Aa).q fun a F => ?_
    iterate 4 refine qs F Aa (Ae F Aa).q fun a F => ?_
    refine Bo fun w W => ?_
    refine Ac (Av (AH (AU ?_)))
    iterate 2 refine AH ?_
    refine AU (AH ?_)
    have H := L2 _ H
    have H := L1 _ H
    have H := AP H
    subst H
    refine N1 (.inl Aa) F W Aa (Ap F Aa) (Ap F Aa) (Ap F Aa) (Ap F Aa) ?_
    exact ⟨rfl, W.done⟩
   have H := AN (Bk hb) H
   rw [hb] at F
   clear hb
   refine Aq (Ac (Ah (Ab ?_)))
   refine ls F W Aa (An (v := Value.agg #[.int .i64 p1, .int .i64 p2]) 1 F Aa Aa Qr Aa).q fun a w F W => ?_
   refine ls F W Aa (Ai CQ Aa Aa Aa T3 F Aa 2 Aa).q fun a w F W => ?_
   refine ls F W Aa (An (v := Value.int .i64 x2.2.2.1) 0 F Aa Aa T3 Aa).q fun a w F W => ?_
   refine ls F W Aa (Ai CQ Aa Aa Aa T3 F Aa 3 Aa).q fun a w F W => ?_
   refine ls F W Aa (An (v := Value.int .i64 x2.2.2.2.1) 0 F Aa Aa T3 Aa).q fun a w F W => ?_
   refine ls F W Aa (Dr (v := Value.agg #[.int .i64 x2.2.2.1, .int .i64 x2.2.2.2.1]) Qx F Aa Aa Aa).q fun a w F W => ?_
   refine ls F W Aa (Oo (t := decide (p1 = x2.2.2.1 ∧ p2 = x2.2.2.2.1)) RJ (Rj _ _ _ _) F Aa Aa).q fun a w F W => ?_
   refine Ad (Ac ?_)
   refine Aw F Aa (fun hb => ?_) fun hb => ?_
   ·
    have H := AM (Bj hb) H
    rw [hb] at F
    clear hb
    refine Ah ?_
    refine Cn W MO (by kernel_rfl) ?_
    refine qs F Aa (Ai CQ Aa Aa Aa T3 F Aa 0 Aa).q fun a F => ?_
    refine qs F Aa (An (v := Value.int .i64 x2.1) 0 F Aa Aa T3 Aa).q fun a F => ?_
    refine qs F Aa (Ai CQ Aa Aa Aa T3 F Aa 1 Aa).q fun a F => ?_
    refine qs F Aa (An (v := Value.int .i64 x2.2.1) 0 F Aa Aa T3 Aa).q fun a F => ?_
    refine qs F Aa (Af F Aa).q fun a F => ?_
    iterate 4 refine qs F Aa (Ae F Aa).q fun a F => ?_
    refine Bo fun w W => ?_
    refine Ac (Av (AU ?_))
    iterate 2 refine AH ?_
    refine AU (AH ?_)
    have H := L2 _ H
    have H := L1 _ H
    have H := AP H
    subst H
    refine N1 (.inl Aa) F W Aa (Ap F Aa) (Ap F Aa) (Ap F Aa) (Ap F Aa) ?_
    exact ⟨rfl, W.done⟩
   have H := AN (Bk hb) H
   rw [hb] at F
   clear hb
   refine Aq (AR (Ac (Ab ?_)))
   refine ls F W Aa (BB F Aa Aa Aa).q fun a w F W => ?_
   refine ls F W Aa (Af F Aa).q fun a w F W => ?_
   refine Ad (Ac ?_)
   have W := W.frontM (i := 2) Aa Aa
   have W := W.frontM (i := 2) Aa Aa
   have W := W.sub (M' := [(b2, [.int .i64 p1, .int .i64 p2]), (b1, [.int .i64 p0.1, v1, v2])]) (Z' := []) (List.Sublist.cons_cons _ (List.Sublist.cons_cons _ (List.nil_sublist _))) (List.Sublist.refl _)
   exact ⟨_, H, F.re ⟨rfl, Aa, Aa, Aa, Aa, Aa, Aa, Aa, trivial⟩, W⟩
  have H := AN (Bk hb) H
  rw [hb] at F
  clear hb
  refine Ba ?_
  iterate 2 refine Br ?_
  refine Bb (Ac ?_)
  have W := W.frontM (i := 1) Aa Aa
  have W := W.frontM (i := 1) Aa Aa
  have H := L2 _ H
  exact ⟨H, F.re ⟨rfl, Aa, Aa, Aa, trivial⟩, W⟩
 rintro a w ⟨hj, F, W⟩
 have H := K1 _ hj
 clear hj G1 K1 L1
 refine Ah (Ab ?_)
 iterate 4 refine ls F W Aa (Ae F Aa).q fun a w F W => ?_
 refine Ad (Ac (Av ?_))
 have H := AP H
 subst H
 refine N1 (.inl Aa) F W Aa (Ap F Aa) (Ap F Aa) (Ap F Aa) (Ap F Aa) ?_
 exact ⟨rfl, W.done⟩
theorem SW : Has Try.prog 52 := ⟨fun args w => Aj Try.func52 rfl (by decide) args w⟩
noncomputable def DR (p0 : Int × (List (Int × Int × Int × Int × Int × Int)) × (List (Int × Int))) (p1 : List (List Int)) (p2 : Int) (p3 : Int) : Option (Int × Bool) := (if p2 < 0 then some true else (if (p1.length : Int) ≤ p2 then some true else (if p3 < 0 then some true else (ix p1 p2).bind fun x2 => some (decide ((x2.length : Int) ≤ p3))))).bind fun x1 => (if x1 = true then some (0, false) else (ix p1 p2).bind fun x3 => (ix x3 p3).bind fun x4 => (Cx p0 p2 x4).bind fun x5 => some (x5.1, x5.2.2.2))
theorem Kt (Y : Nat → Prop) (w0 : World) (v1 : Value) (v2 : Value) (v3 : Value) (p0 : Int × (List (Int × Int × Int × Int × Int × Int)) × (List (Int × Int))) (p1 : List (List Int)) (p2 : Int) (p3 : Int) (r : Int × Bool) (H : DR p0 p1 p2 p3 = some r) (h_v1 : Sl w0 (NX []) Ev v1 p0.2.1) (h_v2 : Sl w0 (NX []) Ep v2 p0.2.2) (h_v3 : Sl w0 (NX []) (Rp.slice (Rp.int .i64)) v3 p1) :
    Calls Try.prog 32 #[.agg #[.int .i64 p0.1, v1, v2], v3, .int .i64 p2, .int .i64 p3] w0 fun e w' => e = .returned (.tuple #[.int .i64 r.1, .bool r.2]) ∧ Below w0.heap.size w0 w' := by
 refine enter Try.func32 Aa Try.ntmps32 Aa fun a F => ?_
 have W := Stw.start Y w0
 obtain ⟨v4, h1, h_v3⟩ := h_v3.ex F4
 unfold DR at H
 refine Ah (Ab ?_)
 refine C5 (cs := [.int .i64 p0.1, v1, v2]) F W Aa Aa Aa fun b1 a w F W => ?_
 iterate 2 refine ls F W Aa (Ae F Aa).q fun a w F W => ?_
 refine Ad (Ac (Ah ?_))
 obtain ⟨o1, G1, K1⟩ := Am H
 refine AJ (fun a w => ∃ x1 : Bool, some (x1) = some o1 ∧ Fr 52 [] [(1, v3), (2, .int .i64 p2), (3, .int .i64 p3), (4, .pointer (some ⟨b1, 0, none⟩)), (8, .int .i64 0), (9, .bool false), (34, .bool x1)] a ∧ Stw ⟨Y, [], w0⟩ [(b1, [.int .i64 p0.1, v1, v2])] [] w) ?_ ?_
 ·
  have H := G1
  clear G1 K1
  refine Ab ?_
  refine ls F W Aa (Af F Aa).q fun a w F W => ?_
  refine ls F W Aa (Bg F Aa Aa).q fun a w F W => ?_
  refine ls F W Aa (Af F Aa).q fun a w F W => ?_
  rcases Bool.eq_false_or_eq_true (decide (p2 < 0)) with hb | hb
  ·
   have H := AM (Bj hb) H
   rw [hb] at F
   clear hb
   iterate 4 refine Cd F Aa Aa Aa Aa Aa Aa Aa fun a F => ?_
   refine ls F W Aa (Ao F Aa Aa Aa).q fun a w F W => ?_
   refine ls F W Aa (Af F Aa).q fun a w F W => ?_
   iterate 2 refine Cd F Aa Aa Aa Aa Aa Aa Aa fun a F => ?_
   refine ls F W Aa (Ao F Aa Aa Aa).q fun a w F W => ?_
   refine ls F W Aa (Af F Aa).q fun a w F W => ?_
   iterate 7 refine Cd F Aa Aa Aa Aa Aa Aa Aa fun a F => ?_
   refine ls F W Aa (Ao F Aa Aa Aa).q fun a w F W => ?_
   refine Ad (Ac ?_)
   exact ⟨_, H, F.re ⟨rfl, Aa, Aa, Aa, Aa, Aa, Aa, trivial⟩, W⟩
  have H := AN (Bk hb) H
  rw [hb] at F
  clear hb
  iterate 2 refine AF F W (Ag F Aa Aa Aa Aa) Aa (Al Aa) (Af F Aa).q fun a w F W => ?_
  refine AF F W (Ag F Aa Aa Aa Aa) Aa (Al Aa) (Bh (r := (Rp.slice (Rp.int .i64))) (l := p1) K9 Aa F Aa (Dj F4 h1 (Ak h_v3))).q fun a w F W => ?_
  refine AF F W (Ag F Aa Aa Aa Aa) Aa (Al Aa) (Ei F Aa Aa).q fun a w F W => ?_
  refine ls F W Aa (Au F Aa Aa Aa).q fun a w F W => ?_
  refine ls F W Aa (Af F Aa).q fun a w F W => ?_
  rcases Bool.eq_false_or_eq_true (decide ((p1.length : Int) ≤ p2)) with hb | hb
  ·
   have H := AM (Bj hb) H
   rw [hb] at F
   clear hb
   iterate 2 refine Cd F Aa Aa Aa Aa Aa Aa Aa fun a F => ?_
   refine ls F W Aa (Ao F Aa Aa Aa).q fun a w F W => ?_
   refine ls F W Aa (Af F Aa).q fun a w F W => ?_
   iterate 7 refine Cd F Aa Aa Aa Aa Aa Aa Aa fun a F => ?_
   refine ls F W Aa (Ao F Aa Aa Aa).q fun a w F W => ?_
   refine Ad (Ac ?_)
   exact ⟨_, H, F.re ⟨rfl, Aa, Aa, Aa, Aa, Aa, Aa, trivial⟩, W⟩
  have H := AN (Bk hb) H
  rw [hb] at F
  clear hb
  refine AF F W (Ag F Aa Aa Aa Aa) Aa (Al Aa) (Af F Aa).q fun a w F W => ?_
  refine AF F W (Ag F Aa Aa Aa Aa) Aa (Al Aa) (Bg F Aa Aa).q fun a w F W => ?_
  refine ls F W Aa (Au F Aa Aa Aa).q fun a w F W => ?_
  refine ls F W Aa (Af F Aa).q fun a w F W => ?_
  rcases Bool.eq_false_or_eq_true (decide (p3 < 0)) with hb | hb
  ·
   have H := AM (Bj hb) H
   rw [hb] at F
   clear hb
   iterate 7 refine Cd F Aa Aa Aa Aa Aa Aa Aa fun a F => ?_
   refine ls F W Aa (Ao F Aa Aa Aa).q fun a w F W => ?_
   refine Ad (Ac ?_)
   exact ⟨_, H, F.re ⟨rfl, Aa, Aa, Aa, Aa, Aa, Aa, trivial⟩, W⟩
  have H := AN (Bk hb) H
  rw [hb] at F
  clear hb
  iterate 3 refine AF F W (Ag F Aa Aa Aa Aa) Aa (Al Aa) (Af F Aa).q fun a w F W => ?_
  obtain ⟨x2, h2, H⟩ := Am H
  obtain ⟨v5, h3, h4⟩ := Hi h1 h2
  have h5 : HU v5 = [(v5.1)] := congrArg (fun q : List Int => ([(v5.1)] : List Value)) h4
  refine AF F W (Ag F Aa Aa Aa Aa) Aa (Al Aa) (AK (r := (Rp.vsl (Rp.int .i64))) Nx F Aa Aa (Ak h_v3) h3).q fun a w F W => ?_
  refine AF F W (Ag F Aa Aa Aa Aa) Aa (Al Aa) (Ay (y := (v5.1)) (j := 0) (i := p2) (enc := HU) F Aa Aa (Ak h_v3) h3 Nk PU (by rw [h5]; rfl)).q fun a w F W => ?_
  refine AF F W (Ag F Aa Aa Aa Aa) Aa (Al Aa) (Bh (r := (Rp.int .i64)) (l := x2) GH Aa F Aa (FQ (Ak h_v3) h3 Gn.here (congrArg (fun q : List Int => q) h4))).q fun a w F W => ?_
  refine AF F W (Ag F Aa Aa Aa Aa) Aa (Al Aa) (Ei F Aa Aa).q fun a w F W => ?_
  refine ls F W Aa (Au F Aa Aa Aa).q fun a w F W => ?_
  refine Ad (Ac ?_)
  exact ⟨_, H, F.re ⟨rfl, Aa, Aa, Aa, Aa, Aa, Aa, trivial⟩, W⟩
 rintro a w ⟨x1, hj, F, W⟩
 have hj := AP hj
 subst hj
 have H := K1
 clear G1 K1
 refine Aw F Aa (fun hb => ?_) fun hb => ?_
 ·
  have H := AM hb H
  rw [hb] at F
  clear hb
  refine Ah (Ab ?_)
  iterate 2 refine ls F W Aa (Ae F Aa).q fun a w F W => ?_
  refine Ad (Ac (Av (AH ?_)))
  have H := AP H
  subst H
  refine E2 (.inl Aa) F W Aa (Ap F Aa) (Ap F Aa) ?_
  exact ⟨rfl, W.done⟩
 have H := AN (by rw [hb]; decide) H
 rw [hb] at F
 clear hb
 refine Aq (Ac (Ah ?_))
 refine Cn W MO (by kernel_rfl) ?_
 refine qs F Aa (An (v := Value.agg #[.int .i64 p0.1, v1, v2]) 0 F Aa Aa GI Aa).q fun a F => ?_
 iterate 3 refine qs F Aa (Af F Aa).q fun a F => ?_
 obtain ⟨x3, h6, H⟩ := Am H
 obtain ⟨v6, h7, h8⟩ := Hi h1 h6
 have h9 : HU v6 = [(v6.1)] := congrArg (fun q : List Int => ([(v6.1)] : List Value)) h8
 refine qs F Aa (AK (r := (Rp.vsl (Rp.int .i64))) Nx F Aa Aa (Ak h_v3) h7).q fun a F => ?_
 refine qs F Aa (Ay (y := (v6.1)) (j := 0) (i := p2) (enc := HU) F Aa Aa (Ak h_v3) h7 Nk PU (by rw [h9]; rfl)).q fun a F => ?_
 refine qs F Aa (Af F Aa).q fun a F => ?_
 obtain ⟨x4, h10, H⟩ := Am H
 refine qs F Aa (AK (r := (Rp.int .i64)) EQ F Aa Aa (FQ (Ak h_v3) h7 Gn.here (congrArg (fun q : List Int => q) h8)) h10).q fun a F => ?_
 refine qs F Aa (Ay (y := Value.int .i64 x4) (j := 0) (i := p3) F Aa Aa (FQ (Ak h_v3) h7 Gn.here (congrArg (fun q : List Int => q) h8)) h10 Fl.int.to T3 Aa).q fun a F => ?_
 obtain ⟨x5, h11, H⟩ := Am H
 refine qs F Aa (AW (v := Value.tuple #[.int .i64 x5.1, .int .i64 x5.2.1, .int .i64 x5.2.2.1, .bool x5.2.2.2]) F SW Aa (fun w W => KQ any w (v1) (v2) p0 p2 x4 _ h11 (((Ak h_v1) : CE _ _ _ _ _ _) w W).nx (((Ak h_v2) : CE _ _ _ _ _ _) w W).nx)) fun a F => ?_
 refine qs F Aa (Af F Aa).q fun a F => ?_
 refine qs F Aa (Bc (v := Value.int .i64 x5.1) F Aa Aa).q fun a F => ?_
 refine qs F Aa (Bc (v := Value.int .i64 x5.2.1) F Aa Aa).q fun a F => ?_
 refine qs F Aa (Bc (v := Value.int .i64 x5.2.2.1) F Aa Aa).q fun a F => ?_
 refine qs F Aa (Bc (v := Value.bool x5.2.2.2) F Aa Aa).q fun a F => ?_
 iterate 4 refine qs F Aa (Ae F Aa).q fun a F => ?_
 refine Bo fun w W => ?_
 refine Ac (Ah (Ab ?_))
 iterate 2 refine ls F W Aa (Af F Aa).q fun a w F W => ?_
 iterate 2 refine ls F W Aa (Ae F Aa).q fun a w F W => ?_
 refine Ad (Ac (Av ?_))
 have H := AP H
 subst H
 refine E2 (.inl Aa) F W Aa (Ap F Aa) (Ap F Aa) ?_
 exact ⟨rfl, W.done⟩
theorem Se : Has Try.prog 32 := ⟨fun args w => Aj Try.func32 rfl (by decide) args w⟩
noncomputable def Bu (p0 : List Int) (p1 : Int) : Int → Option (Int ⊕ (Unit ⊕ Bool))
  | x1 => (if x1 < (p0.length : Int) then (ix p0 x1).bind fun x2 => (if p1 = x2 then some (.inr (.inr true)) else some (.inl (BV (x1 + 1)))) else some (.inr (.inl ())))
noncomputable def BM (p0 : List Int) (p1 : Int) : Option Bool := Fv (AA (Bu p0 p1) 0) fun _ => some false
theorem Gr (Y : Nat → Prop) (w0 : World) (v1 : Value) (p0 : List Int) (p1 : Int) (r : Bool) (H : BM p0 p1 = some r) (h_v1 : Sl w0 (NX []) (Rp.int .i64) v1 p0) :
    Calls Try.prog 33 #[v1, .int .i64 p1] w0 fun e w' => e = .returned (.bool r) ∧ Below w0.heap.size w0 w' := by
 refine enter Try.func33 Aa Try.ntmps33 Aa fun a F => ?_
 have W := Stw.start Y w0
 unfold BM at H
 refine Ah (Ab ?_)
 refine ls F W Aa (Ae F Aa).q fun a w F W => ?_
 refine Ad (Ac ?_)
 obtain ⟨o1, G1, K1, L1⟩ := KJ H
 refine AJ (fun a w => some (Sum.inl ()) = some o1 ∧ Fr 17 [] [(4, .bool false)] a ∧ Stw ⟨Y, [], w0⟩ [] [] w) ?_ ?_
 ·
  have H := G1
  clear G1 K1
  refine Ah (Ab ?_)
  refine ls F W Aa (Af F Aa).q fun a w F W => ?_
  refine ls F W Aa (Bh (r := (Rp.int .i64)) (l := p0) GH Aa F Aa (Ak h_v1)).q fun a w F W => ?_
  refine ls F W Aa (Af F Aa).q fun a w F W => ?_
  refine Ad (Ac (As ?_))
  refine A4 H (fun s a w => Fr 17 [] [(1, .int .i64 p1), (4, .bool false), (7, v1), (8, .int .i64 (p0.length : Int)), (9, .int .i64 s)] a ∧ Stw ⟨Y, [], w0⟩ [] [] w) ⟨F.re ⟨rfl, Aa, Aa, Aa, Aa, trivial⟩, W⟩ fun s o a w H L2 hR => ?_
  obtain ⟨x1, rfl⟩ : ∃ x, x = s := ⟨s, rfl⟩
  obtain ⟨F, W⟩ := hR
  have F : Fr 17 [] [(1, .int .i64 p1), (4, .bool false), (7, v1), (8, .int .i64 (p0.length : Int)), (9, .int .i64 x1)] a := F
  have W : Stw ⟨Y, [], w0⟩ [] [] w := W
  rw [Bu] at H
  refine Ah (Ab ?_)
  refine ls F W Aa (Bg F Aa Aa).q fun a w F W => ?_
  refine Ad (Ac (Ah ?_))
  refine Aw F Aa (fun hb => ?_) fun hb => ?_
  ·
   have H := AM (Bj hb) H
   rw [hb] at F
   clear hb
   refine Aq (Ac (Ah (As (Ah (Ab ?_)))))
   obtain ⟨x2, h1, H⟩ := Am H
   refine ls F W Aa (AK (r := (Rp.int .i64)) EQ F Aa Aa (Ak h_v1) h1).q fun a w F W => ?_
   refine ls F W Aa (Ay (y := Value.int .i64 x2) (j := 0) (i := x1) F Aa Aa (Ak h_v1) h1 Fl.int.to T3 Aa).q fun a w F W => ?_
   refine ls F W Aa (Ae F Aa).q fun a w F W => ?_
   refine Ad (Ac (Ah (Ab ?_)))
   iterate 2 refine ls F W Aa (Af F Aa).q fun a w F W => ?_
   refine ls F W Aa (DO F Aa Aa).q fun a w F W => ?_
   refine Ad (Ac ?_)
   refine Aw F Aa (fun hb => ?_) fun hb => ?_
   ·
    have H := AM (Bj hb) H
    rw [hb] at F
    clear hb
    refine Ah (Ab ?_)
    refine ls F W Aa (Ae F Aa).q fun a w F W => ?_
    refine Ad (Ac (Av (AU ?_)))
    iterate 2 refine AH ?_
    refine AU (AH ?_)
    have H := L2 _ H
    have H := L1 _ H
    have H := AP H
    subst H
    refine AQ (.inl Aa) F W Aa (Ap F Aa) ?_
    exact ⟨rfl, W.done⟩
   have H := AN (Bk hb) H
   rw [hb] at F
   clear hb
   refine Aq (AR (Ac (Ab ?_)))
   refine ls F W Aa (BB F Aa Aa Aa).q fun a w F W => ?_
   refine ls F W Aa (Af F Aa).q fun a w F W => ?_
   refine Ad (Ac ?_)
   exact ⟨_, H, F.re ⟨rfl, Aa, Aa, Aa, Aa, trivial⟩, W⟩
  have H := AN (Bk hb) H
  rw [hb] at F
  clear hb
  refine Ba ?_
  iterate 2 refine Br ?_
  refine Bb (Ac ?_)
  have H := L2 _ H
  exact ⟨H, F.re ⟨rfl, trivial⟩, W⟩
 rintro a w ⟨hj, F, W⟩
 have H := K1 _ hj
 clear hj G1 K1 L1
 refine Ah (Ab ?_)
 refine ls F W Aa (Ae F Aa).q fun a w F W => ?_
 refine Ad (Ac (Av ?_))
 have H := AP H
 subst H
 refine AQ (.inl Aa) F W Aa (Ap F Aa) ?_
 exact ⟨rfl, W.done⟩
theorem SN : Has Try.prog 33 := ⟨fun args w => Aj Try.func33 rfl (by decide) args w⟩
noncomputable def B0 (p0 : Int × (List (Int × Int × Int × Int × Int × Int)) × (List (Int × Int))) (p1 : List (List Int)) (p3 : Int) : (Int × List Int) → Option ((Int × List Int) ⊕ ((List Int) ⊕ (List Int × Int)))
  | (x2, x3) => (ix p1 x2).bind fun x4 => (ix x4 p3).bind fun x5 => (CP p0 x2 x5).bind fun x6 => (if x6 ≠ p3 then (DR p0 p1 x2 p3).bind fun x7 => (if (!x7.2) = true then some (.inr (.inr (([] : List Int), 13))) else (BM x3 x7.1).bind fun x8 => (if x8 = true then some (.inr (.inr (([] : List Int), 12))) else (IQ x3 ([x7.1] : List Int)).bind fun x9 => some (.inl (x7.1, x9)))) else some (.inr (.inl x3)))
noncomputable def Dg (p0 : Int × (List (Int × Int × Int × Int × Int × Int)) × (List (Int × Int))) (p1 : List (List Int)) (p2 : Int) (p3 : Int) : Option (List Int × Int) := Fv (AA (B0 p0 p1 p3) (p2, ([p2] : List Int))) fun x1 => some (x1, 0)
theorem HC (Y : Nat → Prop) (w0 : World) (v1 : Value) (v2 : Value) (v3 : Value) (p0 : Int × (List (Int × Int × Int × Int × Int × Int)) × (List (Int × Int))) (p1 : List (List Int)) (p2 : Int) (p3 : Int) (r : List Int × Int) (H : Dg p0 p1 p2 p3 = some r) (h_v1 : Sl w0 (NX []) Ev v1 p0.2.1) (h_v2 : Sl w0 (NX []) Ep v2 p0.2.2) (h_v3 : Sl w0 (NX []) (Rp.slice (Rp.int .i64)) v3 p1) :
    Calls Try.prog 18 #[.agg #[.int .i64 p0.1, v1, v2], v3, .int .i64 p2, .int .i64 p3] w0 fun e w' => ∃ x : Value, e = .returned (.tuple #[x, .int .i64 r.2]) ∧ Stw ⟨Y, [], w0⟩ [] [row (x) 3 (Rp.int .i64) r.1] w' := by
 refine enter Try.func18 Aa Try.ntmps18 Aa fun a F => ?_
 have W := Stw.start Y w0
 obtain ⟨v4, h1, h_v3⟩ := h_v3.ex F4
 unfold Dg at H
 refine Ah (Ab ?_)
 refine C5 (cs := [.int .i64 p0.1, v1, v2]) F W Aa Aa Aa fun b1 a w F W => ?_
 iterate 2 refine ls F W Aa (Ae F Aa).q fun a w F W => ?_
 refine Ad (Ac (Ah (Ab ?_)))
 refine ls F W Aa (Af F Aa).q fun a w F W => ?_
 refine Cr (z := Value.int .i64 0) (cs := [.int .i64 p2]) (Rp.int .i64) ([p2] : List Int) F W Aa EQ Z3 Aa Aa Aa Aa Aa Aa (Fl.int.repL _ _ ([p2] : List Int)) fun v5 a w F W => ?_
 refine ls F W Aa (Ae F Aa).q fun a w F W => ?_
 refine Ad (Ac ?_)
 obtain ⟨o1, G1, K1, L1⟩ := KJ H
 refine AJ (fun a w => ∃ x1 : List Int, ∃ v6 : Value, some (Sum.inl x1) = some o1 ∧ Fr 46 [] [(8, .slice none 0 0), (9, .int .i64 0), (10, v6)] a ∧ Stw ⟨Y, [], w0⟩ [(b1, [.int .i64 p0.1, v1, v2])] [row v6 3 (Rp.int .i64) x1] w) ?_ ?_
 ·
  have H := G1
  clear G1 K1
  refine As ?_
  refine A4 H (fun s a w => ∃ v7 : Value, Fr 46 [] [(1, v3), (2, .int .i64 s.1), (3, .int .i64 p3), (4, .pointer (some ⟨b1, 0, none⟩)), (8, .slice none 0 0), (9, .int .i64 0), (10, v7)] a ∧ Stw ⟨Y, [], w0⟩ [(b1, [.int .i64 p0.1, v1, v2])] [row v7 3 (Rp.int .i64) s.2] w) ⟨(v5), F.re ⟨rfl, Aa, Aa, Aa, Aa, Aa, Aa, trivial⟩, W⟩ fun s o a w H L2 hR => ?_
  obtain ⟨x2, x3⟩ := s
  obtain ⟨v7, F, W⟩ := hR
  have F : Fr 46 [] [(1, v3), (2, .int .i64 x2), (3, .int .i64 p3), (4, .pointer (some ⟨b1, 0, none⟩)), (8, .slice none 0 0), (9, .int .i64 0), (10, v7)] a := F
  have W : Stw ⟨Y, [], w0⟩ [(b1, [.int .i64 p0.1, v1, v2])] [row v7 3 (Rp.int .i64) x3] w := W
  rw [B0] at H
  iterate 2 refine Ah ?_
  refine Cn W MO (by kernel_rfl) ?_
  refine qs F Aa (An (v := Value.agg #[.int .i64 p0.1, v1, v2]) 0 F Aa Aa GI Aa).q fun a F => ?_
  iterate 3 refine qs F Aa (Af F Aa).q fun a F => ?_
  obtain ⟨x4, h2, H⟩ := Am H
  obtain ⟨v8, h3, h4⟩ := Hi h1 h2
  have h5 : HU v8 = [(v8.1)] := congrArg (fun q : List Int => ([(v8.1)] : List Value)) h4
  refine qs F Aa (AK (r := (Rp.vsl (Rp.int .i64))) Nx F Aa Aa (Ak h_v3) h3).q fun a F => ?_
  refine qs F Aa (Ay (y := (v8.1)) (j := 0) (i := x2) (enc := HU) F Aa Aa (Ak h_v3) h3 Nk PU (by rw [h5]; rfl)).q fun a F => ?_
  refine qs F Aa (Af F Aa).q fun a F => ?_
  obtain ⟨x5, h6, H⟩ := Am H
  refine qs F Aa (AK (r := (Rp.int .i64)) EQ F Aa Aa (FQ (Ak h_v3) h3 Gn.here (congrArg (fun q : List Int => q) h4)) h6).q fun a F => ?_
  refine qs F Aa (Ay (y := Value.int .i64 x5) (j := 0) (i := p3) F Aa Aa (FQ (Ak h_v3) h3 Gn.here (congrArg (fun q : List Int => q) h4)) h6 Fl.int.to T3 Aa).q fun a F => ?_
  obtain ⟨x6, h7, H⟩ := Am H
  refine qs F Aa (AW (v := Value.int .i64 x6) F SX Aa (fun w W => JG any w (v1) (v2) p0 x2 x5 _ h7 (((Ak h_v1) : CE _ _ _ _ _ _) w W).nx (((Ak h_v2) : CE _ _ _ _ _ _) w W).nx)) fun a F => ?_
  refine qs F Aa (Af F Aa).q fun a F => ?_
  refine qs F Aa (GM F Aa Aa).q fun a F => ?_
  refine Bo fun w W => ?_
  refine Ac ?_
  refine Aw F Aa (fun hb => ?_) fun hb => ?_
  ·
   have H := AM (Bj hb) H
   rw [hb] at F
   clear hb
   refine Aq (Ac (As (Ah (Ab ?_))))
   refine ls F W Aa (An (v := Value.agg #[.int .i64 p0.1, v1, v2]) 0 F Aa Aa GI Aa).q fun a w F W => ?_
   iterate 3 refine ls F W Aa (Af F Aa).q fun a w F W => ?_
   obtain ⟨x7, h8, H⟩ := Am H
   refine ls F W Aa (AW (v := Value.tuple #[.int .i64 x7.1, .bool x7.2]) F Se Aa (fun w W => Kt any w (v1) (v2) (v3) p0 p1 x2 p3 _ h8 (((Ak h_v1) : CE _ _ _ _ _ _) w W).nx (((Ak h_v2) : CE _ _ _ _ _ _) w W).nx (((Dj F4 h1 (Ak h_v3)) : CE _ _ _ _ _ _) w W).nx)) fun a w F W => ?_
   refine ls F W Aa (Af F Aa).q fun a w F W => ?_
   refine ls F W Aa (Bc (v := Value.int .i64 x7.1) F Aa Aa).q fun a w F W => ?_
   refine ls F W Aa (Bc (v := Value.bool x7.2) F Aa Aa).q fun a w F W => ?_
   iterate 2 refine ls F W Aa (Ae F Aa).q fun a w F W => ?_
   refine Ad (Ac (Ah (Ah (Ab ?_))))
   refine ls F W Aa (Af F Aa).q fun a w F W => ?_
   refine ls F W Aa (EP F Aa).q fun a w F W => ?_
   refine Ad (Ac ?_)
   refine Aw F Aa (fun hb => ?_) fun hb => ?_
   ·
    have H := AM hb H
    rw [hb] at F
    clear hb
    refine Ah (Ab ?_)
    iterate 2 refine ls F W Aa (Ae F Aa).q fun a w F W => ?_
    refine Ad (Ac (Av (AH (AU (AH (AU (AH ?_)))))))
    have H := L2 _ H
    have H := L1 _ H
    have H := AP H
    subst H
    refine E2 (.inl Aa) F W Aa (Ap F Aa) (Ap F Aa) ?_
    have W := W.nilRow 3 (Rp.int .i64)
    have W := W.sub (M' := []) (Z' := [row (Value.slice none 0 0) 3 (Rp.int .i64) ([])]) (List.nil_sublist _) (List.Sublist.cons_cons _ (List.nil_sublist _))
    exact ⟨(Value.slice none 0 0), Aa, W⟩
   have H := AN (by rw [hb]; decide) H
   rw [hb] at F
   clear hb
   refine Aq (Ac (Ah (Ah (Ab ?_))))
   iterate 2 refine ls F W Aa (Af F Aa).q fun a w F W => ?_
   obtain ⟨x8, h9, H⟩ := Am H
   refine ls F W Aa (AW (v := Value.bool x8) F SN Aa (fun w W => Gr any w (v7) x3 x7.1 _ h9 (((Ax 0 Aa) : CE _ _ _ _ _ _) w W).nx)) fun a w F W => ?_
   refine Ad (Ac ?_)
   refine Aw F Aa (fun hb => ?_) fun hb => ?_
   ·
    have H := AM hb H
    rw [hb] at F
    clear hb
    refine Ah (Ab ?_)
    iterate 2 refine ls F W Aa (Ae F Aa).q fun a w F W => ?_
    refine Ad (Ac (Av (AH (AU (AH (AU (AH ?_)))))))
    have H := L2 _ H
    have H := L1 _ H
    have H := AP H
    subst H
    refine E2 (.inl Aa) F W Aa (Ap F Aa) (Ap F Aa) ?_
    have W := W.nilRow 3 (Rp.int .i64)
    have W := W.sub (M' := []) (Z' := [row (Value.slice none 0 0) 3 (Rp.int .i64) ([])]) (List.nil_sublist _) (List.Sublist.cons_cons _ (List.nil_sublist _))
    exact ⟨(Value.slice none 0 0), Aa, W⟩
   have H := AN (by rw [hb]; decide) H
   rw [hb] at F
   clear hb
   refine Aq (Ac (Ah (Ab ?_)))
   iterate 2 refine ls F W Aa (Af F Aa).q fun a w F W => ?_
   refine Cr (z := Value.int .i64 0) (cs := [.int .i64 x7.1]) (Rp.int .i64) ([x7.1] : List Int) F W Aa EQ Z3 Aa Aa Aa Aa Aa Aa (Fl.int.repL _ _ ([x7.1] : List Int)) fun v9 a w F W => ?_
   obtain ⟨x9, h10, H⟩ := Am H
   refine DM (r := (Rp.int .i64)) (i := 1) F W Aa EQ Aa Aa Aa Aa (DP W 0 Aa) h10 Aa fun v10 a w F W => ?_
   have W : Stw ⟨Y, [], w0⟩ [(b1, [.int .i64 p0.1, v1, v2])] [row v10 3 (Rp.int .i64) x9, row v9 3 (Rp.int .i64) ([x7.1] : List Int)] w := W
   refine ls F W Aa (Ae F Aa).q fun a w F W => ?_
   refine Ad (Ac (Ab ?_))
   refine ls F W Aa (Af F Aa).q fun a w F W => ?_
   refine ls F W Aa (Ae F Aa).q fun a w F W => ?_
   refine Ad (AR (Ac ?_))
   have W := W.sub (M' := [(b1, [.int .i64 p0.1, v1, v2])]) (Z' := [row v10 3 (Rp.int .i64) x9]) (List.Sublist.refl _) (List.Sublist.cons_cons _ (List.nil_sublist _))
   exact ⟨_, H, (v10), F.re ⟨rfl, Aa, Aa, Aa, Aa, Aa, Aa, trivial⟩, W⟩
  have H := AN (Bk hb) H
  rw [hb] at F
  clear hb
  refine Ba ?_
  iterate 2 refine Br ?_
  refine Bb (Ac ?_)
  have H := L2 _ H
  exact ⟨_, (v7), H, F.re ⟨rfl, Aa, Aa, trivial⟩, W⟩
 rintro a w ⟨x1, v6, hj, F, W⟩
 have H := K1 _ hj
 clear hj G1 K1 L1
 refine Ah (Ab ?_)
 refine ls F W Aa (Af F Aa).q fun a w F W => ?_
 iterate 2 refine ls F W Aa (Ae F Aa).q fun a w F W => ?_
 refine Ad (Ac (Av ?_))
 have H := AP H
 subst H
 refine E2 (.inl Aa) F W Aa (Ap F Aa) (Ap F Aa) ?_
 have W := W.sub (M' := []) (Z' := [row v6 3 (Rp.int .i64) x1]) (List.nil_sublist _) (List.Sublist.refl _)
 exact ⟨(v6), Aa, W⟩
theorem RH : Has Try.prog 18 := ⟨fun args w => Aj Try.func18 rfl (by decide) args w⟩
noncomputable def En (p0 : Int × (List (Int × Int × Int × Int × Int × Int)) × (List (Int × Int))) (p1 : List (List Int)) (p2 : Int) (p3 : Int) : Option (List Int × Int) := ((CM p0 p1).bind fun x2 => (if (!x2) = true then some true else (if p2 < 0 then some true else (if p0.1 ≤ p2 then some true else (if p3 < 0 then some true else some (decide ((p0.2.2.length : Int) ≤ p3))))))).bind fun x1 => (if x1 = true then some (([] : List Int), 2) else (Dg p0 p1 p2 p3).bind fun x3 => some (x3.1, x3.2))
theorem HG (Y : Nat → Prop) (w0 : World) (v1 : Value) (v2 : Value) (v3 : Value) (p0 : Int × (List (Int × Int × Int × Int × Int × Int)) × (List (Int × Int))) (p1 : List (List Int)) (p2 : Int) (p3 : Int) (r : List Int × Int) (H : En p0 p1 p2 p3 = some r) (h_v1 : Sl w0 (NX []) Ev v1 p0.2.1) (h_v2 : Sl w0 (NX []) Ep v2 p0.2.2) (h_v3 : Sl w0 (NX []) (Rp.slice (Rp.int .i64)) v3 p1) :
    Calls Try.prog 12 #[.agg #[.int .i64 p0.1, v1, v2], v3, .int .i64 p2, .int .i64 p3] w0 fun e w' => ∃ x : Value, e = .returned (.tuple #[x, .int .i64 r.2]) ∧ Stw ⟨Y, [], w0⟩ [] [row (x) 3 (Rp.int .i64) r.1] w' := by
 refine enter Try.func12 Aa Try.ntmps12 Aa fun a F => ?_
 have W := Stw.start Y w0
 obtain ⟨v4, h1, h_v3⟩ := h_v3.ex F4
 unfold En at H
 refine Ah (Ab ?_)
 refine C5 (cs := [.int .i64 p0.1, v1, v2]) F W Aa Aa Aa fun b1 a w F W => ?_
 iterate 2 refine ls F W Aa (Ae F Aa).q fun a w F W => ?_
 refine Ad (Ac (Ah ?_))
 obtain ⟨o1, G1, K1⟩ := Am H
 refine AJ (fun a w => ∃ x1 : Bool, some (x1) = some o1 ∧ Fr 42 [] [(1, v3), (2, .int .i64 p2), (3, .int .i64 p3), (4, .pointer (some ⟨b1, 0, none⟩)), (8, .slice none 0 0), (9, .int .i64 0), (34, .bool x1)] a ∧ Stw ⟨Y, [], w0⟩ [(b1, [.int .i64 p0.1, v1, v2])] [] w) ?_ ?_
 ·
  have H := G1
  clear G1 K1
  refine Ab ?_
  refine ls F W Aa (An (v := Value.agg #[.int .i64 p0.1, v1, v2]) 0 F Aa Aa GI Aa).q fun a w F W => ?_
  refine ls F W Aa (Af F Aa).q fun a w F W => ?_
  obtain ⟨x2, h2, H⟩ := Am H
  refine ls F W Aa (AW (v := Value.bool x2) F RV Aa (fun w W => GN any w (v1) (v2) (v3) p0 p1 _ h2 (((Ak h_v1) : CE _ _ _ _ _ _) w W).nx (((Ak h_v2) : CE _ _ _ _ _ _) w W).nx (((Dj F4 h1 (Ak h_v3)) : CE _ _ _ _ _ _) w W).nx)) fun a w F W => ?_
  refine ls F W Aa (EP F Aa).q fun a w F W => ?_
  refine ls F W Aa (Af F Aa).q fun a w F W => ?_
  rcases Bool.eq_false_or_eq_true (!x2) with hb | hb
  ·
   have H := AM hb H
   rw [hb] at F
   clear hb
   iterate 2 refine Cd F Aa Aa Aa Aa Aa Aa Aa fun a F => ?_
   refine ls F W Aa (Ao F Aa Aa Aa).q fun a w F W => ?_
   refine ls F W Aa (Af F Aa).q fun a w F W => ?_
   iterate 4 refine Cd F Aa Aa Aa Aa Aa Aa Aa fun a F => ?_
   refine ls F W Aa (Ao F Aa Aa Aa).q fun a w F W => ?_
   refine ls F W Aa (Af F Aa).q fun a w F W => ?_
   iterate 2 refine Cd F Aa Aa Aa Aa Aa Aa Aa fun a F => ?_
   refine ls F W Aa (Ao F Aa Aa Aa).q fun a w F W => ?_
   refine ls F W Aa (Af F Aa).q fun a w F W => ?_
   iterate 5 refine Cd F Aa Aa Aa Aa Aa Aa Aa fun a F => ?_
   refine ls F W Aa (Ao F Aa Aa Aa).q fun a w F W => ?_
   refine Ad (Ac ?_)
   exact ⟨_, H, F.re ⟨rfl, Aa, Aa, Aa, Aa, Aa, Aa, trivial⟩, W⟩
  have H := AN (by rw [hb]; decide) H
  rw [hb] at F
  clear hb
  refine AF F W (Ag F Aa Aa Aa Aa) Aa (Al Aa) (Af F Aa).q fun a w F W => ?_
  refine AF F W (Ag F Aa Aa Aa Aa) Aa (Al Aa) (Bg F Aa Aa).q fun a w F W => ?_
  refine ls F W Aa (Au F Aa Aa Aa).q fun a w F W => ?_
  refine ls F W Aa (Af F Aa).q fun a w F W => ?_
  rcases Bool.eq_false_or_eq_true (decide (p2 < 0)) with hb | hb
  ·
   have H := AM (Bj hb) H
   rw [hb] at F
   clear hb
   iterate 4 refine Cd F Aa Aa Aa Aa Aa Aa Aa fun a F => ?_
   refine ls F W Aa (Ao F Aa Aa Aa).q fun a w F W => ?_
   refine ls F W Aa (Af F Aa).q fun a w F W => ?_
   iterate 2 refine Cd F Aa Aa Aa Aa Aa Aa Aa fun a F => ?_
   refine ls F W Aa (Ao F Aa Aa Aa).q fun a w F W => ?_
   refine ls F W Aa (Af F Aa).q fun a w F W => ?_
   iterate 5 refine Cd F Aa Aa Aa Aa Aa Aa Aa fun a F => ?_
   refine ls F W Aa (Ao F Aa Aa Aa).q fun a w F W => ?_
   refine Ad (Ac ?_)
   exact ⟨_, H, F.re ⟨rfl, Aa, Aa, Aa, Aa, Aa, Aa, trivial⟩, W⟩
  have H := AN (Bk hb) H
  rw [hb] at F
  clear hb
  refine AF F W (Ag F Aa Aa Aa Aa) Aa (Al Aa) (Af F Aa).q fun a w F W => ?_
  refine AF F W (Ag F Aa Aa Aa Aa) Aa (Al Aa) (Ai CC Aa Aa Aa T3 F Aa 0 Aa).q fun a w F W => ?_
  refine AF F W (Ag F Aa Aa Aa Aa) Aa (Al Aa) (An (v := Value.int .i64 p0.1) 0 F Aa Aa T3 Aa).q fun a w F W => ?_
  refine AF F W (Ag F Aa Aa Aa Aa) Aa (Al Aa) (Ei F Aa Aa).q fun a w F W => ?_
  refine ls F W Aa (Au F Aa Aa Aa).q fun a w F W => ?_
  refine ls F W Aa (Af F Aa).q fun a w F W => ?_
  rcases Bool.eq_false_or_eq_true (decide (p0.1 ≤ p2)) with hb | hb
  ·
   have H := AM (Bj hb) H
   rw [hb] at F
   clear hb
   iterate 2 refine Cd F Aa Aa Aa Aa Aa Aa Aa fun a F => ?_
   refine ls F W Aa (Ao F Aa Aa Aa).q fun a w F W => ?_
   refine ls F W Aa (Af F Aa).q fun a w F W => ?_
   iterate 5 refine Cd F Aa Aa Aa Aa Aa Aa Aa fun a F => ?_
   refine ls F W Aa (Ao F Aa Aa Aa).q fun a w F W => ?_
   refine Ad (Ac ?_)
   exact ⟨_, H, F.re ⟨rfl, Aa, Aa, Aa, Aa, Aa, Aa, trivial⟩, W⟩
  have H := AN (Bk hb) H
  rw [hb] at F
  clear hb
  refine AF F W (Ag F Aa Aa Aa Aa) Aa (Al Aa) (Af F Aa).q fun a w F W => ?_
  refine AF F W (Ag F Aa Aa Aa Aa) Aa (Al Aa) (Bg F Aa Aa).q fun a w F W => ?_
  refine ls F W Aa (Au F Aa Aa Aa).q fun a w F W => ?_
  refine ls F W Aa (Af F Aa).q fun a w F W => ?_
  rcases Bool.eq_false_or_eq_true (decide (p3 < 0)) with hb | hb
  ·
   have H := AM (Bj hb) H
   rw [hb] at F
   clear hb
   iterate 5 refine Cd F Aa Aa Aa Aa Aa Aa Aa fun a F => ?_
   refine ls F W Aa (Ao F Aa Aa Aa).q fun a w F W => ?_
   refine Ad (Ac ?_)
   exact ⟨_, H, F.re ⟨rfl, Aa, Aa, Aa, Aa, Aa, Aa, trivial⟩, W⟩
  have H := AN (Bk hb) H
  rw [hb] at F
  clear hb
  refine AF F W (Ag F Aa Aa Aa Aa) Aa (Al Aa) (Af F Aa).q fun a w F W => ?_
  refine AF F W (Ag F Aa Aa Aa Aa) Aa (Al Aa) (Ai CC Aa Aa Aa Gy F Aa 2 Aa).q fun a w F W => ?_
  refine AF F W (Ag F Aa Aa Aa Aa) Aa (Al Aa) (An (v := v2) 0 F Aa Aa Gy Aa).q fun a w F W => ?_
  refine AF F W (Ag F Aa Aa Aa Aa) Aa (Al Aa) (Bh (r := Ep) (l := p0.2.2) IG Aa F Aa (Ak h_v2)).q fun a w F W => ?_
  refine AF F W (Ag F Aa Aa Aa Aa) Aa (Al Aa) (Ei F Aa Aa).q fun a w F W => ?_
  refine ls F W Aa (Au F Aa Aa Aa).q fun a w F W => ?_
  refine Ad (Ac ?_)
  exact ⟨_, H, F.re ⟨rfl, Aa, Aa, Aa, Aa, Aa, Aa, trivial⟩, W⟩
 rintro a w ⟨x1, hj, F, W⟩
 have hj := AP hj
 subst hj
 have H := K1
 clear G1 K1
 refine Aw F Aa (fun hb => ?_) fun hb => ?_
 ·
  have H := AM hb H
  rw [hb] at F
  clear hb
  refine Ah (Ab ?_)
  iterate 2 refine ls F W Aa (Ae F Aa).q fun a w F W => ?_
  refine Ad (Ac (Av (AH ?_)))
  have H := AP H
  subst H
  refine E2 (.inl Aa) F W Aa (Ap F Aa) (Ap F Aa) ?_
  have W := W.nilRow 3 (Rp.int .i64)
  have W := W.sub (M' := []) (Z' := [row (Value.slice none 0 0) 3 (Rp.int .i64) ([])]) (List.nil_sublist _) (List.Sublist.refl _)
  exact ⟨(Value.slice none 0 0), Aa, W⟩
 have H := AN (by rw [hb]; decide) H
 rw [hb] at F
 clear hb
 refine Aq (Ac (Ah (Ab ?_)))
 refine ls F W Aa (An (v := Value.agg #[.int .i64 p0.1, v1, v2]) 0 F Aa Aa GI Aa).q fun a w F W => ?_
 iterate 3 refine ls F W Aa (Af F Aa).q fun a w F W => ?_
 obtain ⟨x3, h3, H⟩ := Am H
 refine BK (Ml := []) (Zl := []) (M := [(b1, [.int .i64 p0.1, v1, v2])]) (Z := []) (β := Value) (rv := fun x => .tuple #[x, .int .i64 x3.2]) (MM := fun x => []) (ZZ := fun x => [row x 3 (Rp.int .i64) x3.1]) F W RH Aa Aa (fun hL => HC _ w (v1) (v2) (v3) p0 p1 p2 p3 _ h3 ((Ak h_v1) w W).nx ((Ak h_v2) w W).nx ((Dj F4 h1 (Ak h_v3)) w W).nx) fun x a w F W => ?_
 obtain ⟨v5, rfl⟩ : ∃ y, y = x := ⟨x, rfl⟩
 have W : Stw ⟨Y, [], w0⟩ [(b1, [.int .i64 p0.1, v1, v2])] [row v5 3 (Rp.int .i64) x3.1] w := W
 refine ls F W Aa (Bc (v := v5) F Aa Aa).q fun a w F W => ?_
 refine ls F W Aa (Bc (v := Value.int .i64 x3.2) F Aa Aa).q fun a w F W => ?_
 iterate 2 refine ls F W Aa (Ae F Aa).q fun a w F W => ?_
 refine Ad (Ac (Av ?_))
 have H := AP H
 subst H
 refine E2 (.inl Aa) F W Aa (Ap F Aa) (Ap F Aa) ?_
 have W := W.sub (M' := []) (Z' := [row v5 3 (Rp.int .i64) x3.1]) (List.nil_sublist _) (List.Sublist.refl _)
 exact ⟨(v5), Aa, W⟩
theorem Ry : Has Try.prog 12 := ⟨fun args w => Aj Try.func12 rfl (by decide) args w⟩
noncomputable def Fe (p0 : List Int) (p1 : List Int) : Int → Option (Int ⊕ (Unit ⊕ Bool))
  | x1 => (if x1 < (p0.length : Int) then (ix p0 x1).bind fun x2 => (ix p1 x1).bind fun x3 => (if x2 ≠ x3 then some (.inr (.inr false)) else some (.inl (BV (x1 + 1)))) else some (.inr (.inl ())))
noncomputable def F9 (p0 : List Int) (p1 : List Int) : Option Bool := (if (p0.length : Int) ≠ (p1.length : Int) then some false else Fv (AA (Fe p0 p1) 0) fun _ => some true)
theorem Mb (Y : Nat → Prop) (w0 : World) (v1 : Value) (v2 : Value) (p0 : List Int) (p1 : List Int) (r : Bool) (H : F9 p0 p1 = some r) (h_v1 : Sl w0 (NX []) (Rp.int .i64) v1 p0) (h_v2 : Sl w0 (NX []) (Rp.int .i64) v2 p1) :
    Calls Try.prog 13 #[v1, v2] w0 fun e w' => e = .returned (.bool r) ∧ Below w0.heap.size w0 w' := by
 refine enter Try.func13 Aa Try.ntmps13 Aa fun a F => ?_
 have W := Stw.start Y w0
 unfold F9 at H
 refine Ah (Ab ?_)
 refine ls F W Aa (Ae F Aa).q fun a w F W => ?_
 refine Ad (Ac (Ah (Ah (Ab ?_))))
 refine ls F W Aa (Af F Aa).q fun a w F W => ?_
 refine ls F W Aa (Bh (r := (Rp.int .i64)) (l := p0) GH Aa F Aa (Ak h_v1)).q fun a w F W => ?_
 refine ls F W Aa (Af F Aa).q fun a w F W => ?_
 refine ls F W Aa (Bh (r := (Rp.int .i64)) (l := p1) GH Aa F Aa (Ak h_v2)).q fun a w F W => ?_
 refine ls F W Aa (GM F Aa Aa).q fun a w F W => ?_
 refine Ad (Ac ?_)
 refine Aw F Aa (fun hb => ?_) fun hb => ?_
 ·
  have H := AM (Bj hb) H
  rw [hb] at F
  clear hb
  refine Ah (Ab ?_)
  refine ls F W Aa (Ae F Aa).q fun a w F W => ?_
  refine Ad (Ac (Av (AH ?_)))
  have H := AP H
  subst H
  refine AQ (.inl Aa) F W Aa (Ap F Aa) ?_
  exact ⟨rfl, W.done⟩
 have H := AN (Bk hb) H
 rw [hb] at F
 clear hb
 refine Aq (Ac ?_)
 obtain ⟨o1, G1, K1, L1⟩ := KJ H
 refine AJ (fun a w => some (Sum.inl ()) = some o1 ∧ Fr 26 [] [(4, .bool false)] a ∧ Stw ⟨Y, [], w0⟩ [] [] w) ?_ ?_
 ·
  have H := G1
  clear G1 K1
  refine Ah (Ab ?_)
  refine ls F W Aa (Ae F Aa).q fun a w F W => ?_
  refine Ad (Ac (As ?_))
  refine A4 H (fun s a w => Fr 26 [] [(0, v1), (1, v2), (4, .bool false), (5, .int .i64 s)] a ∧ Stw ⟨Y, [], w0⟩ [] [] w) ⟨F.re ⟨rfl, Aa, Aa, Aa, trivial⟩, W⟩ fun s o a w H L2 hR => ?_
  obtain ⟨x1, rfl⟩ : ∃ x, x = s := ⟨s, rfl⟩
  obtain ⟨F, W⟩ := hR
  have F : Fr 26 [] [(0, v1), (1, v2), (4, .bool false), (5, .int .i64 x1)] a := F
  have W : Stw ⟨Y, [], w0⟩ [] [] w := W
  rw [Fe] at H
  refine Ah (Ah (Ab ?_))
  iterate 2 refine ls F W Aa (Af F Aa).q fun a w F W => ?_
  refine ls F W Aa (Bh (r := (Rp.int .i64)) (l := p0) GH Aa F Aa (Ak h_v1)).q fun a w F W => ?_
  refine ls F W Aa (Bg F Aa Aa).q fun a w F W => ?_
  refine Ad (Ac ?_)
  refine Aw F Aa (fun hb => ?_) fun hb => ?_
  ·
   have H := AM (Bj hb) H
   rw [hb] at F
   clear hb
   refine Aq (Ac (Ah (As (Ah ?_))))
   refine Cn W MO (by kernel_rfl) ?_
   iterate 2 refine qs F Aa (Af F Aa).q fun a F => ?_
   obtain ⟨x2, h1, H⟩ := Am H
   refine qs F Aa (AK (r := (Rp.int .i64)) EQ F Aa Aa (Ak h_v1) h1).q fun a F => ?_
   refine qs F Aa (Ay (y := Value.int .i64 x2) (j := 0) (i := x1) F Aa Aa (Ak h_v1) h1 Fl.int.to T3 Aa).q fun a F => ?_
   iterate 2 refine qs F Aa (Af F Aa).q fun a F => ?_
   obtain ⟨x3, h2, H⟩ := Am H
   refine qs F Aa (AK (r := (Rp.int .i64)) EQ F Aa Aa (Ak h_v2) h2).q fun a F => ?_
   refine qs F Aa (Ay (y := Value.int .i64 x3) (j := 0) (i := x1) F Aa Aa (Ak h_v2) h2 Fl.int.to T3 Aa).q fun a F => ?_
   refine qs F Aa (GM F Aa Aa).q fun a F => ?_
   refine Bo fun w W => ?_
   refine Ac ?_
   refine Aw F Aa (fun hb => ?_) fun hb => ?_
   ·
    have H := AM (Bj hb) H
    rw [hb] at F
    clear hb
    refine Ah (Ab ?_)
    refine ls F W Aa (Ae F Aa).q fun a w F W => ?_
    refine Ad (Ac (Av (AU ?_)))
    iterate 2 refine AH ?_
    refine AU (AH ?_)
    have H := L2 _ H
    have H := L1 _ H
    have H := AP H
    subst H
    refine AQ (.inl Aa) F W Aa (Ap F Aa) ?_
    exact ⟨rfl, W.done⟩
   have H := AN (Bk hb) H
   rw [hb] at F
   clear hb
   refine Aq (AR (Ac (Ab ?_)))
   refine ls F W Aa (Af F Aa).q fun a w F W => ?_
   refine ls F W Aa (BB F Aa Aa Aa).q fun a w F W => ?_
   refine ls F W Aa (Ae F Aa).q fun a w F W => ?_
   refine Ad (Ac ?_)
   exact ⟨_, H, F.re ⟨rfl, Aa, Aa, Aa, trivial⟩, W⟩
  have H := AN (Bk hb) H
  rw [hb] at F
  clear hb
  refine Ba ?_
  iterate 2 refine Br ?_
  refine Bb (Ac ?_)
  have H := L2 _ H
  exact ⟨H, F.re ⟨rfl, trivial⟩, W⟩
 rintro a w ⟨hj, F, W⟩
 have H := K1 _ hj
 clear hj G1 K1 L1
 refine Ah (Ab ?_)
 refine ls F W Aa (Ae F Aa).q fun a w F W => ?_
 refine Ad (Ac (Av ?_))
 have H := AP H
 subst H
 refine AQ (.inl Aa) F W Aa (Ap F Aa) ?_
 exact ⟨rfl, W.done⟩
theorem R9 : Has Try.prog 13 := ⟨fun args w => Aj Try.func13 rfl (by decide) args w⟩
noncomputable def Cl (p0 : Int × (List (Int × Int × Int × Int × Int × Int)) × (List (Int × Int))) (p1 : List (List Int)) (x2 : Int) (x3 : List Int) : Int → Option (Int ⊕ (Unit ⊕ (Int ⊕ (Unit ⊕ Bool))))
  | x4 => (if x4 < (x3.length : Int) then (Dg p0 p1 x2 x4).bind fun x5 => (if x5.2 ≠ 0 then some (.inr (.inr (.inr (.inr false)))) else some (.inl (BV (x4 + 1)))) else some (.inr (.inl ())))
noncomputable def CD (p0 : Int × (List (Int × Int × Int × Int × Int × Int)) × (List (Int × Int))) (p1 : List (List Int)) : Int → Option (Int ⊕ (Unit ⊕ Bool))
  | x2 => (if x2 < (p1.length : Int) then Fv ((ix p1 x2).bind fun x3 => AA (Cl p0 p1 x2 x3) 0) fun _ => some (.inl (BV (x2 + 1))) else some (.inr (.inl ())))
noncomputable def CS (p0 : Int × (List (Int × Int × Int × Int × Int × Int)) × (List (Int × Int))) (p1 : List (List Int)) : Option Bool := (CM p0 p1).bind fun x1 => (if (!x1) = true then some false else Fv (AA (CD p0 p1) 0) fun _ => some true)
theorem FP (Y : Nat → Prop) (w0 : World) (v1 : Value) (v2 : Value) (v3 : Value) (p0 : Int × (List (Int × Int × Int × Int × Int × Int)) × (List (Int × Int))) (p1 : List (List Int)) (r : Bool) (H : CS p0 p1 = some r) (h_v1 : Sl w0 (NX []) Ev v1 p0.2.1) (h_v2 : Sl w0 (NX []) Ep v2 p0.2.2) (h_v3 : Sl w0 (NX []) (Rp.slice (Rp.int .i64)) v3 p1) :
    Calls Try.prog 9 #[.agg #[.int .i64 p0.1, v1, v2], v3] w0 fun e w' => e = .returned (.bool r) ∧ Below w0.heap.size w0 w' := by
 refine enter Try.func9 Aa Try.ntmps9 Aa fun a F => ?_
 have W := Stw.start Y w0
 obtain ⟨v4, h1, h_v3⟩ := h_v3.ex F4
 unfold CS at H
 refine Ah (Ab ?_)
 refine C5 (cs := [.int .i64 p0.1, v1, v2]) F W Aa Aa Aa fun b1 a w F W => ?_
 refine ls F W Aa (Ae F Aa).q fun a w F W => ?_
 refine Ad (Ac (Ah (Ah (Ab ?_))))
 refine ls F W Aa (An (v := Value.agg #[.int .i64 p0.1, v1, v2]) 0 F Aa Aa GI Aa).q fun a w F W => ?_
 refine ls F W Aa (Af F Aa).q fun a w F W => ?_
 obtain ⟨x1, h2, H⟩ := Am H
 refine ls F W Aa (AW (v := Value.bool x1) F RV Aa (fun w W => GN any w (v1) (v2) (v3) p0 p1 _ h2 (((Ak h_v1) : CE _ _ _ _ _ _) w W).nx (((Ak h_v2) : CE _ _ _ _ _ _) w W).nx (((Dj F4 h1 (Ak h_v3)) : CE _ _ _ _ _ _) w W).nx)) fun a w F W => ?_
 refine ls F W Aa (EP F Aa).q fun a w F W => ?_
 refine Ad (Ac ?_)
 refine Aw F Aa (fun hb => ?_) fun hb => ?_
 ·
  have H := AM hb H
  rw [hb] at F
  clear hb
  refine Ah (Ab ?_)
  refine ls F W Aa (Ae F Aa).q fun a w F W => ?_
  refine Ad (Ac (Av (AH ?_)))
  have H := AP H
  subst H
  refine AQ (.inl Aa) F W Aa (Ap F Aa) ?_
  exact ⟨rfl, W.done⟩
 have H := AN (by rw [hb]; decide) H
 rw [hb] at F
 clear hb
 refine Aq (Ac ?_)
 obtain ⟨o1, G1, K1, L1⟩ := KJ H
 refine AJ (fun a w => some (Sum.inl ()) = some o1 ∧ Fr 38 [] [(4, .bool false)] a ∧ Stw ⟨Y, [], w0⟩ [(b1, [.int .i64 p0.1, v1, v2])] [] w) ?_ ?_
 ·
  have H := G1
  clear G1 K1
  refine Ah (Ab ?_)
  refine ls F W Aa (Af F Aa).q fun a w F W => ?_
  refine ls F W Aa (Bh (r := (Rp.slice (Rp.int .i64))) (l := p1) K9 Aa F Aa (Dj F4 h1 (Ak h_v3))).q fun a w F W => ?_
  refine ls F W Aa (Af F Aa).q fun a w F W => ?_
  refine Ad (Ac (As ?_))
  refine A4 H (fun s a w => Fr 38 [] [(1, v3), (2, .pointer (some ⟨b1, 0, none⟩)), (4, .bool false), (14, v3), (15, .int .i64 (p1.length : Int)), (16, .int .i64 s)] a ∧ Stw ⟨Y, [], w0⟩ [(b1, [.int .i64 p0.1, v1, v2])] [] w) ⟨F.re ⟨rfl, Aa, Aa, Aa, Aa, Aa, trivial⟩, W⟩ fun s o a w H L2 hR => ?_
  obtain ⟨x2, rfl⟩ : ∃ x, x = s := ⟨s, rfl⟩
  obtain ⟨F, W⟩ := hR
  have F : Fr 38 [] [(1, v3), (2, .pointer (some ⟨b1, 0, none⟩)), (4, .bool false), (14, v3), (15, .int .i64 (p1.length : Int)), (16, .int .i64 x2)] a := F
  have W : Stw ⟨Y, [], w0⟩ [(b1, [.int .i64 p0.1, v1, v2])] [] w := W
  rw [CD] at H
  refine Ah (Ab ?_)
  refine ls F W Aa (Bg F Aa Aa).q fun a w F W => ?_
  refine Ad (Ac (Ah ?_))
  refine Aw F Aa (fun hb => ?_) fun hb => ?_
  ·
   have H := AM (Bj hb) H
   rw [hb] at F
   clear hb
   refine Aq (Ac ?_)
   obtain ⟨o3, G3, K3, L3⟩ := KJ H
   refine AJ (fun a w => some (Sum.inl ()) = some o3 ∧ Fr 38 [] [(1, v3), (2, .pointer (some ⟨b1, 0, none⟩)), (4, .bool false), (14, v3), (15, .int .i64 (p1.length : Int)), (16, .int .i64 x2)] a ∧ Stw ⟨Y, [], w0⟩ [(b1, [.int .i64 p0.1, v1, v2])] [] w) ?_ ?_
   ·
    have H := G3
    clear G3 K3
    refine As (Ah (Ab ?_))
    refine ls F W Aa (Af F Aa).q fun a w F W => ?_
    obtain ⟨x3, h3, H⟩ := Am H
    obtain ⟨v5, h4, h5⟩ := Hi h1 h3
    have h6 : HU v5 = [(v5.1)] := congrArg (fun q : List Int => ([(v5.1)] : List Value)) h5
    refine ls F W Aa (AK (r := (Rp.vsl (Rp.int .i64))) Nx F Aa Aa (Ak h_v3) h4).q fun a w F W => ?_
    refine ls F W Aa (Ay (y := (v5.1)) (j := 0) (i := x2) (enc := HU) F Aa Aa (Ak h_v3) h4 Nk PU (by rw [h6]; rfl)).q fun a w F W => ?_
    iterate 2 refine ls F W Aa (Ae F Aa).q fun a w F W => ?_
    refine Ad (Ac (Ah (Ab ?_)))
    refine ls F W Aa (Af F Aa).q fun a w F W => ?_
    refine ls F W Aa (Bh (r := (Rp.int .i64)) (l := x3) GH Aa F Aa (FQ (Ak h_v3) h4 Gn.here (congrArg (fun q : List Int => q) h5))).q fun a w F W => ?_
    refine ls F W Aa (Af F Aa).q fun a w F W => ?_
    refine Ad (Ac (As ?_))
    refine A4 H (fun s a w => Fr 38 [] [(1, v3), (2, .pointer (some ⟨b1, 0, none⟩)), (4, .bool false), (5, .int .i64 x2), (14, v3), (15, .int .i64 (p1.length : Int)), (16, .int .i64 x2), (22, .int .i64 (x3.length : Int)), (23, .int .i64 s)] a ∧ Stw ⟨Y, [], w0⟩ [(b1, [.int .i64 p0.1, v1, v2])] [] w) ⟨F.re ⟨rfl, Aa, Aa, Aa, Aa, Aa, Aa, Aa, Aa, trivial⟩, W⟩ fun s o a w H L4 hR => ?_
    obtain ⟨x4, rfl⟩ : ∃ x, x = s := ⟨s, rfl⟩
    obtain ⟨F, W⟩ := hR
    have F : Fr 38 [] [(1, v3), (2, .pointer (some ⟨b1, 0, none⟩)), (4, .bool false), (5, .int .i64 x2), (14, v3), (15, .int .i64 (p1.length : Int)), (16, .int .i64 x2), (22, .int .i64 (x3.length : Int)), (23, .int .i64 x4)] a := F
    have W : Stw ⟨Y, [], w0⟩ [(b1, [.int .i64 p0.1, v1, v2])] [] w := W
    rw [Cl] at H
    refine Ah (Ab ?_)
    refine ls F W Aa (Bg F Aa Aa).q fun a w F W => ?_
    refine Ad (Ac (Ah ?_))
    refine Aw F Aa (fun hb => ?_) fun hb => ?_
    ·
     have H := AM (Bj hb) H
     rw [hb] at F
     clear hb
     refine Aq (Ac (Ah (As (Ah (Ab ?_)))))
     refine ls F W Aa (Af F Aa).q fun a w F W => ?_
     refine ls F W Aa (Ae F Aa).q fun a w F W => ?_
     refine Ad (Ac (Ah (Ab ?_)))
     refine ls F W Aa (An (v := Value.agg #[.int .i64 p0.1, v1, v2]) 0 F Aa Aa GI Aa).q fun a w F W => ?_
     iterate 3 refine ls F W Aa (Af F Aa).q fun a w F W => ?_
     obtain ⟨x5, h7, H⟩ := Am H
     refine BK (Ml := []) (Zl := []) (M := [(b1, [.int .i64 p0.1, v1, v2])]) (Z := []) (β := Value) (rv := fun x => .tuple #[x, .int .i64 x5.2]) (MM := fun x => []) (ZZ := fun x => [row x 3 (Rp.int .i64) x5.1]) F W RH Aa Aa (fun hL => HC _ w (v1) (v2) (v3) p0 p1 x2 x4 _ h7 ((Ak h_v1) w W).nx ((Ak h_v2) w W).nx ((Dj F4 h1 (Ak h_v3)) w W).nx) fun x a w F W => ?_
     obtain ⟨v6, rfl⟩ : ∃ y, y = x := ⟨x, rfl⟩
     have W : Stw ⟨Y, [], w0⟩ [(b1, [.int .i64 p0.1, v1, v2])] [row v6 3 (Rp.int .i64) x5.1] w := W
     refine ls F W Aa (Af F Aa).q fun a w F W => ?_
     refine ls F W Aa (Bc (v := v6) F Aa Aa).q fun a w F W => ?_
     refine ls F W Aa (Bc (v := Value.int .i64 x5.2) F Aa Aa).q fun a w F W => ?_
     iterate 2 refine ls F W Aa (Ae F Aa).q fun a w F W => ?_
     refine Ad (Ac (Ah (Ab ?_)))
     refine ls F W Aa (Af F Aa).q fun a w F W => ?_
     refine ls F W Aa (GM F Aa Aa).q fun a w F W => ?_
     refine Ad (Ac ?_)
     refine Aw F Aa (fun hb => ?_) fun hb => ?_
     ·
      have H := AM (Bj hb) H
      rw [hb] at F
      clear hb
      refine Ah (Ab ?_)
      refine ls F W Aa (Ae F Aa).q fun a w F W => ?_
      refine Ad (Ac (Av (AU ?_)))
      iterate 2 refine AH ?_
      iterate 2 refine AU ?_
      iterate 2 refine AH ?_
      refine AU (AH ?_)
      have H := L4 _ H
      have H := L3 _ H
      have H := L2 _ H
      have H := L1 _ H
      have H := AP H
      subst H
      refine AQ (.inl Aa) F W Aa (Ap F Aa) ?_
      exact ⟨rfl, W.done⟩
     have H := AN (Bk hb) H
     rw [hb] at F
     clear hb
     refine Aq (AR (Ac (Ab ?_)))
     refine ls F W Aa (BB F Aa Aa Aa).q fun a w F W => ?_
     refine ls F W Aa (Af F Aa).q fun a w F W => ?_
     refine Ad (Ac ?_)
     have W := W.sub (M' := [(b1, [.int .i64 p0.1, v1, v2])]) (Z' := []) (List.Sublist.refl _) (List.nil_sublist _)
     exact ⟨_, H, F.re ⟨rfl, Aa, Aa, Aa, Aa, Aa, Aa, Aa, Aa, trivial⟩, W⟩
    have H := AN (Bk hb) H
    rw [hb] at F
    clear hb
    refine Ba ?_
    iterate 2 refine Br ?_
    refine Bb (AR (Ac ?_))
    have H := L4 _ H
    exact ⟨H, F.re ⟨rfl, Aa, Aa, Aa, Aa, Aa, trivial⟩, W⟩
   rintro a w ⟨hj, F, W⟩
   have H := K3 _ hj
   clear hj G3 K3 L3
   refine Ab ?_
   refine ls F W Aa (BB F Aa Aa Aa).q fun a w F W => ?_
   refine ls F W Aa (Af F Aa).q fun a w F W => ?_
   refine Ad (Ac ?_)
   exact ⟨_, H, F.re ⟨rfl, Aa, Aa, Aa, Aa, Aa, trivial⟩, W⟩
  have H := AN (Bk hb) H
  rw [hb] at F
  clear hb
  refine Ba ?_
  iterate 2 refine Br ?_
  refine Bb (Ac ?_)
  have H := L2 _ H
  exact ⟨H, F.re ⟨rfl, trivial⟩, W⟩
 rintro a w ⟨hj, F, W⟩
 have H := K1 _ hj
 clear hj G1 K1 L1
 refine Ah (Ab ?_)
 refine ls F W Aa (Ae F Aa).q fun a w F W => ?_
 refine Ad (Ac (Av ?_))
 have H := AP H
 subst H
 refine AQ (.inl Aa) F W Aa (Ap F Aa) ?_
 exact ⟨rfl, W.done⟩
end Go.Proofs.Ytieebnllkjmjiaa
