/- The functions of layer 12, EV. Conditions: none. -/
import Derived.Test.YtfnmlmglmegamaacA0
namespace Go.Proofs.Ytfnmlmglmegamaa
open Go Go.RowKit
set_option linter.unusedVariables false
set_option linter.unusedSimpArgs false
set_option maxRecDepth 20000
theorem Ro : Has Try.prog 41 := B3 Try.func41
abbrev HF (a0 : Int × (Int × (Int × (Int × Int × Int × Int) × (Int × Int × Int × Int)) × (List (Int × Int × Int))) × Bool) (a1 : Value) : List Value := [.int .i64 a0.1, .int .i64 a0.2.1.1, .int .i64 a0.2.1.2.1.1, .int .i64 a0.2.1.2.1.2.1.1, .int .i64 a0.2.1.2.1.2.1.2.1, .int .i64 a0.2.1.2.1.2.1.2.2.1, .int .i64 a0.2.1.2.1.2.1.2.2.2, .int .i64 a0.2.1.2.1.2.2.1, .int .i64 a0.2.1.2.1.2.2.2.1, .int .i64 a0.2.1.2.1.2.2.2.2.1, .int .i64 a0.2.1.2.1.2.2.2.2.2, a1, .bool a0.2.2]
abbrev Lz  : List Value := [.int .i64 0, .int .i64 0, .int .i64 0, .int .i64 0, .int .i64 0, .int .i64 0, .int .i64 0, .int .i64 0, .int .i64 0, .int .i64 0, .int .i64 0, .slice none 0 0, .bool false]
abbrev OU (a0 : Nat) (a1 : Nat) (a2 : Int × (Int × (Int × (Int × Int × Int × Int) × (Int × Int × Int × Int)) × (List (Int × Int × Int))) × Bool) (a3 : Value) : List (Nat × List Value) := [(a0, [.int .i64 0, .int .i64 0, .int .i64 0, .int .i64 0, .int .i64 0, .int .i64 0, .int .i64 0, .int .i64 0, .int .i64 0, .int .i64 0, .int .i64 0, .slice none 0 0, .bool false]), (a1, [.int .i64 a2.1, .int .i64 a2.2.1.1, .int .i64 a2.2.1.2.1.1, .int .i64 a2.2.1.2.1.2.1.1, .int .i64 a2.2.1.2.1.2.1.2.1, .int .i64 a2.2.1.2.1.2.1.2.2.1, .int .i64 a2.2.1.2.1.2.1.2.2.2, .int .i64 a2.2.1.2.1.2.2.1, .int .i64 a2.2.1.2.1.2.2.2.1, .int .i64 a2.2.1.2.1.2.2.2.2.1, .int .i64 a2.2.1.2.1.2.2.2.2.2, a3, .bool a2.2.2])]
noncomputable def Cv (p0 : Int × (Int × (Int × (Int × Int × Int × Int) × (Int × Int × Int × Int)) × (List (Int × Int × Int))) × Bool) : Option (Int × (Int × (Int × (Int × Int × Int × Int) × (Int × Int × Int × Int)) × (List (Int × Int × Int))) × Bool) := (AW p0.2.1.2.2).bind fun x1 => some (p0.1, (p0.2.1.1, p0.2.1.2.1, x1), p0.2.2)
theorem FZ (Y : Nat → Prop) (w0 : World) (v1 : Value) (p0 : Int × (Int × (Int × (Int × Int × Int × Int) × (Int × Int × Int × Int)) × (List (Int × Int × Int))) × Bool) (r : (Int × (Int × (Int × (Int × Int × Int × Int) × (Int × Int × Int × Int)) × (List (Int × Int × Int))) × Bool)) (H : Cv p0 = some r) (s_v1 : Sl w0 Y Bl v1 p0.2.1.2.2) :
    Calls Try.prog 27 #[.agg #[.int .i64 p0.1, .int .i64 p0.2.1.1, .int .i64 p0.2.1.2.1.1, .int .i64 p0.2.1.2.1.2.1.1, .int .i64 p0.2.1.2.1.2.1.2.1, .int .i64 p0.2.1.2.1.2.1.2.2.1, .int .i64 p0.2.1.2.1.2.1.2.2.2, .int .i64 p0.2.1.2.1.2.2.1, .int .i64 p0.2.1.2.1.2.2.2.1, .int .i64 p0.2.1.2.1.2.2.2.2.1, .int .i64 p0.2.1.2.1.2.2.2.2.2, v1, .bool p0.2.2]] w0 fun e w' => ∃ x : Value, e = .returned (.agg #[.int .i64 r.1, .int .i64 r.2.1.1, .int .i64 r.2.1.2.1.1, .int .i64 r.2.1.2.1.2.1.1, .int .i64 r.2.1.2.1.2.1.2.1, .int .i64 r.2.1.2.1.2.1.2.2.1, .int .i64 r.2.1.2.1.2.1.2.2.2, .int .i64 r.2.1.2.1.2.2.1, .int .i64 r.2.1.2.1.2.2.2.1, .int .i64 r.2.1.2.1.2.2.2.2.1, .int .i64 r.2.1.2.1.2.2.2.2.2, x, .bool r.2.2]) ∧ Stw ⟨Y, [], w0⟩ [] [row (x) 88 Bl r.2.1.2.2] w' := by
 refine enter Try.func27 Aa Try.ntmps27 Aa fun a F => ?_
 have W := Stw.start Y w0
 have h_v1 := W.nx s_v1
 unfold Cv at H
 refine vc tk 2 F W fun a w F W => ?_
 refine B1 (cs := (HF p0 v1)) F W Aa Aa Aa fun b1 a w F W => ?_
 refine Cn (cs := (Lz)) F W Aa Qg Aa fun b2 a w F W => ?_
 refine EY tk 7 [1] F W (ai fun a w F W => ?_)
 obtain ⟨x1, h1, H⟩ := Ah H
 refine AB (Ml := []) (Zl := []) (β := Value) (rv := fun x => x) (MM := fun x => []) (ZZ := fun x => [row x 88 Bl x1]) F W Ro Aa Aa (fun hL => CS _ w (v1) p0.2.1.2.2 _ h1 (W.old s_v1)) fun x a w F W => ?_
 obtain ⟨v2, rfl⟩ : ∃ y, y = x := ⟨x, rfl⟩
 have W : Stw ⟨Y, [], w0⟩ (OU b2 b1 p0 v1) [row v2 88 Bl x1] w := W
 refine vl tk 2 F W fun a w F W => ?_
 refine Ka (M' := (OU b2 b1 p0 v2)) 1 F W Aa Aa Aa NM (W.one (k := 0) Aa) Aa Aa fun w W => ?_
 refine EY tk 5 [1] F W (ai fun a w F W => ?_)
 refine EJ 0 F W Aa Aa Aa I3 Aa Aa (Ac Aa (Ac Aa (Ac Aa (Ac Aa (Ac Aa (Ac Aa (Ac Aa (Ac Aa (Ac Aa (Ac Aa (Ac Aa (Ac (W.one (k := 0) Aa) (Ac Aa Ct))))))))))))) fun w W => ?_
 refine BV tk 2 F W fun a w F W => ?_
 refine Al ?_
 have H := Aw H
 subst H
 refine Aq (.inl Aa) F W Aa (EG 0 F Aa Aa I3 Aa) ?_
 have W := W.sub (M' := []) (Z' := [row v2 88 Bl x1]) (List.nil_sublist _) (List.Sublist.refl _)
 exact ⟨(v2), Aa, W⟩
theorem O7 : type_of% Try.underlying68 := Try.underlying68
theorem Q6 : Has Try.prog 27 := B3 Try.func27
theorem R6 : Bt Try.prog 68 [.bool false, .int .i64 0, .int .i64 0, .int .i64 0, .int .i64 0, .int .i64 0, .int .i64 0, .int .i64 0, .int .i64 0, .int .i64 0, .int .i64 0, .int .i64 0, .slice none 0 0, .bool false] [(0, 1), (1, 13)] := ⟨⟨.agg #[.bool false, .int .i64 0, .int .i64 0, .int .i64 0, .int .i64 0, .int .i64 0, .int .i64 0, .int .i64 0, .int .i64 0, .int .i64 0, .int .i64 0, .int .i64 0, .slice none 0 0, .bool false], by kernel_rfl, rfl⟩, ⟨_, O7, fun w => by kernel_rfl⟩⟩
theorem PK : Ty Try.prog 68 true 14 := ⟨by kernel_rfl, by kernel_rfl⟩
def DR (p0 : Int × (Int × (Int × Int × Int × Int) × (Int × Int × Int × Int)) × (List (Int × Int × Int))) (p1 : Int × (Int × (Int × Int × Int × Int) × (Int × Int × Int × Int)) × (List (Int × Int × Int))) : Bool := (decide (p0.1 = p1.1) && decide (p0.2.1.1 = p1.2.1.1 ∧ p0.2.1.2.1.1 = p1.2.1.2.1.1 ∧ p0.2.1.2.1.2.1 = p1.2.1.2.1.2.1 ∧ p0.2.1.2.1.2.2.1 = p1.2.1.2.1.2.2.1 ∧ p0.2.1.2.1.2.2.2 = p1.2.1.2.1.2.2.2 ∧ p0.2.1.2.2.1 = p1.2.1.2.2.1 ∧ p0.2.1.2.2.2.1 = p1.2.1.2.2.2.1 ∧ p0.2.1.2.2.2.2.1 = p1.2.1.2.2.2.2.1 ∧ p0.2.1.2.2.2.2.2 = p1.2.1.2.2.2.2.2))
theorem H2 (Y : Nat → Prop) (w0 : World) (v1 : Value) (v2 : Value) (p0 : Int × (Int × (Int × Int × Int × Int) × (Int × Int × Int × Int)) × (List (Int × Int × Int))) (p1 : Int × (Int × (Int × Int × Int × Int) × (Int × Int × Int × Int)) × (List (Int × Int × Int))) (r : Bool) (H : DR p0 p1 = r) (h_v1 : Sl w0 (NX []) Bl v1 p0.2.2) (h_v2 : Sl w0 (NX []) Bl v2 p1.2.2) :
    Calls Try.prog 59 #[.agg #[.int .i64 p0.1, .int .i64 p0.2.1.1, .int .i64 p0.2.1.2.1.1, .int .i64 p0.2.1.2.1.2.1, .int .i64 p0.2.1.2.1.2.2.1, .int .i64 p0.2.1.2.1.2.2.2, .int .i64 p0.2.1.2.2.1, .int .i64 p0.2.1.2.2.2.1, .int .i64 p0.2.1.2.2.2.2.1, .int .i64 p0.2.1.2.2.2.2.2, v1], .agg #[.int .i64 p1.1, .int .i64 p1.2.1.1, .int .i64 p1.2.1.2.1.1, .int .i64 p1.2.1.2.1.2.1, .int .i64 p1.2.1.2.1.2.2.1, .int .i64 p1.2.1.2.1.2.2.2, .int .i64 p1.2.1.2.2.1, .int .i64 p1.2.1.2.2.2.1, .int .i64 p1.2.1.2.2.2.2.1, .int .i64 p1.2.1.2.2.2.2.2, v2]] w0 fun e w' => e = .returned (.bool r) ∧ Below w0.heap.size w0 w' := by
 refine enter Try.func59 Aa Try.ntmps59 Aa fun a F => ?_
 have W := Stw.start Y w0
 unfold DR at H
 refine vc tk 2 F W fun a w F W => ?_
 refine B1 (cs := (Ed p0 v1)) F W Aa Aa Aa fun b1 a w F W => ?_
 refine B1 (cs := (Ed p1 v2)) F W Aa Aa Aa fun b2 a w F W => ?_
 refine BV tk 3 F W fun a w F W => ?_
 refine AC (fun a w => Fr 17 [] [(4, .bool (decide (p0.1 = p1.1) && decide (p0.2.1.1 = p1.2.1.1 ∧ p0.2.1.2.1.1 = p1.2.1.2.1.1 ∧ p0.2.1.2.1.2.1 = p1.2.1.2.1.2.1 ∧ p0.2.1.2.1.2.2.1 = p1.2.1.2.1.2.2.1 ∧ p0.2.1.2.1.2.2.2 = p1.2.1.2.1.2.2.2 ∧ p0.2.1.2.2.1 = p1.2.1.2.2.1 ∧ p0.2.1.2.2.2.1 = p1.2.1.2.2.2.1 ∧ p0.2.1.2.2.2.2.1 = p1.2.1.2.2.2.2.1 ∧ p0.2.1.2.2.2.2.2 = p1.2.1.2.2.2.2.2)))] a ∧ Stw ⟨Y, [], w0⟩ (NV b2 p1 v2 b1 p0 v1) [] w) ?_ ?_
 ·
  refine Gh tk 7 [1, 0] F W (ai (ai fun a w F W => ?_))
  rcases Bool.eq_false_or_eq_true (decide (p0.1 = p1.1)) with hb0 | hb0
  ·
   rw [hb0] at F
   refine GY tk 4 [1, 0] F W (ai (ai fun a w F W => ?_))
   refine EC F W (Ag F Aa Aa Aa Aa) Aa (Ax Aa) (Lg (t := decide (p0.2.1.1 = p1.2.1.1 ∧ p0.2.1.2.1.1 = p1.2.1.2.1.1 ∧ p0.2.1.2.1.2.1 = p1.2.1.2.1.2.1 ∧ p0.2.1.2.1.2.2.1 = p1.2.1.2.1.2.2.1 ∧ p0.2.1.2.1.2.2.2 = p1.2.1.2.1.2.2.2 ∧ p0.2.1.2.2.1 = p1.2.1.2.2.1 ∧ p0.2.1.2.2.2.1 = p1.2.1.2.2.2.1 ∧ p0.2.1.2.2.2.2.1 = p1.2.1.2.2.2.2.1 ∧ p0.2.1.2.2.2.2.2 = p1.2.1.2.2.2.2.2)) Qf (Ql _ _ _ _ _ _ _ _ _ _ _ _ _ _ _ _ _ _) F Aa Aa).q fun a w F W => ?_
   refine vl tk 3 F W fun a w F W => ?_
   refine Ad ?_
   exact ⟨F.re ⟨(F6 (by try rw [hb0]; all_goals simp only [F7])), trivial⟩, W⟩
  rw [hb0] at F
  refine vl tk 8 F W fun a w F W => ?_
  refine Ad ?_
  exact ⟨F.re ⟨(F6 (by try rw [hb0]; all_goals simp only [F7])), trivial⟩, W⟩
 rintro a w ⟨F, W⟩
 refine Al ?_
 subst H
 refine Aq (.inl Aa) F W Aa (Ak F Aa) ?_
 exact ⟨rfl, W.done⟩
theorem Q7 : Has Try.prog 59 := B3 Try.func59
theorem QZ (dd : Nat) (x0 : Int) (x1 : Int) (x2 : Int) (y0 : Int) (y1 : Int) (y2 : Int) (w : World) : (Op.equalIn (dd + 2) 88 (.agg #[.int .i64 x0, .int .i64 x1, .int .i64 x2]) (.agg #[.int .i64 y0, .int .i64 y1, .int .i64 y2])).run Try.prog w = .ok (decide (x0 = y0 ∧ x1 = y1 ∧ x2 = y2)) w :=
  Jc (d := dd + 1) (rs := [decide (x0 = y0), decide (x1 = y1), decide (x2 = y2)]) HR (by kernel_rfl) ⟨rfl, HX (d := dd + 0) rfl rfl PM T3 rfl rfl, rfl, HX (d := dd + 0) rfl rfl PM T3 rfl rfl, rfl, HX (d := dd + 0) rfl rfl PM T3 rfl rfl, trivial⟩ (by simp) w
theorem Rj : Try.prog.eqGuardType Try.prog.depth 88 = false := by kernel_rfl
theorem Rq (x0 : Int) (x1 : Int) (x2 : Int) (y0 : Int) (y1 : Int) (y2 : Int) (w : World) : (Op.equalIn 10000 88 (.agg #[.int .i64 x0, .int .i64 x1, .int .i64 x2]) (.agg #[.int .i64 y0, .int .i64 y1, .int .i64 y2])).run Try.prog w = .ok (decide (x0 = y0 ∧ x1 = y1 ∧ x2 = y2)) w := QZ 9998 x0 x1 x2 y0 y1 y2 w
noncomputable def Bb (p0 : List (Int × Int × Int)) (p1 : List (Int × Int × Int)) : Int → Option (Int ⊕ (Unit ⊕ Bool))
  | x1 => (if x1 < (p0.length : Int) then (ix p0 x1).bind fun x2 => (ix p1 x1).bind fun x3 => (if (!(decide (x2.1 = x3.1 ∧ x2.2.1 = x3.2.1 ∧ x2.2.2 = x3.2.2))) = true then some (.inr (.inr false)) else some (.inl (Cs (x1 + 1)))) else some (.inr (.inl ())))
noncomputable def Bm (p0 : List (Int × Int × Int)) (p1 : List (Int × Int × Int)) : Option Bool := (if (p0.length : Int) ≠ (p1.length : Int) then some false else Fu (AJ (Bb p0 p1) 0) fun _ => some true)
theorem Ea (Y : Nat → Prop) (w0 : World) (v1 : Value) (v2 : Value) (p0 : List (Int × Int × Int)) (p1 : List (Int × Int × Int)) (r : Bool) (H : Bm p0 p1 = some r) (h_v1 : Sl w0 (NX []) Bl v1 p0) (h_v2 : Sl w0 (NX []) Bl v2 p1) :
    Calls Try.prog 75 #[v1, v2] w0 fun e w' => e = .returned (.bool r) ∧ Below w0.heap.size w0 w' := by
 refine enter Try.func75 Aa Try.ntmps75 Aa fun a F => ?_
 have W := Stw.start Y w0
 unfold Bm at H
 refine vc tk 9 F W fun a w F W => ?_
 refine ls F W Aa (BQ (r := Bl) (l := p0) HC Aa F Aa (Aj h_v1)).q fun a w F W => ?_
 refine ls F W Aa (Am F Aa).q fun a w F W => ?_
 refine ls F W Aa (BQ (r := Bl) (l := p1) HC Aa F Aa (Aj h_v2)).q fun a w F W => ?_
 refine BV tk 3 F W fun a w F W => ?_
 refine Br F Aa H (fun F H => ?_) fun F H => ?_
 ·
  refine vc tk 5 F W fun a w F W => ?_
  refine Al (Ap ?_)
  have H := Aw H
  subst H
  refine Aq (.inl Aa) F W Aa (Ak F Aa) ?_
  exact ⟨rfl, W.done⟩
 refine AH (Ad ?_)
 obtain ⟨o1, G1, K1, L1⟩ := IZ H
 refine AC (fun a w => some (Sum.inl ()) = some o1 ∧ Fr 26 [] [(4, .bool false)] a ∧ Stw ⟨Y, [], w0⟩ [] [] w) ?_ ?_
 ·
  have H := G1
  clear G1 K1
  refine vc tk 3 F W fun a w F W => ?_
  refine ls F W Aa (BQ (r := Bl) (l := p0) HC Aa F Aa (Aj h_v1)).q fun a w F W => ?_
  refine BV tk 4 F W fun a w F W => ?_
  refine BI H (fun s a w => Fr 26 [] [(0, v1), (1, v2), (4, .bool false), (12, .int .i64 (p0.length : Int)), (13, .int .i64 s)] a ∧ Stw ⟨Y, [], w0⟩ [] [] w) ⟨F.ra Aa, W⟩ fun s o a w H L2 hR => ?_
  obtain ⟨x1, rfl⟩ : ∃ x, x = s := ⟨s, rfl⟩
  obtain ⟨F, W⟩ := hR
  have F : Fr 26 [] [(0, v1), (1, v2), (4, .bool false), (12, .int .i64 (p0.length : Int)), (13, .int .i64 x1)] a := F
  have W : Stw ⟨Y, [], w0⟩ [] [] w := W
  rw [Bb] at H
  refine vc tk 6 F W fun a w F W => ?_
  refine Br F Aa H (fun F H => ?_) fun F H => ?_
  ·
   refine E8 tk 11 F W fun a w F W => ?_
   refine CV W MO (by kernel_rfl) ?_
   iterate 2 refine qs F Aa (Am F Aa).q fun a F => ?_
   obtain ⟨x2, h1, H⟩ := Ah H
   refine qs F Aa (A8 (r := Bl) Oe F Aa Aa (Aj h_v1) h1).q fun a F => ?_
   refine qs F Aa (AE (y := Value.agg #[.int .i64 x2.1, .int .i64 x2.2.1, .int .i64 x2.2.2]) (j := 0) (i := x1) F Aa Aa (Aj h_v1) h1 OE.to O2 Aa).q fun a F => ?_
   iterate 2 refine qs F Aa (Am F Aa).q fun a F => ?_
   obtain ⟨x3, h2, H⟩ := Ah H
   refine qs F Aa (A8 (r := Bl) Oe F Aa Aa (Aj h_v2) h2).q fun a F => ?_
   refine qs F Aa (AE (y := Value.agg #[.int .i64 x3.1, .int .i64 x3.2.1, .int .i64 x3.2.2]) (j := 0) (i := x1) F Aa Aa (Aj h_v2) h2 OE.to O2 Aa).q fun a F => ?_
   refine qs F Aa (ME (t := decide (x2.1 = x3.1 ∧ x2.2.1 = x3.2.1 ∧ x2.2.2 = x3.2.2)) Rj (Rq _ _ _ _ _ _) F Aa Aa).q fun a F => ?_
   refine AM fun w W => ?_
   refine Ad ?_
   refine B8 F Aa H (fun F H => ?_) fun F H => ?_
   ·
    refine vc tk 5 F W fun a w F W => ?_
    refine Al (Az ?_)
    iterate 2 refine Ap ?_
    refine Az (Ap ?_)
    have H := L2 _ H
    have H := L1 _ H
    have H := Aw H
    subst H
    refine Aq (.inl Aa) F W Aa (Ak F Aa) ?_
    exact ⟨rfl, W.done⟩
   refine AH (AV ?_)
   refine vn tk 4 F W fun a w F W => ?_
   refine Ad ?_
   exact ⟨_, H, F.ra Aa, W⟩
  refine Bz ?_
  iterate 2 refine B7 ?_
  refine BC (Ad ?_)
  have H := L2 _ H
  exact ⟨H, F.ra Aa, W⟩
 rintro a w ⟨hj, F, W⟩
 have H := K1 _ hj
 clear hj G1 K1 L1
 refine vc tk 5 F W fun a w F W => ?_
 refine Al ?_
 have H := Aw H
 subst H
 refine Aq (.inl Aa) F W Aa (Ak F Aa) ?_
 exact ⟨rfl, W.done⟩
theorem RI : Has Try.prog 75 := B3 Try.func75
noncomputable def EZ (p0 : List (Int × Int × Int)) (p1 : List (Int × Int × Int)) : Option Bool := (Bm p0 p1).bind fun x1 => some x1
theorem KZ (Y : Nat → Prop) (w0 : World) (v1 : Value) (v2 : Value) (p0 : List (Int × Int × Int)) (p1 : List (Int × Int × Int)) (r : Bool) (H : EZ p0 p1 = some r) (h_v1 : Sl w0 (NX []) Bl v1 p0) (h_v2 : Sl w0 (NX []) Bl v2 p1) :
    Calls Try.prog 60 #[v1, v2] w0 fun e w' => e = .returned (.bool r) ∧ Below w0.heap.size w0 w' := by
 refine enter Try.func60 Aa Try.ntmps60 Aa fun a F => ?_
 have W := Stw.start Y w0
 unfold EZ at H
 refine vc tk 9 F W fun a w F W => ?_
 obtain ⟨x1, h1, H⟩ := Ah H
 refine ls F W Aa (AU (v := Value.bool x1) F RI Aa (fun w W => Ea any w (v1) (v2) p0 p1 _ h1 (CY (Aj h_v1) W) (CY (Aj h_v2) W))) fun a w F W => ?_
 refine BV tk 3 F W fun a w F W => ?_
 refine Al ?_
 have H := Aw H
 subst H
 refine Aq (.inl Aa) F W Aa (Ak F Aa) ?_
 exact ⟨rfl, W.done⟩
theorem RC : Has Try.prog 60 := B3 Try.func60
noncomputable def Ee (p0 : Int × (Int × (Int × Int × Int × Int) × (Int × Int × Int × Int)) × (List (Int × Int × Int))) (p1 : Int × (Int × (Int × Int × Int × Int) × (Int × Int × Int × Int)) × (List (Int × Int × Int))) : Option Bool := (if (DR p0 p1) = true then (EZ p0.2.2 p1.2.2).bind fun x2 => some x2 else some false).bind fun x1 => some x1
theorem Ku (Y : Nat → Prop) (w0 : World) (v1 : Value) (v2 : Value) (p0 : Int × (Int × (Int × Int × Int × Int) × (Int × Int × Int × Int)) × (List (Int × Int × Int))) (p1 : Int × (Int × (Int × Int × Int × Int) × (Int × Int × Int × Int)) × (List (Int × Int × Int))) (r : Bool) (H : Ee p0 p1 = some r) (h_v1 : Sl w0 (NX []) Bl v1 p0.2.2) (h_v2 : Sl w0 (NX []) Bl v2 p1.2.2) :
    Calls Try.prog 42 #[.agg #[.int .i64 p0.1, .int .i64 p0.2.1.1, .int .i64 p0.2.1.2.1.1, .int .i64 p0.2.1.2.1.2.1, .int .i64 p0.2.1.2.1.2.2.1, .int .i64 p0.2.1.2.1.2.2.2, .int .i64 p0.2.1.2.2.1, .int .i64 p0.2.1.2.2.2.1, .int .i64 p0.2.1.2.2.2.2.1, .int .i64 p0.2.1.2.2.2.2.2, v1], .agg #[.int .i64 p1.1, .int .i64 p1.2.1.1, .int .i64 p1.2.1.2.1.1, .int .i64 p1.2.1.2.1.2.1, .int .i64 p1.2.1.2.1.2.2.1, .int .i64 p1.2.1.2.1.2.2.2, .int .i64 p1.2.1.2.2.1, .int .i64 p1.2.1.2.2.2.1, .int .i64 p1.2.1.2.2.2.2.1, .int .i64 p1.2.1.2.2.2.2.2, v2]] w0 fun e w' => e = .returned (.bool r) ∧ Below w0.heap.size w0 w' := by
 refine enter Try.func42 Aa Try.ntmps42 Aa fun a F => ?_
 have W := Stw.start Y w0
 unfold Ee at H
 refine vc tk 2 F W fun a w F W => ?_
 refine B1 (cs := (Ed p0 v1)) F W Aa Aa Aa fun b1 a w F W => ?_
 refine B1 (cs := (Ed p1 v2)) F W Aa Aa Aa fun b2 a w F W => ?_
 refine vl tk 2 F W fun a w F W => ?_
 refine Ad ?_
 obtain ⟨o1, G1, K1⟩ := Ah H
 refine AC (fun a w => ∃ x1 : Bool, some (x1) = some o1 ∧ Fr 15 [] [(4, .bool x1)] a ∧ Stw ⟨Y, [], w0⟩ (NV b2 p1 v2 b1 p0 v1) [] w) ?_ ?_
 ·
  have H := G1
  clear G1 K1
  refine Gh tk 3 [1, 0] F W (ai (ai fun a w F W => ?_))
  refine ls F W Aa (AU (v := Value.bool (DR p0 p1)) F Q7 Aa (fun w W => H2 any w (v1) (v2) p0 p1 _ Aa (CY (Aj h_v1) W) (CY (Aj h_v2) W))) fun a w F W => ?_
  refine ls F W Aa (Am F Aa).q fun a w F W => ?_
  rcases Bool.eq_false_or_eq_true (DR p0 p1) with hb | hb
  ·
   have H := BW hb H
   rw [hb] at F
   clear hb
   refine GY tk 4 [1, 0] F W (ai (ai fun a w F W => ?_))
   refine Fg (Ag F Aa Aa Aa Aa) ?_
   obtain ⟨x2, h1, H⟩ := Ah H
   refine ls F W Aa (AU (v := Value.bool x2) F RC Aa (fun w W => KZ any w (v1) (v2) p0.2.2 p1.2.2 _ h1 (CY (Aj h_v1) W) (CY (Aj h_v2) W))) fun a w F W => ?_
   refine vl tk 3 F W fun a w F W => ?_
   refine Ad ?_
   have W := W.frontM (i := 1) Aa Aa
   have W := W.frontM (i := 1) Aa Aa
   exact ⟨_, H, F.ra Aa, W⟩
  have H := BX (by rw [hb]; decide) H
  rw [hb] at F
  clear hb
  refine vl tk 8 F W fun a w F W => ?_
  refine Ad ?_
  have W := W.frontM (i := 1) Aa Aa
  have W := W.frontM (i := 1) Aa Aa
  exact ⟨_, H, F.ra Aa, W⟩
 rintro a w ⟨x1, hj, F, W⟩
 have hj := Aw hj
 subst hj
 have H := K1
 clear G1 K1
 refine Al ?_
 have H := Aw H
 subst H
 refine Aq (.inl Aa) F W Aa (Ak F Aa) ?_
 exact ⟨rfl, W.done⟩
theorem Rh : type_of% Try.underlying4 := Try.underlying4
theorem RD : Has Try.prog 42 := B3 Try.func42
abbrev OV (a0 : Nat) (a1 : Int × (Int × (Int × (Int × Int × Int × Int) × (Int × Int × Int × Int)) × (List (Int × Int × Int))) × Bool) (a2 : Value) (a3 : Nat) (a4 : Int × (Int × (Int × (Int × Int × Int × Int) × (Int × Int × Int × Int)) × (List (Int × Int × Int))) × Bool) (a5 : Value) : List (Nat × List Value) := [(a0, [.int .i64 a1.1, .int .i64 a1.2.1.1, .int .i64 a1.2.1.2.1.1, .int .i64 a1.2.1.2.1.2.1.1, .int .i64 a1.2.1.2.1.2.1.2.1, .int .i64 a1.2.1.2.1.2.1.2.2.1, .int .i64 a1.2.1.2.1.2.1.2.2.2, .int .i64 a1.2.1.2.1.2.2.1, .int .i64 a1.2.1.2.1.2.2.2.1, .int .i64 a1.2.1.2.1.2.2.2.2.1, .int .i64 a1.2.1.2.1.2.2.2.2.2, a2, .bool a1.2.2]), (a3, [.int .i64 a4.1, .int .i64 a4.2.1.1, .int .i64 a4.2.1.2.1.1, .int .i64 a4.2.1.2.1.2.1.1, .int .i64 a4.2.1.2.1.2.1.2.1, .int .i64 a4.2.1.2.1.2.1.2.2.1, .int .i64 a4.2.1.2.1.2.1.2.2.2, .int .i64 a4.2.1.2.1.2.2.1, .int .i64 a4.2.1.2.1.2.2.2.1, .int .i64 a4.2.1.2.1.2.2.2.2.1, .int .i64 a4.2.1.2.1.2.2.2.2.2, a5, .bool a4.2.2])]
noncomputable def Dn (p0 : Int × (Int × (Int × (Int × Int × Int × Int) × (Int × Int × Int × Int)) × (List (Int × Int × Int))) × Bool) (p1 : Int × (Int × (Int × (Int × Int × Int × Int) × (Int × Int × Int × Int)) × (List (Int × Int × Int))) × Bool) : Option Bool := (if p0.1 = p1.1 then (if p0.2.2 = p1.2.2 then (Ee p0.2.1 p1.2.1).bind fun x2 => some x2 else some false) else some false).bind fun x1 => some x1
theorem IV (Y : Nat → Prop) (w0 : World) (v1 : Value) (v2 : Value) (p0 : Int × (Int × (Int × (Int × Int × Int × Int) × (Int × Int × Int × Int)) × (List (Int × Int × Int))) × Bool) (p1 : Int × (Int × (Int × (Int × Int × Int × Int) × (Int × Int × Int × Int)) × (List (Int × Int × Int))) × Bool) (r : Bool) (H : Dn p0 p1 = some r) (h_v1 : Sl w0 (NX []) Bl v1 p0.2.1.2.2) (h_v2 : Sl w0 (NX []) Bl v2 p1.2.1.2.2) :
    Calls Try.prog 28 #[.agg #[.int .i64 p0.1, .int .i64 p0.2.1.1, .int .i64 p0.2.1.2.1.1, .int .i64 p0.2.1.2.1.2.1.1, .int .i64 p0.2.1.2.1.2.1.2.1, .int .i64 p0.2.1.2.1.2.1.2.2.1, .int .i64 p0.2.1.2.1.2.1.2.2.2, .int .i64 p0.2.1.2.1.2.2.1, .int .i64 p0.2.1.2.1.2.2.2.1, .int .i64 p0.2.1.2.1.2.2.2.2.1, .int .i64 p0.2.1.2.1.2.2.2.2.2, v1, .bool p0.2.2], .agg #[.int .i64 p1.1, .int .i64 p1.2.1.1, .int .i64 p1.2.1.2.1.1, .int .i64 p1.2.1.2.1.2.1.1, .int .i64 p1.2.1.2.1.2.1.2.1, .int .i64 p1.2.1.2.1.2.1.2.2.1, .int .i64 p1.2.1.2.1.2.1.2.2.2, .int .i64 p1.2.1.2.1.2.2.1, .int .i64 p1.2.1.2.1.2.2.2.1, .int .i64 p1.2.1.2.1.2.2.2.2.1, .int .i64 p1.2.1.2.1.2.2.2.2.2, v2, .bool p1.2.2]] w0 fun e w' => e = .returned (.bool r) ∧ Below w0.heap.size w0 w' := by
 refine enter Try.func28 Aa Try.ntmps28 Aa fun a F => ?_
 have W := Stw.start Y w0
 unfold Dn at H
 refine vc tk 2 F W fun a w F W => ?_
 refine B1 (cs := (HF p0 v1)) F W Aa Aa Aa fun b1 a w F W => ?_
 refine B1 (cs := (HF p1 v2)) F W Aa Aa Aa fun b2 a w F W => ?_
 refine vl tk 2 F W fun a w F W => ?_
 refine Ad ?_
 obtain ⟨o1, G1, K1⟩ := Ah H
 refine AC (fun a w => ∃ x1 : Bool, some (x1) = some o1 ∧ Fr 24 [] [(4, .bool x1)] a ∧ Stw ⟨Y, [], w0⟩ (OV b2 p1 v2 b1 p0 v1) [] w) ?_ ?_
 ·
  have H := G1
  clear G1 K1
  refine Gh tk 7 [1, 0] F W (ai (ai fun a w F W => ?_))
  rcases Bool.eq_false_or_eq_true (decide (p0.1 = p1.1)) with hb | hb
  ·
   have H := BW (Ci hb) H
   rw [hb] at F
   clear hb
   refine GY tk 4 [1, 0] F W (ai (ai fun a w F W => ?_))
   refine EC F W (Ag F Aa Aa Aa Aa) Aa (Ax Aa) (OX Rh F Aa Aa).q fun a w F W => ?_
   refine vl tk 2 F W fun a w F W => ?_
   rcases Bool.eq_false_or_eq_true (decide (p0.2.2 = p1.2.2)) with hb | hb
   ·
    have H := BW (Ci hb) H
    rw [hb] at F
    clear hb
    refine GY tk 4 [1, 0] F W (ai (ai fun a w F W => ?_))
    refine Fg (Ag F Aa Aa Aa Aa) ?_
    obtain ⟨x2, h1, H⟩ := Ah H
    refine ls F W Aa (AU (v := Value.bool x2) F RD Aa (fun w W => Ku any w (v1) (v2) p0.2.1 p1.2.1 _ h1 (CY (Aj h_v1) W) (CY (Aj h_v2) W))) fun a w F W => ?_
    refine vl tk 3 F W fun a w F W => ?_
    refine Ad ?_
    have W := W.frontM (i := 1) Aa Aa
    have W := W.frontM (i := 1) Aa Aa
    exact ⟨_, H, F.ra Aa, W⟩
   have H := BX (Ch hb) H
   rw [hb] at F
   clear hb
   refine vl tk 8 F W fun a w F W => ?_
   refine Ad ?_
   have W := W.frontM (i := 1) Aa Aa
   have W := W.frontM (i := 1) Aa Aa
   exact ⟨_, H, F.ra Aa, W⟩
  have H := BX (Ch hb) H
  rw [hb] at F
  clear hb
  refine vl tk 15 F W fun a w F W => ?_
  refine Ad ?_
  have W := W.frontM (i := 1) Aa Aa
  have W := W.frontM (i := 1) Aa Aa
  exact ⟨_, H, F.ra Aa, W⟩
 rintro a w ⟨x1, hj, F, W⟩
 have hj := Aw hj
 subst hj
 have H := K1
 clear G1 K1
 refine Al ?_
 have H := Aw H
 subst H
 refine Aq (.inl Aa) F W Aa (Ak F Aa) ?_
 exact ⟨rfl, W.done⟩
theorem RR : Has Try.prog 28 := B3 Try.func28
abbrev Lf (a0 : Nat) (a1 : Int × (Int × (Int × (Int × Int × Int × Int) × (Int × Int × Int × Int)) × (List (Int × Int × Int))) × Bool) (a2 : Value) : List (Nat × List Value) := [(a0, [.int .i64 a1.1, .int .i64 a1.2.1.1, .int .i64 a1.2.1.2.1.1, .int .i64 a1.2.1.2.1.2.1.1, .int .i64 a1.2.1.2.1.2.1.2.1, .int .i64 a1.2.1.2.1.2.1.2.2.1, .int .i64 a1.2.1.2.1.2.1.2.2.2, .int .i64 a1.2.1.2.1.2.2.1, .int .i64 a1.2.1.2.1.2.2.2.1, .int .i64 a1.2.1.2.1.2.2.2.2.1, .int .i64 a1.2.1.2.1.2.2.2.2.2, a2, .bool a1.2.2])]
noncomputable def AP (p0 : Int × List (Bool × (Int × (Int × (Int × (Int × Int × Int × Int) × (Int × Int × Int × Int)) × (List (Int × Int × Int))) × Bool))) (p1 : Int) (p2 : Int × (Int × (Int × (Int × Int × Int × Int) × (Int × Int × Int × Int)) × (List (Int × Int × Int))) × Bool) : Option (Int × (Int × List (Bool × (Int × (Int × (Int × (Int × Int × Int × Int) × (Int × Int × Int × Int)) × (List (Int × Int × Int))) × Bool)))) := (if (Ai p0) ≠ 0 then some (16, p0) else (if (decide (p1 < 0) || decide (16 ≤ p1)) = true then some (2, p0) else (Mw 16 p0.2 p1).bind fun x1 => (if (!x1.1) = true then (Cv p2).bind fun x2 => (Mw 16 p0.2 p1).bind fun x3 => some (0, (p0.1, C9 p0.2 p1 (true, x2))) else (Mw 16 p0.2 p1).bind fun x4 => (Dn x4.2 p2).bind fun x5 => (if (!x5) = true then some (8, p0) else some (0, p0)))))
theorem Cr (Y : Nat → Prop) (X : List Nat) (w0 : World) (q_p0 : Nat) (v1 : Value) (p0 : Int × List (Bool × (Int × (Int × (Int × (Int × Int × Int × Int) × (Int × Int × Int × Int)) × (List (Int × Int × Int))) × Bool))) (p1 : Int) (p2 : Int × (Int × (Int × (Int × Int × Int × Int) × (Int × Int × Int × Int)) × (List (Int × Int × Int))) × Bool) (r : Int × (Int × List (Bool × (Int × (Int × (Int × (Int × Int × Int × Int) × (Int × Int × Int × Int)) × (List (Int × Int × Int))) × Bool)))) (H : AP p0 p1 p2 = some r) (s_v1 : Sl w0 Y Bl v1 p2.2.1.2.2) (hL : Stw ⟨Y, X, w0⟩ [] [Be q_p0 Bn 16 p0] w0) :
    Calls Try.prog 8 #[.pointer (some ⟨q_p0, 0, none⟩), .int .i64 p1, .agg #[.int .i64 p2.1, .int .i64 p2.2.1.1, .int .i64 p2.2.1.2.1.1, .int .i64 p2.2.1.2.1.2.1.1, .int .i64 p2.2.1.2.1.2.1.2.1, .int .i64 p2.2.1.2.1.2.1.2.2.1, .int .i64 p2.2.1.2.1.2.1.2.2.2, .int .i64 p2.2.1.2.1.2.2.1, .int .i64 p2.2.1.2.1.2.2.2.1, .int .i64 p2.2.1.2.1.2.2.2.2.1, .int .i64 p2.2.1.2.1.2.2.2.2.2, v1, .bool p2.2.2]] w0 fun e w' => ∃ x : Unit, e = .returned (.int .i64 r.1) ∧ Stw ⟨Y, X, w0⟩ [] [Be q_p0 Bn 16 r.2] w' := by
 refine enter Try.func8 Aa Try.ntmps8 Aa fun a F => ?_
 have W := hL
 have h_v1 := W.nx s_v1
 unfold AP at H
 refine vc tk 2 F W fun a w F W => ?_
 refine B1 (cs := (HF p2 v1)) F W Aa Aa Aa fun b1 a w F W => ?_
 refine BV tk 7 F W fun a w F W => ?_
 refine AB (Ml := []) (Zl := [Be q_p0 Bn 16 p0]) (β := Unit) (rv := fun x => .int .i64 (Ai p0)) (MM := fun x => []) (ZZ := fun x => [Be q_p0 Bn 16 p0]) F W N4 Aa Aa (fun hL => Bj _ _ w q_p0 p0 _ Aa hL) fun x a w F W => ?_
 have W : Stw ⟨Y, X, w0⟩ (Lf b1 p2 v1) [Be q_p0 Bn 16 p0] w := W
 refine BV tk 3 F W fun a w F W => ?_
 refine Br F Aa H (fun F H => ?_) fun F H => ?_
 ·
  refine vc tk 5 F W fun a w F W => ?_
  refine Al (Ap ?_)
  have H := Aw H
  subst H
  refine Aq (.inl Aa) F W Aa (Ak F Aa) ?_
  have W := W.sub (M' := []) (Z' := [Be q_p0 Bn 16 p0]) (List.nil_sublist _) (List.Sublist.refl _)
  exact ⟨(), Aa, W⟩
 refine E8 tk 3 F W fun a w F W => ?_
 refine AC (fun a w => Fr 42 [] [(0, .pointer (some ⟨q_p0, 0, none⟩)), (1, .int .i64 p1), (5, .pointer (some ⟨b1, 0, none⟩)), (6, .int .i64 0), (15, .bool (decide (p1 < 0) || decide (16 ≤ p1)))] a ∧ Stw ⟨Y, X, w0⟩ (Lf b1 p2 v1) [Be q_p0 Bn 16 p0] w) ?_ ?_
 ·
  refine vc tk 4 F W fun a w F W => ?_
  rcases Bool.eq_false_or_eq_true (decide (p1 < 0)) with hb0 | hb0
  ·
   rw [hb0] at F
   refine vl tk 4 F W fun a w F W => ?_
   refine Ad ?_
   exact ⟨F.re ⟨rfl, Aa, Aa, Aa, (F6 (by try rw [hb0]; all_goals simp only [F7])), trivial⟩, W⟩
  rw [hb0] at F
  refine vl tk 4 F W fun a w F W => ?_
  refine Ad ?_
  exact ⟨F.re ⟨rfl, Aa, Aa, Aa, (F6 (by try rw [hb0]; all_goals simp only [F7])), trivial⟩, W⟩
 rintro a w ⟨F, W⟩
 refine B8 F Aa H (fun F H => ?_) fun F H => ?_
 ·
  refine vc tk 5 F W fun a w F W => ?_
  refine Al (Ap ?_)
  have H := Aw H
  subst H
  refine Aq (.inl Aa) F W Aa (Ak F Aa) ?_
  have W := W.sub (M' := []) (Z' := [Be q_p0 Bn 16 p0]) (List.nil_sublist _) (List.Sublist.refl _)
  exact ⟨(), Aa, W⟩
 refine E8 tk 4 F W fun a w F W => ?_
 obtain ⟨v2, h1, W⟩ := W.exP Dx
 refine vc tk 3 F W fun a w F W => ?_
 refine ls F W Aa (C6 F Aa).q fun a w F W => ?_
 refine ls F W Aa (An Kt Aa Aa Aa PO F Aa 1 Aa).q fun a w F W => ?_
 obtain ⟨x1, h2, H⟩ := Ah H
 obtain ⟨v3, h3, h4⟩ := Ck h1 (C8 h2).2
 have h5 : Gi v3 = [.bool x1.1, .int .i64 x1.2.1, .int .i64 x1.2.2.1.1, .int .i64 x1.2.2.1.2.1.1, .int .i64 x1.2.2.1.2.1.2.1.1, .int .i64 x1.2.2.1.2.1.2.1.2.1, .int .i64 x1.2.2.1.2.1.2.1.2.2.1, .int .i64 x1.2.2.1.2.1.2.1.2.2.2, .int .i64 x1.2.2.1.2.1.2.2.1, .int .i64 x1.2.2.1.2.1.2.2.2.1, .int .i64 x1.2.2.1.2.1.2.2.2.2.1, .int .i64 x1.2.2.1.2.1.2.2.2.2.2, (v3.2.2.1.2.2.1), .bool x1.2.2.2] := congrArg (fun q : Bool × (Int × (Int × (Int × (Int × Int × Int × Int) × (Int × Int × Int × Int)) × (List (Int × Int × Int))) × Bool) => ([.bool q.1, .int .i64 q.2.1, .int .i64 q.2.2.1.1, .int .i64 q.2.2.1.2.1.1, .int .i64 q.2.2.1.2.1.2.1.1, .int .i64 q.2.2.1.2.1.2.1.2.1, .int .i64 q.2.2.1.2.1.2.1.2.2.1, .int .i64 q.2.2.1.2.1.2.1.2.2.2, .int .i64 q.2.2.1.2.1.2.2.1, .int .i64 q.2.2.1.2.1.2.2.2.1, .int .i64 q.2.2.1.2.1.2.2.2.2.1, .int .i64 q.2.2.1.2.1.2.2.2.2.2, (v3.2.2.1.2.2.1), .bool q.2.2.2] : List Value)) h4
 refine ls F W Aa (BM (1 + (p1).toNat * 14) Mv F Aa Aa (C8 h2).1 (C8 h2).2 Aa).q fun a w F W => ?_
 refine ls F W Aa (An O7 Aa Aa Aa T4 F Aa (1 + (p1).toNat * 14) Aa).q fun a w F W => ?_
 refine ls F W Aa (AE (y := Value.bool x1.1) (j := 0) (i := p1) (enc := Gi) F Aa Aa (Iv (p := (p0.1, v2)) 0 Aa) h3 KX T4 (by rw [h5]; rfl)).q fun a w F W => ?_
 have W := W.note (W.pAt (p := (p0.1, v2)) (k := 0) Aa h3 (Ay.snd (Ay.snd (Ay.fst (Ay.snd (Ay.snd Ay.here))))) (congrArg (fun q : Bool × (Int × (Int × (Int × (Int × Int × Int × Int) × (Int × Int × Int × Int)) × (List (Int × Int × Int))) × Bool) => q.2.2.1.2.2) h4))
 refine BV tk 3 F W fun a w F W => ?_
 refine B8 F Aa H (fun F H => ?_) fun F H => ?_
 ·
  refine HJ ?_
  refine ER [(true, 0), (true, 1), (true, 2), (true, 5), (true, 6), (false, 3), (true, 4), (true, 7), (false, 8)] (CN ⟨Y, X, w0⟩ [(some 3, b1, [.int .i64 p2.1, .int .i64 p2.2.1.1, .int .i64 p2.2.1.2.1.1, .int .i64 p2.2.1.2.1.2.1.1, .int .i64 p2.2.1.2.1.2.1.2.1, .int .i64 p2.2.1.2.1.2.1.2.2.1, .int .i64 p2.2.1.2.1.2.1.2.2.2, .int .i64 p2.2.1.2.1.2.2.1, .int .i64 p2.2.1.2.1.2.2.2.1, .int .i64 p2.2.1.2.1.2.2.2.2.1, .int .i64 p2.2.1.2.1.2.2.2.2.2, v1, .bool p2.2.2])] []) (fun ch a d v w h => by cases d <;> exact h) MO (by kernel_rfl) W (fun w W => ⟨_, _, W, (all_cons (fun _ => (.head _)) As), As⟩) fun w W => ?_
  iterate 2 refine CZ (R := []) F Aa Aa (yC fun M Z hN hZ => Am F Aa) Aa Aa fun a F => ?_
  refine CZ (R := [3]) F Aa Aa (yC fun M Z hN hZ => DC (cs := (HF p2 v1)) (v := Value.agg #[.int .i64 p2.1, .int .i64 p2.2.1.1, .int .i64 p2.2.1.2.1.1, .int .i64 p2.2.1.2.1.2.1.1, .int .i64 p2.2.1.2.1.2.1.2.1, .int .i64 p2.2.1.2.1.2.1.2.2.1, .int .i64 p2.2.1.2.1.2.1.2.2.2, .int .i64 p2.2.1.2.1.2.2.1, .int .i64 p2.2.1.2.1.2.2.2.1, .int .i64 p2.2.1.2.1.2.2.2.2.1, .int .i64 p2.2.1.2.1.2.2.2.2.2, v1, .bool p2.2.2]) F Aa (hN ((some 3), b1, (HF p2 v1)) (.head _) Aa) I3 Aa) (by kernel_rfl) Aa fun a F => ?_
  refine CZ (R := []) F Aa Aa (yC fun M Z hN hZ => C6 F Aa) Aa Aa fun a F => ?_
  refine CZ (R := []) F Aa Aa (yC fun M Z hN hZ => An Kt Aa Aa Aa PO F Aa 1 Aa) Aa Aa fun a F => ?_
  refine En Aa ?_
  obtain ⟨x2, h6, H⟩ := Ah H
  refine AB (Ml := []) (Zl := []) (β := Value) (rv := fun x => .agg #[.int .i64 x2.1, .int .i64 x2.2.1.1, .int .i64 x2.2.1.2.1.1, .int .i64 x2.2.1.2.1.2.1.1, .int .i64 x2.2.1.2.1.2.1.2.1, .int .i64 x2.2.1.2.1.2.1.2.2.1, .int .i64 x2.2.1.2.1.2.1.2.2.2, .int .i64 x2.2.1.2.1.2.2.1, .int .i64 x2.2.1.2.1.2.2.2.1, .int .i64 x2.2.1.2.1.2.2.2.2.1, .int .i64 x2.2.1.2.1.2.2.2.2.2, x, .bool x2.2.2]) (MM := fun x => []) (ZZ := fun x => [row x 88 Bl x2.2.1.2.2]) F W Q6 Aa Aa (fun hL => FZ _ w (v1) p2 _ h6 (W.old s_v1)) fun x a w F W => ?_
  obtain ⟨v4, rfl⟩ : ∃ y, y = x := ⟨x, rfl⟩
  have W : Stw ⟨Y, X, w0⟩ (Lf b1 p2 v1) [row v4 88 Bl x2.2.1.2.2, BD (v3.2.2.1.2.2.1) Bl x1.2.2.1.2.2, Be q_p0 KH 16 (p0.1, v2)] w := W
  refine BS (N2 := []) (NZ2 := []) (N3 := [(some 3, b1, [.int .i64 p2.1, .int .i64 p2.2.1.1, .int .i64 p2.2.1.2.1.1, .int .i64 p2.2.1.2.1.2.1.1, .int .i64 p2.2.1.2.1.2.1.2.1, .int .i64 p2.2.1.2.1.2.1.2.2.1, .int .i64 p2.2.1.2.1.2.1.2.2.2, .int .i64 p2.2.1.2.1.2.2.1, .int .i64 p2.2.1.2.1.2.2.2.1, .int .i64 p2.2.1.2.1.2.2.2.2.1, .int .i64 p2.2.1.2.1.2.2.2.2.2, v1, .bool p2.2.2])]) (NZ3 := []) W Aa Aa (all_cons (fun h => AG (by kernel_rfl) h) As) As ?_
  refine CZ (R := []) F Aa Aa (yC fun M Z hN hZ => Eg (v := Value.agg #[.bool true, .int .i64 x2.1, .int .i64 x2.2.1.1, .int .i64 x2.2.1.2.1.1, .int .i64 x2.2.1.2.1.2.1.1, .int .i64 x2.2.1.2.1.2.1.2.1, .int .i64 x2.2.1.2.1.2.1.2.2.1, .int .i64 x2.2.1.2.1.2.1.2.2.2, .int .i64 x2.2.1.2.1.2.2.1, .int .i64 x2.2.1.2.1.2.2.2.1, .int .i64 x2.2.1.2.1.2.2.2.2.1, .int .i64 x2.2.1.2.1.2.2.2.2.2, v4, .bool x2.2.2]) R6 F Aa (CU Aa Aa Aa (CU Aa Aa Aa FH)) Aa) Aa Aa fun a F => ?_
  obtain ⟨x3, h7, H⟩ := Ah H
  obtain ⟨v5, h8, h9⟩ := Ck h1 (C8 h7).2
  have h10 : Gi v5 = [.bool x3.1, .int .i64 x3.2.1, .int .i64 x3.2.2.1.1, .int .i64 x3.2.2.1.2.1.1, .int .i64 x3.2.2.1.2.1.2.1.1, .int .i64 x3.2.2.1.2.1.2.1.2.1, .int .i64 x3.2.2.1.2.1.2.1.2.2.1, .int .i64 x3.2.2.1.2.1.2.1.2.2.2, .int .i64 x3.2.2.1.2.1.2.2.1, .int .i64 x3.2.2.1.2.1.2.2.2.1, .int .i64 x3.2.2.1.2.1.2.2.2.2.1, .int .i64 x3.2.2.1.2.1.2.2.2.2.2, (v5.2.2.1.2.2.1), .bool x3.2.2.2] := congrArg (fun q : Bool × (Int × (Int × (Int × (Int × Int × Int × Int) × (Int × Int × Int × Int)) × (List (Int × Int × Int))) × Bool) => ([.bool q.1, .int .i64 q.2.1, .int .i64 q.2.2.1.1, .int .i64 q.2.2.1.2.1.1, .int .i64 q.2.2.1.2.1.2.1.1, .int .i64 q.2.2.1.2.1.2.1.2.1, .int .i64 q.2.2.1.2.1.2.1.2.2.1, .int .i64 q.2.2.1.2.1.2.1.2.2.2, .int .i64 q.2.2.1.2.1.2.2.1, .int .i64 q.2.2.1.2.1.2.2.2.1, .int .i64 q.2.2.1.2.1.2.2.2.2.1, .int .i64 q.2.2.1.2.1.2.2.2.2.2, (v5.2.2.1.2.2.1), .bool q.2.2.2] : List Value)) h9
  refine CZ (R := []) F Aa Aa (yC fun M Z hN hZ => BM (1 + (p1).toNat * 14) Mv F Aa Aa (C8 h7).1 (C8 h7).2 Aa) Aa Aa fun a F => ?_
  refine En Aa ?_
  have W := W.freeze
  have W := W.frontZ (i := 2) Aa Aa
  have W := W.hideP Dx h1
  refine Mi (r := Bn) (i := p1) (j := 0) (vs := [.bool true, .int .i64 x2.1, .int .i64 x2.2.1.1, .int .i64 x2.2.1.2.1.1, .int .i64 x2.2.1.2.1.2.1.1, .int .i64 x2.2.1.2.1.2.1.2.1, .int .i64 x2.2.1.2.1.2.1.2.2.1, .int .i64 x2.2.1.2.1.2.1.2.2.2, .int .i64 x2.2.1.2.1.2.2.1, .int .i64 x2.2.1.2.1.2.2.2.1, .int .i64 x2.2.1.2.1.2.2.2.2.1, .int .i64 x2.2.1.2.1.2.2.2.2.2, v4, .bool x2.2.2]) (x' := (true, x2)) F W rfl rfl rfl (k := 0) rfl rfl (C8 h7).2 PK rfl rfl rfl (Ac rfl (Ac rfl (Ac rfl (Ac rfl (Ac rfl (Ac rfl (Ac rfl (Ac rfl (Ac rfl (Ac rfl (Ac rfl (Ac rfl (Ac (W.oneF (k := 1) rfl) (Ac rfl Ct)))))))))))))) (fun A cs hA hc => by obtain ⟨z, hz, hc⟩ := Dx.to hc; have e1 := KX hc; have e2 : Gi z = [.bool x3.1, .int .i64 x3.2.1, .int .i64 x3.2.2.1.1, .int .i64 x3.2.2.1.2.1.1, .int .i64 x3.2.2.1.2.1.2.1.1, .int .i64 x3.2.2.1.2.1.2.1.2.1, .int .i64 x3.2.2.1.2.1.2.1.2.2.1, .int .i64 x3.2.2.1.2.1.2.1.2.2.2, .int .i64 x3.2.2.1.2.1.2.2.1, .int .i64 x3.2.2.1.2.1.2.2.2.1, .int .i64 x3.2.2.1.2.1.2.2.2.2.1, .int .i64 x3.2.2.1.2.1.2.2.2.2.2, (z.2.2.1.2.2.1), .bool x3.2.2.2] := (congrArg (fun q : Bool × (Int × (Int × (Int × (Int × Int × Int × Int) × (Int × Int × Int × Int)) × (List (Int × Int × Int))) × Bool) => ([.bool q.1, .int .i64 q.2.1, .int .i64 q.2.2.1.1, .int .i64 q.2.2.1.2.1.1, .int .i64 q.2.2.1.2.1.2.1.1, .int .i64 q.2.2.1.2.1.2.1.2.1, .int .i64 q.2.2.1.2.1.2.1.2.2.1, .int .i64 q.2.2.1.2.1.2.1.2.2.2, .int .i64 q.2.2.1.2.1.2.2.1, .int .i64 q.2.2.1.2.1.2.2.2.1, .int .i64 q.2.2.1.2.1.2.2.2.2.1, .int .i64 q.2.2.1.2.1.2.2.2.2.2, (z.2.2.1.2.2.1), .bool q.2.2.2] : List Value)) hz); rw [e1, e2]; exact ⟨[Value.bool true], [Value.int .i64 x2.1, Value.int .i64 x2.2.1.1, Value.int .i64 x2.2.1.2.1.1, Value.int .i64 x2.2.1.2.1.2.1.1, Value.int .i64 x2.2.1.2.1.2.1.2.1, Value.int .i64 x2.2.1.2.1.2.1.2.2.1, Value.int .i64 x2.2.1.2.1.2.1.2.2.2, Value.int .i64 x2.2.1.2.1.2.2.1, Value.int .i64 x2.2.1.2.1.2.2.2.1, Value.int .i64 x2.2.1.2.1.2.2.2.2.1, Value.int .i64 x2.2.1.2.1.2.2.2.2.2, v4, Value.bool x2.2.2], rfl, rfl, ⟨[Value.int .i64 x2.1], [Value.int .i64 x2.2.1.1, Value.int .i64 x2.2.1.2.1.1, Value.int .i64 x2.2.1.2.1.2.1.1, Value.int .i64 x2.2.1.2.1.2.1.2.1, Value.int .i64 x2.2.1.2.1.2.1.2.2.1, Value.int .i64 x2.2.1.2.1.2.1.2.2.2, Value.int .i64 x2.2.1.2.1.2.2.1, Value.int .i64 x2.2.1.2.1.2.2.2.1, Value.int .i64 x2.2.1.2.1.2.2.2.2.1, Value.int .i64 x2.2.1.2.1.2.2.2.2.2, v4, Value.bool x2.2.2], rfl, rfl, ⟨[Value.int .i64 x2.2.1.1, Value.int .i64 x2.2.1.2.1.1, Value.int .i64 x2.2.1.2.1.2.1.1, Value.int .i64 x2.2.1.2.1.2.1.2.1, Value.int .i64 x2.2.1.2.1.2.1.2.2.1, Value.int .i64 x2.2.1.2.1.2.1.2.2.2, Value.int .i64 x2.2.1.2.1.2.2.1, Value.int .i64 x2.2.1.2.1.2.2.2.1, Value.int .i64 x2.2.1.2.1.2.2.2.2.1, Value.int .i64 x2.2.1.2.1.2.2.2.2.2, v4], [Value.bool x2.2.2], rfl, ⟨[Value.int .i64 x2.2.1.1], [Value.int .i64 x2.2.1.2.1.1, Value.int .i64 x2.2.1.2.1.2.1.1, Value.int .i64 x2.2.1.2.1.2.1.2.1, Value.int .i64 x2.2.1.2.1.2.1.2.2.1, Value.int .i64 x2.2.1.2.1.2.1.2.2.2, Value.int .i64 x2.2.1.2.1.2.2.1, Value.int .i64 x2.2.1.2.1.2.2.2.1, Value.int .i64 x2.2.1.2.1.2.2.2.2.1, Value.int .i64 x2.2.1.2.1.2.2.2.2.2, v4], rfl, rfl, ⟨[Value.int .i64 x2.2.1.2.1.1, Value.int .i64 x2.2.1.2.1.2.1.1, Value.int .i64 x2.2.1.2.1.2.1.2.1, Value.int .i64 x2.2.1.2.1.2.1.2.2.1, Value.int .i64 x2.2.1.2.1.2.1.2.2.2, Value.int .i64 x2.2.1.2.1.2.2.1, Value.int .i64 x2.2.1.2.1.2.2.2.1, Value.int .i64 x2.2.1.2.1.2.2.2.2.1, Value.int .i64 x2.2.1.2.1.2.2.2.2.2], [v4], rfl, ⟨[Value.int .i64 x2.2.1.2.1.1], [Value.int .i64 x2.2.1.2.1.2.1.1, Value.int .i64 x2.2.1.2.1.2.1.2.1, Value.int .i64 x2.2.1.2.1.2.1.2.2.1, Value.int .i64 x2.2.1.2.1.2.1.2.2.2, Value.int .i64 x2.2.1.2.1.2.2.1, Value.int .i64 x2.2.1.2.1.2.2.2.1, Value.int .i64 x2.2.1.2.1.2.2.2.2.1, Value.int .i64 x2.2.1.2.1.2.2.2.2.2], rfl, rfl, ⟨[Value.int .i64 x2.2.1.2.1.2.1.1, Value.int .i64 x2.2.1.2.1.2.1.2.1, Value.int .i64 x2.2.1.2.1.2.1.2.2.1, Value.int .i64 x2.2.1.2.1.2.1.2.2.2], [Value.int .i64 x2.2.1.2.1.2.2.1, Value.int .i64 x2.2.1.2.1.2.2.2.1, Value.int .i64 x2.2.1.2.1.2.2.2.2.1, Value.int .i64 x2.2.1.2.1.2.2.2.2.2], rfl, ⟨[Value.int .i64 x2.2.1.2.1.2.1.1], [Value.int .i64 x2.2.1.2.1.2.1.2.1, Value.int .i64 x2.2.1.2.1.2.1.2.2.1, Value.int .i64 x2.2.1.2.1.2.1.2.2.2], rfl, rfl, ⟨[Value.int .i64 x2.2.1.2.1.2.1.2.1], [Value.int .i64 x2.2.1.2.1.2.1.2.2.1, Value.int .i64 x2.2.1.2.1.2.1.2.2.2], rfl, rfl, ⟨[Value.int .i64 x2.2.1.2.1.2.1.2.2.1], [Value.int .i64 x2.2.1.2.1.2.1.2.2.2], rfl, rfl, rfl⟩⟩⟩, ⟨[Value.int .i64 x2.2.1.2.1.2.2.1], [Value.int .i64 x2.2.1.2.1.2.2.2.1, Value.int .i64 x2.2.1.2.1.2.2.2.2.1, Value.int .i64 x2.2.1.2.1.2.2.2.2.2], rfl, rfl, ⟨[Value.int .i64 x2.2.1.2.1.2.2.2.1], [Value.int .i64 x2.2.1.2.1.2.2.2.2.1, Value.int .i64 x2.2.1.2.1.2.2.2.2.2], rfl, rfl, ⟨[Value.int .i64 x2.2.1.2.1.2.2.2.2.1], [Value.int .i64 x2.2.1.2.1.2.2.2.2.2], rfl, rfl, rfl⟩⟩⟩⟩⟩, ⟨_, rfl, (Sl.stab (W.item (i := 1) rfl) (fun b hb _ => ⟨hA b hb, rfl⟩))⟩⟩⟩, rfl⟩⟩⟩) fun w W => ?_
  have W : Stw ⟨Y, X, w0⟩ (Lf b1 p2 v1) [Be q_p0 Bn 16 (p0.1, C9 p0.2 p1 (true, x2)), BD v4 Bl x2.2.1.2.2, BD (v3.2.2.1.2.2.1) Bl x1.2.2.1.2.2] w := W
  refine BS (N2 := []) (NZ2 := []) (N3 := [(some 3, b1, [.int .i64 p2.1, .int .i64 p2.2.1.1, .int .i64 p2.2.1.2.1.1, .int .i64 p2.2.1.2.1.2.1.1, .int .i64 p2.2.1.2.1.2.1.2.1, .int .i64 p2.2.1.2.1.2.1.2.2.1, .int .i64 p2.2.1.2.1.2.1.2.2.2, .int .i64 p2.2.1.2.1.2.2.1, .int .i64 p2.2.1.2.1.2.2.2.1, .int .i64 p2.2.1.2.1.2.2.2.2.1, .int .i64 p2.2.1.2.1.2.2.2.2.2, v1, .bool p2.2.2])]) (NZ3 := []) W Aa Aa (all_cons (fun h => AG (by kernel_rfl) h) As) As ?_
  refine GI ?_
  refine vn tk 5 F W fun a w F W => ?_
  refine Al (Ap ?_)
  have H := Aw H
  subst H
  refine Aq (.inl Aa) F W Aa (Ak F Aa) ?_
  have W := W.sub (M' := []) (Z' := [Be q_p0 Bn 16 (p0.1, C9 p0.2 p1 (true, x2))]) (List.nil_sublist _) (List.Sublist.cons_cons _ (List.nil_sublist _))
  exact ⟨(), Aa, W⟩
 refine E8 tk 4 F W fun a w F W => ?_
 refine CV W MO (by kernel_rfl) ?_
 iterate 2 refine qs F Aa (Am F Aa).q fun a F => ?_
 refine qs F Aa (C6 F Aa).q fun a F => ?_
 refine qs F Aa (An Kt Aa Aa Aa PO F Aa 1 Aa).q fun a F => ?_
 obtain ⟨x4, h11, H⟩ := Ah H
 obtain ⟨v6, h12, h13⟩ := Ck h1 (C8 h11).2
 have h14 : Gi v6 = [.bool x4.1, .int .i64 x4.2.1, .int .i64 x4.2.2.1.1, .int .i64 x4.2.2.1.2.1.1, .int .i64 x4.2.2.1.2.1.2.1.1, .int .i64 x4.2.2.1.2.1.2.1.2.1, .int .i64 x4.2.2.1.2.1.2.1.2.2.1, .int .i64 x4.2.2.1.2.1.2.1.2.2.2, .int .i64 x4.2.2.1.2.1.2.2.1, .int .i64 x4.2.2.1.2.1.2.2.2.1, .int .i64 x4.2.2.1.2.1.2.2.2.2.1, .int .i64 x4.2.2.1.2.1.2.2.2.2.2, (v6.2.2.1.2.2.1), .bool x4.2.2.2] := congrArg (fun q : Bool × (Int × (Int × (Int × (Int × Int × Int × Int) × (Int × Int × Int × Int)) × (List (Int × Int × Int))) × Bool) => ([.bool q.1, .int .i64 q.2.1, .int .i64 q.2.2.1.1, .int .i64 q.2.2.1.2.1.1, .int .i64 q.2.2.1.2.1.2.1.1, .int .i64 q.2.2.1.2.1.2.1.2.1, .int .i64 q.2.2.1.2.1.2.1.2.2.1, .int .i64 q.2.2.1.2.1.2.1.2.2.2, .int .i64 q.2.2.1.2.1.2.2.1, .int .i64 q.2.2.1.2.1.2.2.2.1, .int .i64 q.2.2.1.2.1.2.2.2.2.1, .int .i64 q.2.2.1.2.1.2.2.2.2.2, (v6.2.2.1.2.2.1), .bool q.2.2.2] : List Value)) h13
 refine qs F Aa (BM (1 + (p1).toNat * 14) Mv F Aa Aa (C8 h11).1 (C8 h11).2 Aa).q fun a F => ?_
 refine qs F Aa (An O7 Aa Aa Aa I3 F Aa (1 + (p1).toNat * 14 + 1) Aa).q fun a F => ?_
 refine qs F Aa (AE (y := Value.agg #[.int .i64 x4.2.1, .int .i64 x4.2.2.1.1, .int .i64 x4.2.2.1.2.1.1, .int .i64 x4.2.2.1.2.1.2.1.1, .int .i64 x4.2.2.1.2.1.2.1.2.1, .int .i64 x4.2.2.1.2.1.2.1.2.2.1, .int .i64 x4.2.2.1.2.1.2.1.2.2.2, .int .i64 x4.2.2.1.2.1.2.2.1, .int .i64 x4.2.2.1.2.1.2.2.2.1, .int .i64 x4.2.2.1.2.1.2.2.2.2.1, .int .i64 x4.2.2.1.2.1.2.2.2.2.2, (v6.2.2.1.2.2.1), .bool x4.2.2.2]) (j := 1) (i := p1) (enc := Gi) F Aa Aa (Iv (p := (p0.1, v2)) 1 Aa) h12 KX I3 (by rw [h14]; rfl)).q fun a F => ?_
 refine qs F Aa (BR (v := Value.agg #[.int .i64 p2.1, .int .i64 p2.2.1.1, .int .i64 p2.2.1.2.1.1, .int .i64 p2.2.1.2.1.2.1.1, .int .i64 p2.2.1.2.1.2.1.2.1, .int .i64 p2.2.1.2.1.2.1.2.2.1, .int .i64 p2.2.1.2.1.2.1.2.2.2, .int .i64 p2.2.1.2.1.2.2.1, .int .i64 p2.2.1.2.1.2.2.2.1, .int .i64 p2.2.1.2.1.2.2.2.2.1, .int .i64 p2.2.1.2.1.2.2.2.2.2, v1, .bool p2.2.2]) 0 F Aa Aa I3 Aa).q fun a F => ?_
 obtain ⟨x5, h15, H⟩ := Ah H
 refine qs F Aa (AU (v := Value.bool x5) F RR Aa (fun w W => IV any w ((v6.2.2.1.2.2.1)) (v1) x4.2 p2 _ h15 (CY (Dr (Iv (p := (p0.1, v2)) 1 Aa) h12 (Ay.snd (Ay.snd (Ay.fst (Ay.snd (Ay.snd Ay.here))))) (congrArg (fun q : Bool × (Int × (Int × (Int × (Int × Int × Int × Int) × (Int × Int × Int × Int)) × (List (Int × Int × Int))) × Bool) => q.2.2.1.2.2) h13)) W) (CY (Aj h_v1) W))) fun a F => ?_
 refine qs F Aa (Lk F Aa).q fun a F => ?_
 refine AM fun w W => ?_
 have W := W.note (W.pAt (p := (p0.1, v2)) (k := 1) Aa h12 (Ay.snd (Ay.snd (Ay.fst (Ay.snd (Ay.snd Ay.here))))) (congrArg (fun q : Bool × (Int × (Int × (Int × (Int × Int × Int × Int) × (Int × Int × Int × Int)) × (List (Int × Int × Int))) × Bool) => q.2.2.1.2.2) h13))
 refine Ad ?_
 refine B8 F Aa H (fun F H => ?_) fun F H => ?_
 ·
  refine vc tk 5 F W fun a w F W => ?_
  refine Al (Ap ?_)
  have H := Aw H
  subst H
  refine Aq (.inl Aa) F W Aa (Ak F Aa) ?_
  have W := W.frontZ (i := 2) Aa Aa
  have W := W.hideP Dx h1
  have W := W.sub (M' := []) (Z' := [Be q_p0 Bn 16 p0]) (List.nil_sublist _) (List.Sublist.cons_cons _ (List.nil_sublist _))
  exact ⟨(), Aa, W⟩
 refine E8 tk 7 F W fun a w F W => ?_
 refine Al ?_
 have H := Aw H
 subst H
 refine Aq (.inl Aa) F W Aa (Ak F Aa) ?_
 have W := W.frontZ (i := 2) Aa Aa
 have W := W.hideP Dx h1
 have W := W.sub (M' := []) (Z' := [Be q_p0 Bn 16 p0]) (List.nil_sublist _) (List.Sublist.cons_cons _ (List.nil_sublist _))
 exact ⟨(), Aa, W⟩
theorem H8 : Has Try.prog 8 := B3 Try.func8
theorem Rn : (Try.prog.info? 68).bind (·.zero) = some (.agg #[.bool false, .int .i64 0, .int .i64 0, .int .i64 0, .int .i64 0, .int .i64 0, .int .i64 0, .int .i64 0, .int .i64 0, .int .i64 0, .int .i64 0, .int .i64 0, .slice none 0 0, .bool false]) := by kernel_rfl
abbrev OH  : List Value := [.bool false, .int .i64 0, .int .i64 0, .int .i64 0, .int .i64 0, .int .i64 0, .int .i64 0, .int .i64 0, .int .i64 0, .int .i64 0, .int .i64 0, .int .i64 0, .slice none 0 0, .bool false]
noncomputable def Bx (p0 : Int × List (Bool × (Int × (Int × (Int × (Int × Int × Int × Int) × (Int × Int × Int × Int)) × (List (Int × Int × Int))) × Bool))) : (Int × Int) → Option ((Int × Int) ⊕ Int)
  | (x2, x3) => (if x3 < 16 then ((Mw 16 p0.2 x3).bind fun x5 => (if x5.1 = true then some (Cs (x2 + 1)) else some x2)).bind fun x4 => some (.inl (x4, Cs (x3 + 1))) else some (.inr x2))
noncomputable def Bk (p0 : Int × List (Bool × (Int × (Int × (Int × (Int × Int × Int × Int) × (Int × Int × Int × Int)) × (List (Int × Int × Int))) × Bool))) : Option Int := (AJ (Bx p0) (0, 0)).bind fun x1 => some x1
theorem Df (Y : Nat → Prop) (X : List Nat) (w0 : World) (q_p0 : Nat) (p0 : Int × List (Bool × (Int × (Int × (Int × (Int × Int × Int × Int) × (Int × Int × Int × Int)) × (List (Int × Int × Int))) × Bool))) (r : Int) (H : Bk p0 = some r) (hL : Stw ⟨Y, X, w0⟩ [] [Be q_p0 Bn 16 p0] w0) :
    Calls Try.prog 30 #[.pointer (some ⟨q_p0, 0, none⟩)] w0 fun e w' => ∃ x : Unit, e = .returned (.int .i64 r) ∧ Stw ⟨Y, X, w0⟩ [] [Be q_p0 Bn 16 p0] w' := by
 refine enter Try.func30 Aa Try.ntmps30 Aa fun a F => ?_
 have W := hL
 unfold Bk at H
 refine vc tk 10 F W fun a w F W => ?_
 obtain ⟨o1, G1, K1⟩ := Ah H
 refine AC (fun a w => ∃ x1 : Int, some (x1) = some o1 ∧ Fr 19 [] [(2, .int .i64 0), (3, .int .i64 x1)] a ∧ Stw ⟨Y, X, w0⟩ [] [Be q_p0 Bn 16 p0] w) ?_ ?_
 ·
  have H := G1
  clear G1 K1
  refine vc tk 3 F W fun a w F W => ?_
  refine ls F W Aa (C6 F Aa).q fun a w F W => ?_
  refine ls F W Aa (An Kt Aa Aa Aa PO F Aa 1 Aa).q fun a w F W => ?_
  obtain ⟨v1, h1, W⟩ := W.exP Dx
  have h2 := Ob (enc := Gi) W (k := 0) Aa KX
  refine ls F W Aa (Mb (enc := Gi) 0 F Aa Aa KX PO Aa).q fun a w F W => ?_
  refine BV tk 4 F W fun a w F W => ?_
  have W := W.hideP Dx h1
  refine BI H (fun s a w => Fr 19 [] [(2, .int .i64 0), (3, .int .i64 s.1), (9, .agg (FS Gi v1).toArray), (10, .int .i64 s.2)] a ∧ Stw ⟨Y, X, w0⟩ [] [Be q_p0 Bn 16 p0] w) ⟨F.ra Aa, W⟩ fun s o a w H L2 hR => ?_
  obtain ⟨x2, x3⟩ := s
  obtain ⟨F, W⟩ := hR
  have F : Fr 19 [] [(2, .int .i64 0), (3, .int .i64 x2), (9, .agg (FS Gi v1).toArray), (10, .int .i64 x3)] a := F
  have W : Stw ⟨Y, X, w0⟩ [] [Be q_p0 Bn 16 p0] w := W
  rw [Bx] at H
  refine vc tk 6 F W fun a w F W => ?_
  refine Br F Aa H (fun F H => ?_) fun F H => ?_
  ·
   refine AH (Ad ?_)
   obtain ⟨o3, G3, K3⟩ := Ah H
   refine AC (fun a w => ∃ x4 : Int, some (x4) = some o3 ∧ Fr 19 [] [(2, .int .i64 0), (3, .int .i64 x4), (9, .agg (FS Gi v1).toArray), (10, .int .i64 x3)] a ∧ Stw ⟨Y, X, w0⟩ [] [Be q_p0 Bn 16 p0] w) ?_ ?_
   ·
    have H := G3
    clear G3 K3
    refine vc tk 3 F W fun a w F W => ?_
    obtain ⟨x5, h3, H⟩ := Ah H
    obtain ⟨v2, h4, h5⟩ := Ck h1 (C8 h3).2
    have h6 : Gi v2 = [.bool x5.1, .int .i64 x5.2.1, .int .i64 x5.2.2.1.1, .int .i64 x5.2.2.1.2.1.1, .int .i64 x5.2.2.1.2.1.2.1.1, .int .i64 x5.2.2.1.2.1.2.1.2.1, .int .i64 x5.2.2.1.2.1.2.1.2.2.1, .int .i64 x5.2.2.1.2.1.2.1.2.2.2, .int .i64 x5.2.2.1.2.1.2.2.1, .int .i64 x5.2.2.1.2.1.2.2.2.1, .int .i64 x5.2.2.1.2.1.2.2.2.2.1, .int .i64 x5.2.2.1.2.1.2.2.2.2.2, (v2.2.2.1.2.2.1), .bool x5.2.2.2] := congrArg (fun q : Bool × (Int × (Int × (Int × (Int × Int × Int × Int) × (Int × Int × Int × Int)) × (List (Int × Int × Int))) × Bool) => ([.bool q.1, .int .i64 q.2.1, .int .i64 q.2.2.1.1, .int .i64 q.2.2.1.2.1.1, .int .i64 q.2.2.1.2.1.2.1.1, .int .i64 q.2.2.1.2.1.2.1.2.1, .int .i64 q.2.2.1.2.1.2.1.2.2.1, .int .i64 q.2.2.1.2.1.2.1.2.2.2, .int .i64 q.2.2.1.2.1.2.2.1, .int .i64 q.2.2.1.2.1.2.2.2.1, .int .i64 q.2.2.1.2.1.2.2.2.2.1, .int .i64 q.2.2.1.2.1.2.2.2.2.2, (v2.2.2.1.2.2.1), .bool q.2.2.2] : List Value)) h5
    have h7 : List.all [.bool x5.1, .int .i64 x5.2.1, .int .i64 x5.2.2.1.1, .int .i64 x5.2.2.1.2.1.1, .int .i64 x5.2.2.1.2.1.2.1.1, .int .i64 x5.2.2.1.2.1.2.1.2.1, .int .i64 x5.2.2.1.2.1.2.1.2.2.1, .int .i64 x5.2.2.1.2.1.2.1.2.2.2, .int .i64 x5.2.2.1.2.1.2.2.1, .int .i64 x5.2.2.1.2.1.2.2.2.1, .int .i64 x5.2.2.1.2.1.2.2.2.2.1, .int .i64 x5.2.2.1.2.1.2.2.2.2.2, (v2.2.2.1.2.2.1), .bool x5.2.2.2] (·.oneCell') = true := h6 ▸ h2 _ _ h4
    refine ls F W Aa (Mh (y := Value.agg #[.bool x5.1, .int .i64 x5.2.1, .int .i64 x5.2.2.1.1, .int .i64 x5.2.2.1.2.1.1, .int .i64 x5.2.2.1.2.1.2.1.1, .int .i64 x5.2.2.1.2.1.2.1.2.1, .int .i64 x5.2.2.1.2.1.2.1.2.2.1, .int .i64 x5.2.2.1.2.1.2.1.2.2.2, .int .i64 x5.2.2.1.2.1.2.2.1, .int .i64 x5.2.2.1.2.1.2.2.2.1, .int .i64 x5.2.2.1.2.1.2.2.2.2.1, .int .i64 x5.2.2.1.2.1.2.2.2.2.2, (v2.2.2.1.2.2.1), .bool x5.2.2.2]) Mv PK F Aa Aa (Pg h1 (C8 h3).1) (fun _ => rfl) h4 (by rw [h6])).q fun a w F W => ?_
    refine Cn (cs := (OH)) F W Aa Rn Aa fun b1 a w F W => ?_
    refine EJ 0 F W Aa Aa Aa PK Aa Aa (Ac Aa (Ac Aa (Ac Aa (Ac Aa (Ac Aa (Ac Aa (Ac Aa (Ac Aa (Ac Aa (Ac Aa (Ac Aa (Ac Aa (Ac (Na (q := 12) h7 Aa) (Ac Aa Ct)))))))))))))) fun w W => ?_
    refine EY tk 8 [0] F W (ai fun a w F W => ?_)
    refine Dm F Aa (fun hb => ?_) fun hb => ?_
    ·
     have H := BW hb H
     rw [hb] at F
     rw [hb] at W
     clear hb
     refine vc tk 5 F W fun a w F W => ?_
     refine AV (Ad ?_)
     have W := W.sub (M' := []) (Z' := [Be q_p0 Bn 16 p0]) (List.nil_sublist _) (List.Sublist.refl _)
     exact ⟨_, H, F.ra Aa, W⟩
    have H := BX (by rw [hb]; decide) H
    rw [hb] at F
    rw [hb] at W
    clear hb
    refine AH (AV (Ad ?_))
    have W := W.sub (M' := []) (Z' := [Be q_p0 Bn 16 p0]) (List.nil_sublist _) (List.Sublist.refl _)
    exact ⟨_, H, F.ra Aa, W⟩
   rintro a w ⟨x4, hj, F, W⟩
   have hj := Aw hj
   subst hj
   have H := K3
   clear G3 K3
   refine vc tk 4 F W fun a w F W => ?_
   refine Ad ?_
   exact ⟨_, H, F.ra Aa, W⟩
  refine Bz ?_
  iterate 2 refine B7 ?_
  refine BC (Ad ?_)
  have H := L2 _ H
  exact ⟨_, H, F.ra Aa, W⟩
 rintro a w ⟨x1, hj, F, W⟩
 have hj := Aw hj
 subst hj
 have H := K1
 clear G1 K1
 refine vc tk 6 F W fun a w F W => ?_
 refine Al ?_
 have H := Aw H
 subst H
 refine Aq (.inl Aa) F W Aa (Ak F Aa) ?_
 exact ⟨(), Aa, W⟩
theorem Pn : type_of% Try.underlying78 := Try.underlying78
theorem QK : Has Try.prog 30 := B3 Try.func30
theorem Q5 : Et Try.prog 78 68 14 128 := Et.of Pn (by kernel_rfl) (by kernel_rfl) (by kernel_rfl) (by decide)
def CA (p0 : Bool × (Int × (Int × (Int × (Int × Int × Int × Int) × (Int × Int × Int × Int)) × (List (Int × Int × Int))) × Bool)) : Bool := p0.1
theorem Gd (Y : Nat → Prop) (w0 : World) (v1 : Value) (p0 : Bool × (Int × (Int × (Int × (Int × Int × Int × Int) × (Int × Int × Int × Int)) × (List (Int × Int × Int))) × Bool)) (r : Bool) (H : CA p0 = r) (h_v1 : Sl w0 (NX []) Bl v1 p0.2.2.1.2.2) :
    Calls Try.prog 32 #[.agg #[.bool p0.1, .int .i64 p0.2.1, .int .i64 p0.2.2.1.1, .int .i64 p0.2.2.1.2.1.1, .int .i64 p0.2.2.1.2.1.2.1.1, .int .i64 p0.2.2.1.2.1.2.1.2.1, .int .i64 p0.2.2.1.2.1.2.1.2.2.1, .int .i64 p0.2.2.1.2.1.2.1.2.2.2, .int .i64 p0.2.2.1.2.1.2.2.1, .int .i64 p0.2.2.1.2.1.2.2.2.1, .int .i64 p0.2.2.1.2.1.2.2.2.2.1, .int .i64 p0.2.2.1.2.1.2.2.2.2.2, v1, .bool p0.2.2.2]] w0 fun e w' => e = .returned (.bool r) ∧ Below w0.heap.size w0 w' := by
 refine enter Try.func32 Aa Try.ntmps32 Aa fun a F => ?_
 have W := Stw.start Y w0
 unfold CA at H
 refine vc tk 2 F W fun a w F W => ?_
 refine B1 (cs := [.bool p0.1, .int .i64 p0.2.1, .int .i64 p0.2.2.1.1, .int .i64 p0.2.2.1.2.1.1, .int .i64 p0.2.2.1.2.1.2.1.1, .int .i64 p0.2.2.1.2.1.2.1.2.1, .int .i64 p0.2.2.1.2.1.2.1.2.2.1, .int .i64 p0.2.2.1.2.1.2.1.2.2.2, .int .i64 p0.2.2.1.2.1.2.2.1, .int .i64 p0.2.2.1.2.1.2.2.2.1, .int .i64 p0.2.2.1.2.1.2.2.2.2.1, .int .i64 p0.2.2.1.2.1.2.2.2.2.2, v1, .bool p0.2.2.2]) F W Aa Aa Aa fun b1 a w F W => ?_
 refine EY tk 10 [0] F W (ai fun a w F W => ?_)
 refine Al ?_
 subst H
 refine Aq (.inl Aa) F W Aa (Ak F Aa) ?_
 exact ⟨rfl, W.done⟩
theorem Sa : Has Try.prog 32 := B3 Try.func32
noncomputable def Av (p0 : List (Bool × (Int × (Int × (Int × (Int × Int × Int × Int) × (Int × Int × Int × Int)) × (List (Int × Int × Int))) × Bool))) : Int → Option (Int ⊕ (Unit ⊕ Int))
  | x1 => (if x1 < (p0.length : Int) then (ix p0 x1).bind fun x2 => (if (CA x2) = true then some (.inr (.inr x1)) else some (.inl (Cs (x1 + 1)))) else some (.inr (.inl ())))
noncomputable def AK (p0 : List (Bool × (Int × (Int × (Int × (Int × Int × Int × Int) × (Int × Int × Int × Int)) × (List (Int × Int × Int))) × Bool))) : Option Int := Fu (AJ (Av p0) 0) fun _ => some (-1)
theorem C2 (Y : Nat → Prop) (w0 : World) (v1 : Value) (p0 : List (Bool × (Int × (Int × (Int × (Int × Int × Int × Int) × (Int × Int × Int × Int)) × (List (Int × Int × Int))) × Bool))) (r : Int) (H : AK p0 = some r) (h_v1 : Sl w0 (NX []) Bn v1 p0) :
    Calls Try.prog 43 #[v1, .func (.func 32) #[] #[]] w0 fun e w' => e = .returned (.int .i64 r) ∧ Below w0.heap.size w0 w' := by
 refine enter Try.func43 Aa Try.ntmps43 Aa fun a F => ?_
 have W := Stw.start Y w0
 obtain ⟨v2, h1, h_v1⟩ := h_v1.ex Dx
 unfold AK at H
 refine vc tk 5 F W fun a w F W => ?_
 obtain ⟨o1, G1, K1, L1⟩ := IZ H
 refine AC (fun a w => some (Sum.inl ()) = some o1 ∧ Fr 19 [] [(4, .int .i64 0)] a ∧ Stw ⟨Y, [], w0⟩ [] [] w) ?_ ?_
 ·
  have H := G1
  clear G1 K1
  refine vc tk 3 F W fun a w F W => ?_
  refine ls F W Aa (BQ (r := Bn) (l := p0) Pn Aa F Aa (A6 Dx h1 (Aj h_v1))).q fun a w F W => ?_
  refine BV tk 4 F W fun a w F W => ?_
  refine BI H (fun s a w => Fr 19 [] [(0, v1), (1, .func (.func 32) #[] #[]), (4, .int .i64 0), (7, .int .i64 (p0.length : Int)), (8, .int .i64 s)] a ∧ Stw ⟨Y, [], w0⟩ [] [] w) ⟨F.ra Aa, W⟩ fun s o a w H L2 hR => ?_
  obtain ⟨x1, rfl⟩ : ∃ x, x = s := ⟨s, rfl⟩
  obtain ⟨F, W⟩ := hR
  have F : Fr 19 [] [(0, v1), (1, .func (.func 32) #[] #[]), (4, .int .i64 0), (7, .int .i64 (p0.length : Int)), (8, .int .i64 x1)] a := F
  have W : Stw ⟨Y, [], w0⟩ [] [] w := W
  rw [Av] at H
  refine vc tk 6 F W fun a w F W => ?_
  refine Br F Aa H (fun F H => ?_) fun F H => ?_
  ·
   refine E8 tk 15 F W fun a w F W => ?_
   obtain ⟨x2, h2, H⟩ := Ah H
   obtain ⟨v3, h3, h4⟩ := Ck h1 h2
   have h5 : Gi v3 = [.bool x2.1, .int .i64 x2.2.1, .int .i64 x2.2.2.1.1, .int .i64 x2.2.2.1.2.1.1, .int .i64 x2.2.2.1.2.1.2.1.1, .int .i64 x2.2.2.1.2.1.2.1.2.1, .int .i64 x2.2.2.1.2.1.2.1.2.2.1, .int .i64 x2.2.2.1.2.1.2.1.2.2.2, .int .i64 x2.2.2.1.2.1.2.2.1, .int .i64 x2.2.2.1.2.1.2.2.2.1, .int .i64 x2.2.2.1.2.1.2.2.2.2.1, .int .i64 x2.2.2.1.2.1.2.2.2.2.2, (v3.2.2.1.2.2.1), .bool x2.2.2.2] := congrArg (fun q : Bool × (Int × (Int × (Int × (Int × Int × Int × Int) × (Int × Int × Int × Int)) × (List (Int × Int × Int))) × Bool) => ([.bool q.1, .int .i64 q.2.1, .int .i64 q.2.2.1.1, .int .i64 q.2.2.1.2.1.1, .int .i64 q.2.2.1.2.1.2.1.1, .int .i64 q.2.2.1.2.1.2.1.2.1, .int .i64 q.2.2.1.2.1.2.1.2.2.1, .int .i64 q.2.2.1.2.1.2.1.2.2.2, .int .i64 q.2.2.1.2.1.2.2.1, .int .i64 q.2.2.1.2.1.2.2.2.1, .int .i64 q.2.2.1.2.1.2.2.2.2.1, .int .i64 q.2.2.1.2.1.2.2.2.2.2, (v3.2.2.1.2.2.1), .bool q.2.2.2] : List Value)) h4
   refine ls F W Aa (A8 (r := KH) Q5 F Aa Aa (Aj h_v1) h3).q fun a w F W => ?_
   refine ls F W Aa (AE (y := Value.agg #[.bool x2.1, .int .i64 x2.2.1, .int .i64 x2.2.2.1.1, .int .i64 x2.2.2.1.2.1.1, .int .i64 x2.2.2.1.2.1.2.1.1, .int .i64 x2.2.2.1.2.1.2.1.2.1, .int .i64 x2.2.2.1.2.1.2.1.2.2.1, .int .i64 x2.2.2.1.2.1.2.1.2.2.2, .int .i64 x2.2.2.1.2.1.2.2.1, .int .i64 x2.2.2.1.2.1.2.2.2.1, .int .i64 x2.2.2.1.2.1.2.2.2.2.1, .int .i64 x2.2.2.1.2.1.2.2.2.2.2, (v3.2.2.1.2.2.1), .bool x2.2.2.2]) (j := 0) (i := x1) (enc := Gi) F Aa Aa (Aj h_v1) h3 KX PK (by rw [h5]; rfl)).q fun a w F W => ?_
   refine ls F W Aa (EH (ws := [.agg #[.bool x2.1, .int .i64 x2.2.1, .int .i64 x2.2.2.1.1, .int .i64 x2.2.2.1.2.1.1, .int .i64 x2.2.2.1.2.1.2.1.1, .int .i64 x2.2.2.1.2.1.2.1.2.1, .int .i64 x2.2.2.1.2.1.2.1.2.2.1, .int .i64 x2.2.2.1.2.1.2.1.2.2.2, .int .i64 x2.2.2.1.2.1.2.2.1, .int .i64 x2.2.2.1.2.1.2.2.2.1, .int .i64 x2.2.2.1.2.1.2.2.2.2.1, .int .i64 x2.2.2.1.2.1.2.2.2.2.2, (v3.2.2.1.2.2.1), .bool x2.2.2.2]]) (v := Value.bool (CA x2)) F Sa Aa (fun w W => Gd any w ((v3.2.2.1.2.2.1)) x2 _ Aa (CY (Dr (Aj h_v1) h3 (Ay.snd (Ay.snd (Ay.fst (Ay.snd (Ay.snd Ay.here))))) (congrArg (fun q : Bool × (Int × (Int × (Int × (Int × Int × Int × Int) × (Int × Int × Int × Int)) × (List (Int × Int × Int))) × Bool) => q.2.2.1.2.2) h4)) W))) fun a w F W => ?_
   refine BV tk 2 F W fun a w F W => ?_
   refine B8 F Aa H (fun F H => ?_) fun F H => ?_
   ·
    refine vc tk 6 F W fun a w F W => ?_
    refine Al (Az ?_)
    iterate 2 refine Ap ?_
    refine Az (Ap ?_)
    have H := L2 _ H
    have H := L1 _ H
    have H := Aw H
    subst H
    refine Aq (.inl Aa) F W Aa (Ak F Aa) ?_
    exact ⟨rfl, W.done⟩
   refine AH (AV ?_)
   refine vn tk 4 F W fun a w F W => ?_
   refine Ad ?_
   exact ⟨_, H, F.ra Aa, W⟩
  refine Bz ?_
  iterate 2 refine B7 ?_
  refine BC (Ad ?_)
  have H := L2 _ H
  exact ⟨H, F.ra Aa, W⟩
 rintro a w ⟨hj, F, W⟩
 have H := K1 _ hj
 clear hj G1 K1 L1
 refine vc tk 5 F W fun a w F W => ?_
 refine Al ?_
 have H := Aw H
 subst H
 refine Aq (.inl Aa) F W Aa (Ak F Aa) ?_
 exact ⟨rfl, W.done⟩
theorem Sc : Has Try.prog 43 := B3 Try.func43
noncomputable def Au (p0 : List (Bool × (Int × (Int × (Int × (Int × Int × Int × Int) × (Int × Int × Int × Int)) × (List (Int × Int × Int))) × Bool))) : Option Bool := (AK p0).bind fun x1 => some (decide (0 ≤ x1))
theorem CO (Y : Nat → Prop) (w0 : World) (v1 : Value) (p0 : List (Bool × (Int × (Int × (Int × (Int × Int × Int × Int) × (Int × Int × Int × Int)) × (List (Int × Int × Int))) × Bool))) (r : Bool) (H : Au p0 = some r) (h_v1 : Sl w0 (NX []) Bn v1 p0) :
    Calls Try.prog 31 #[v1, .func (.func 32) #[] #[]] w0 fun e w' => e = .returned (.bool r) ∧ Below w0.heap.size w0 w' := by
 refine enter Try.func31 Aa Try.ntmps31 Aa fun a F => ?_
 have W := Stw.start Y w0
 obtain ⟨v2, h1, h_v1⟩ := h_v1.ex Dx
 unfold Au at H
 refine vc tk 9 F W fun a w F W => ?_
 obtain ⟨x1, h2, H⟩ := Ah H
 refine ls F W Aa (AU (v := Value.int .i64 x1) F Sc Aa (fun w W => C2 any w (v1) p0 _ h2 (CY (A6 Dx h1 (Aj h_v1)) W))) fun a w F W => ?_
 refine BV tk 4 F W fun a w F W => ?_
 refine Al ?_
 have H := Aw H
 subst H
 refine Aq (.inl Aa) F W Aa (Ak F Aa) ?_
 exact ⟨rfl, W.done⟩
theorem RO : Has Try.prog 31 := B3 Try.func31
noncomputable def Bv (p0 : Int × List (Bool × (Int × (Int × (Int × (Int × Int × Int × Int) × (Int × Int × Int × Int)) × (List (Int × Int × Int))) × Bool))) (p1 : Int) : Option (Int × (Int × List (Bool × (Int × (Int × (Int × (Int × Int × Int × Int) × (Int × Int × Int × Int)) × (List (Int × Int × Int))) × Bool)))) := (if (Ai p0) = 2 then some (16, p0) else (if (Ai p0) = 1 then (Bk p0).bind fun x2 => some (decide (p1 = x2)) else some false).bind fun x1 => (if x1 = true then some (0, p0) else (if (Ai p0) = 1 then some true else (if p1 < 0 then some true else some (decide (16 < p1)))).bind fun x3 => (if x3 = true then some (2, p0) else (F1 16 p0.2 p1 16).bind fun x4 => (Au x4).bind fun x5 => (if x5 = true then some (8, p0) else (Bk p0).bind fun x6 => (if x6 < p1 then some (7, p0) else some (0, (1, p0.2)))))))
theorem D4 (Y : Nat → Prop) (X : List Nat) (w0 : World) (q_p0 : Nat) (p0 : Int × List (Bool × (Int × (Int × (Int × (Int × Int × Int × Int) × (Int × Int × Int × Int)) × (List (Int × Int × Int))) × Bool))) (p1 : Int) (r : Int × (Int × List (Bool × (Int × (Int × (Int × (Int × Int × Int × Int) × (Int × Int × Int × Int)) × (List (Int × Int × Int))) × Bool)))) (H : Bv p0 p1 = some r) (hL : Stw ⟨Y, X, w0⟩ [] [Be q_p0 Bn 16 p0] w0) :
    Calls Try.prog 10 #[.pointer (some ⟨q_p0, 0, none⟩), .int .i64 p1] w0 fun e w' => ∃ x : Unit, e = .returned (.int .i64 r.1) ∧ Stw ⟨Y, X, w0⟩ [] [Be q_p0 Bn 16 r.2] w' := by
 refine enter Try.func10 Aa Try.ntmps10 Aa fun a F => ?_
 have W := hL
 unfold Bv at H
 refine vc tk 10 F W fun a w F W => ?_
 refine AB (Ml := []) (Zl := [Be q_p0 Bn 16 p0]) (β := Unit) (rv := fun x => .int .i64 (Ai p0)) (MM := fun x => []) (ZZ := fun x => [Be q_p0 Bn 16 p0]) F W N4 Aa Aa (fun hL => Bj _ _ w q_p0 p0 _ Aa hL) fun x a w F W => ?_
 have W : Stw ⟨Y, X, w0⟩ [] [Be q_p0 Bn 16 p0] w := W
 refine BV tk 4 F W fun a w F W => ?_
 refine Dm F Aa (fun hb => ?_) fun hb => ?_
 ·
  have H := BW (Ci hb) H
  rw [hb] at F
  clear hb
  refine vc tk 5 F W fun a w F W => ?_
  refine Al (Az (Ap ?_))
  have H := Aw H
  subst H
  refine Aq (.inl Aa) F W Aa (Ak F Aa) ?_
  exact ⟨(), Aa, W⟩
 have H := BX (Ch hb) H
 rw [hb] at F
 clear hb
 obtain ⟨o1, G1, K1⟩ := Ah H
 refine AC (fun a w => ∃ x1 : Bool, some (x1) = some o1 ∧ Fr 42 [] [(0, .pointer (some ⟨q_p0, 0, none⟩)), (1, .int .i64 p1), (4, .int .i64 0), (9, .bool x1)] a ∧ Stw ⟨Y, X, w0⟩ [] [Be q_p0 Bn 16 p0] w) ?_ ?_
 ·
  have H := G1
  clear G1 K1
  refine vc tk 2 F W fun a w F W => ?_
  refine AB (Ml := []) (Zl := [Be q_p0 Bn 16 p0]) (β := Unit) (rv := fun x => .int .i64 (Ai p0)) (MM := fun x => []) (ZZ := fun x => [Be q_p0 Bn 16 p0]) F W N4 Aa Aa (fun hL => Bj _ _ w q_p0 p0 _ Aa hL) fun x a w F W => ?_
  have W : Stw ⟨Y, X, w0⟩ [] [Be q_p0 Bn 16 p0] w := W
  refine vl tk 2 F W fun a w F W => ?_
  rcases Bool.eq_false_or_eq_true (decide ((Ai p0) = 1)) with hb | hb
  ·
   have H := BW (Ci hb) H
   rw [hb] at F
   clear hb
   refine vl tk 2 F W fun a w F W => ?_
   refine Fg (Ag F Aa Aa Aa Aa) ?_
   obtain ⟨x2, h1, H⟩ := Ah H
   refine AB (Ml := []) (Zl := [Be q_p0 Bn 16 p0]) (β := Unit) (rv := fun x => .int .i64 x2) (MM := fun x => []) (ZZ := fun x => [Be q_p0 Bn 16 p0]) F W QK Aa Aa (fun hL => Df _ _ w q_p0 p0 _ h1 hL) fun x a w F W => ?_
   have W : Stw ⟨Y, X, w0⟩ [] [Be q_p0 Bn 16 p0] w := W
   refine vl tk 4 F W fun a w F W => ?_
   refine Ad ?_
   exact ⟨_, H, F.ra Aa, W⟩
  have H := BX (Ch hb) H
  rw [hb] at F
  clear hb
  refine vl tk 7 F W fun a w F W => ?_
  refine Ad ?_
  exact ⟨_, H, F.ra Aa, W⟩
 rintro a w ⟨x1, hj, F, W⟩
 have hj := Aw hj
 subst hj
 have H := K1
 clear G1 K1
 refine B8 F Aa H (fun F H => ?_) fun F H => ?_
 ·
  refine vc tk 5 F W fun a w F W => ?_
  refine Al (Az (Ap ?_))
  have H := Aw H
  subst H
  refine Aq (.inl Aa) F W Aa (Ak F Aa) ?_
  exact ⟨(), Aa, W⟩
 obtain ⟨o2, G2, K2⟩ := Ah H
 refine AC (fun a w => ∃ x3 : Bool, some (x3) = some o2 ∧ Fr 42 [] [(0, .pointer (some ⟨q_p0, 0, none⟩)), (1, .int .i64 p1), (4, .int .i64 0), (19, .bool x3)] a ∧ Stw ⟨Y, X, w0⟩ [] [Be q_p0 Bn 16 p0] w) ?_ ?_
 ·
  have H := G2
  clear G2 K2
  refine vc tk 3 F W fun a w F W => ?_
  refine AB (Ml := []) (Zl := [Be q_p0 Bn 16 p0]) (β := Unit) (rv := fun x => .int .i64 (Ai p0)) (MM := fun x => []) (ZZ := fun x => [Be q_p0 Bn 16 p0]) F W N4 Aa Aa (fun hL => Bj _ _ w q_p0 p0 _ Aa hL) fun x a w F W => ?_
  have W : Stw ⟨Y, X, w0⟩ [] [Be q_p0 Bn 16 p0] w := W
  refine BV tk 4 F W fun a w F W => ?_
  refine Dm F Aa (fun hb => ?_) fun hb => ?_
  ·
   have H := BW (Ci hb) H
   rw [hb] at F
   clear hb
   refine AH (Ad ?_)
   exact ⟨_, H, F.ra Aa, W⟩
  have H := BX (Ch hb) H
  rw [hb] at F
  clear hb
  refine vc tk 7 F W fun a w F W => ?_
  refine Dm F Aa (fun hb => ?_) fun hb => ?_
  ·
   have H := BW (Ci hb) H
   rw [hb] at F
   clear hb
   refine AH (Ad ?_)
   exact ⟨_, H, F.ra Aa, W⟩
  have H := BX (Ch hb) H
  rw [hb] at F
  clear hb
  refine vc tk 5 F W fun a w F W => ?_
  refine Ad ?_
  exact ⟨_, H, F.ra Aa, W⟩
 rintro a w ⟨x3, hj, F, W⟩
 have hj := Aw hj
 subst hj
 have H := K2
 clear G2 K2
 refine B8 F Aa H (fun F H => ?_) fun F H => ?_
 ·
  refine vc tk 5 F W fun a w F W => ?_
  refine Al (Az (Ap ?_))
  have H := Aw H
  subst H
  refine Aq (.inl Aa) F W Aa (Ak F Aa) ?_
  exact ⟨(), Aa, W⟩
 refine HJ ?_
 obtain ⟨v1, h2, W⟩ := W.exP Dx
 refine vc tk 2 F W fun a w F W => ?_
 refine ls F W Aa (C6 F Aa).q fun a w F W => ?_
 refine vl tk 2 F W fun a w F W => ?_
 obtain ⟨x4, h3, H⟩ := Ah H
 obtain ⟨v2, h4, h5⟩ := GS h2 (DI h3).2
 refine ls F W Aa (Nj Mv F Aa Aa (J5 h3).1 (J5 h3).2).q fun a w F W => ?_
 obtain ⟨x5, h6, H⟩ := Ah H
 refine ls F W Aa (AU (v := Value.bool x5) F RO Aa (fun w W => CO any w ((B6 (PL q_p0 16) p1 (16 : Int) 14)) x4 _ h6 (CY (HW (A6 Dx h2 (Iv (p := (p0.1, v1)) 0 Aa)) (DI h3).2) W))) fun a w F W => ?_
 refine BV tk 3 F W fun a w F W => ?_
 refine Dm F Aa (fun hb => ?_) fun hb => ?_
 ·
  have H := BW hb H
  rw [hb] at F
  clear hb
  refine vc tk 5 F W fun a w F W => ?_
  refine Al (Az (Ap ?_))
  have H := Aw H
  subst H
  refine Aq (.inl Aa) F W Aa (Ak F Aa) ?_
  have W := W.hideP Dx h2
  exact ⟨(), Aa, W⟩
 have H := BX (by rw [hb]; decide) H
 rw [hb] at F
 clear hb
 refine vc tk 3 F W fun a w F W => ?_
 obtain ⟨x6, h7, H⟩ := Ah H
 have W := W.hideP Dx h2
 refine AB (Ml := []) (Zl := [Be q_p0 Bn 16 p0]) (β := Unit) (rv := fun x => .int .i64 x6) (MM := fun x => []) (ZZ := fun x => [Be q_p0 Bn 16 p0]) F W QK Aa Aa (fun hL => Df _ _ w q_p0 p0 _ h7 hL) fun x a w F W => ?_
 have W : Stw ⟨Y, X, w0⟩ [] [Be q_p0 Bn 16 p0] w := W
 refine BV tk 5 F W fun a w F W => ?_
 refine Dm F Aa (fun hb => ?_) fun hb => ?_
 ·
  have H := BW (Ci hb) H
  rw [hb] at F
  clear hb
  refine vc tk 5 F W fun a w F W => ?_
  refine Al (Az (Ap ?_))
  have H := Aw H
  subst H
  refine Aq (.inl Aa) F W Aa (Ak F Aa) ?_
  exact ⟨(), Aa, W⟩
 have H := BX (Ch hb) H
 rw [hb] at F
 clear hb
 refine AH (AV ?_)
 refine vn tk 3 F W fun a w F W => ?_
 refine ls F W Aa (C6 F Aa).q fun a w F W => ?_
 refine ls F W Aa (An Kt Aa Aa Aa T3 F Aa 0 Aa).q fun a w F W => ?_
 refine KG (k := 0) F W Aa Aa Aa Aa T3 fun w W => ?_
 have W : Stw ⟨Y, X, w0⟩ [] [Be q_p0 Bn 16 (1, p0.2)] w := W
 refine BV tk 7 F W fun a w F W => ?_
 refine Al ?_
 have H := Aw H
 subst H
 refine Aq (.inl Aa) F W Aa (Ak F Aa) ?_
 exact ⟨(), Aa, W⟩
theorem IB : type_of% Try.underlying56 := Try.underlying56
theorem Rk : Has Try.prog 10 := B3 Try.func10
theorem NN : Et Try.prog 56 39 13 120 := Et.of IB (by kernel_rfl) (by kernel_rfl) (by kernel_rfl) (by decide)
abbrev QB (p : Int × (Int × (Int × (Int × Int × Int × Int) × (Int × Int × Int × Int)) × (Value × List (Int × Int × Int))) × Bool) : Int × (Int × (Int × (Int × Int × Int × Int) × (Int × Int × Int × Int)) × (List (Int × Int × Int))) × Bool := (p.1, (p.2.1.1, p.2.1.2.1, p.2.1.2.2.2), p.2.2)
theorem FW : Ex F2 Hp QB := (Ex.pair Ex.rfl' (Ex.pair (Ex.pair Ex.rfl' (Ex.pair Ex.rfl' Ex.sliceF)) Ex.rfl'))
noncomputable def BF (x3 : List (Bool × (Int × (Int × (Int × (Int × Int × Int × Int) × (Int × Int × Int × Int)) × (List (Int × Int × Int))) × Bool))) : ((List (Int × (Int × (Int × (Int × Int × Int × Int) × (Int × Int × Int × Int)) × (List (Int × Int × Int))) × Bool)) × Int) → Option (((List (Int × (Int × (Int × (Int × Int × Int × Int) × (Int × Int × Int × Int)) × (List (Int × Int × Int))) × Bool)) × Int) ⊕ (List (Int × (Int × (Int × (Int × Int × Int × Int) × (Int × Int × Int × Int)) × (List (Int × Int × Int))) × Bool)))
  | (x4, x5) => (if x5 < (x3.length : Int) then (ix x3 x5).bind fun x6 => (Cv x6.2).bind fun x7 => (Jb x4 ([x7] : List (Int × (Int × (Int × (Int × Int × Int × Int) × (Int × Int × Int × Int)) × (List (Int × Int × Int))) × Bool))).bind fun x8 => some (.inl (x8, Cs (x5 + 1))) else some (.inr x4))
noncomputable def AF (p0 : Int × List (Bool × (Int × (Int × (Int × (Int × Int × Int × Int) × (Int × Int × Int × Int)) × (List (Int × Int × Int))) × Bool))) : Option (List (Int × (Int × (Int × (Int × Int × Int × Int) × (Int × Int × Int × Int)) × (List (Int × Int × Int))) × Bool)) := (if (Ai p0) ≠ 1 then some ([] : List (Int × (Int × (Int × (Int × Int × Int × Int) × (Int × Int × Int × Int)) × (List (Int × Int × Int))) × Bool)) else ((Bk p0).bind fun x2 => (F1 16 p0.2 0 x2).bind fun x3 => AJ (BF x3) ([], 0)).bind fun x1 => some x1)
theorem Dp (Y : Nat → Prop) (X : List Nat) (w0 : World) (q_p0 : Nat) (p0 : Int × List (Bool × (Int × (Int × (Int × (Int × Int × Int × Int) × (Int × Int × Int × Int)) × (List (Int × Int × Int))) × Bool))) (r : (List (Int × (Int × (Int × (Int × Int × Int × Int) × (Int × Int × Int × Int)) × (List (Int × Int × Int))) × Bool))) (H : AF p0 = some r) (hL : Stw ⟨Y, X, w0⟩ [] [Be q_p0 Bn 16 p0] w0) :
    Calls Try.prog 20 #[.pointer (some ⟨q_p0, 0, none⟩)] w0 fun e w' => ∃ x : Value, e = .returned (x) ∧ Stw ⟨Y, X, w0⟩ [] [Be q_p0 Bn 16 p0, row (x) 39 F2 r] w' := by
 refine enter Try.func20 Aa Try.ntmps20 Aa fun a F => ?_
 have W := hL
 unfold AF at H
 refine vc tk 9 F W fun a w F W => ?_
 refine AB (Ml := []) (Zl := [Be q_p0 Bn 16 p0]) (β := Unit) (rv := fun x => .int .i64 (Ai p0)) (MM := fun x => []) (ZZ := fun x => [Be q_p0 Bn 16 p0]) F W N4 Aa Aa (fun hL => Bj _ _ w q_p0 p0 _ Aa hL) fun x a w F W => ?_
 have W : Stw ⟨Y, X, w0⟩ [] [Be q_p0 Bn 16 p0] w := W
 refine BV tk 3 F W fun a w F W => ?_
 refine Br F Aa H (fun F H => ?_) fun F H => ?_
 ·
  refine vc tk 5 F W fun a w F W => ?_
  refine Al (Ap ?_)
  have H := Aw H
  subst H
  refine Aq (.inl Aa) F W Aa (Ak F Aa) ?_
  have W := W.nilRow 39 F2
  have W := W.frontZ (i := 1) Aa Aa
  exact ⟨(Value.slice none 0 0), Aa, W⟩
 refine E8 tk 7 F W fun a w F W => ?_
 obtain ⟨o1, G1, K1⟩ := Ah H
 refine AC (fun a w => ∃ x1 : List (Int × (Int × (Int × (Int × Int × Int × Int) × (Int × Int × Int × Int)) × (List (Int × Int × Int))) × Bool), ∃ v1 : Value, some (x1) = some o1 ∧ Fr 28 [] [(2, .slice none 0 0), (3, v1)] a ∧ Stw ⟨Y, X, w0⟩ [] [row v1 39 F2 x1, Be q_p0 Bn 16 p0] w) ?_ ?_
 ·
  have H := G1
  clear G1 K1
  refine HJ ?_
  obtain ⟨v2, h1, W⟩ := W.exP Dx
  refine ER [(true, 0), (true, 1), (true, 2), (true, 3), (true, 7), (false, 4), (true, 5), (true, 6)] (CN ⟨Y, X, w0⟩ [] []) (fun ch a d v w h => by cases d <;> exact h) MO (by kernel_rfl) W (fun w W => ⟨_, _, W, As, As⟩) fun w W => ?_
  refine CZ (R := []) F Aa Aa (yC fun M Z hN hZ => Am F Aa) Aa Aa fun a F => ?_
  refine CZ (R := []) F Aa Aa (yC fun M Z hN hZ => C6 F Aa) Aa Aa fun a F => ?_
  refine CZ (R := []) F Aa Aa (yC fun M Z hN hZ => An Kt Aa Aa Aa PO F Aa 1 Aa) Aa Aa fun a F => ?_
  iterate 2 refine CZ (R := []) F Aa Aa (yC fun M Z hN hZ => Am F Aa) Aa Aa fun a F => ?_
  refine En Aa ?_
  obtain ⟨x2, h2, H⟩ := Ah H
  have W := W.hideP Dx h1
  refine AB (Ml := []) (Zl := [Be q_p0 Bn 16 p0]) (β := Unit) (rv := fun x => .int .i64 x2) (MM := fun x => []) (ZZ := fun x => [Be q_p0 Bn 16 p0]) F W QK Aa Aa (fun hL => Df _ _ w q_p0 p0 _ h2 hL) fun x a w F W => ?_
  have W : Stw ⟨Y, X, w0⟩ [] [Be q_p0 Bn 16 p0] w := W
  refine BS (N2 := []) (NZ2 := [(none, Be q_p0 Bn 16 p0)]) (N3 := []) (NZ3 := [(none, Be q_p0 Bn 16 p0)]) W Aa Aa As (all_cons (fun _ => (.head _)) As) ?_
  obtain ⟨x3, h3, H⟩ := Ah H
  refine CZ (R := []) F Aa Aa (yC fun M Z hN hZ => LT Mv F Aa Aa (Kn h3).1 (Kn h3).2) Aa Aa fun a F => ?_
  refine CZ (R := []) F Aa Aa (yC fun M Z hN hZ => BQ (r := Bn) (l := x3) Pn Aa F Aa (HW (Pz (p := p0) (hZ (none, Be q_p0 Bn 16 p0) (.head _) Aa)) (DI h3).2)) Aa Aa fun a F => ?_
  refine GI ?_
  refine vn tk 1 F W fun a w F W => ?_
  have W := W.nilRow 39 F2
  have W := W.frontZ (i := 1) Aa Aa
  have W := W.frontZ (i := 1) Aa Aa
  refine BI H (fun s a w => ∃ v3 : Value, Fr 28 [] [(2, .slice none 0 0), (3, v3), (14, (B6 (PL q_p0 16) (0 : Int) x2 14)), (15, .int .i64 (x3.length : Int)), (16, .int .i64 s.2)] a ∧ Stw ⟨Y, X, w0⟩ [] [row v3 39 F2 s.1, Be q_p0 Bn 16 p0] w) ⟨(Value.slice none 0 0), F.ra Aa, W⟩ fun s o a w H L2 hR => ?_
  obtain ⟨x4, x5⟩ := s
  obtain ⟨v3, F, W⟩ := hR
  have F : Fr 28 [] [(2, .slice none 0 0), (3, v3), (14, (B6 (PL q_p0 16) (0 : Int) x2 14)), (15, .int .i64 (x3.length : Int)), (16, .int .i64 x5)] a := F
  have W : Stw ⟨Y, X, w0⟩ [] [row v3 39 F2 x4, Be q_p0 Bn 16 p0] w := W
  rw [BF] at H
  refine vc tk 6 F W fun a w F W => ?_
  refine Br F Aa H (fun F H => ?_) fun F H => ?_
  ·
   refine E8 tk 5 F W fun a w F W => ?_
   obtain ⟨v4, h4, W⟩ := W.exR FW
   have W := W.frontZ (i := 1) Aa Aa
   obtain ⟨v5, h5, W⟩ := W.exP Dx
   obtain ⟨v6, h6, h7⟩ := GS h5 (DI h3).2
   refine Ky ?_
   obtain ⟨x6, h8, H⟩ := Ah H
   obtain ⟨v7, h9, h10⟩ := Ck h7 h8
   have h11 : Gi v7 = [.bool x6.1, .int .i64 x6.2.1, .int .i64 x6.2.2.1.1, .int .i64 x6.2.2.1.2.1.1, .int .i64 x6.2.2.1.2.1.2.1.1, .int .i64 x6.2.2.1.2.1.2.1.2.1, .int .i64 x6.2.2.1.2.1.2.1.2.2.1, .int .i64 x6.2.2.1.2.1.2.1.2.2.2, .int .i64 x6.2.2.1.2.1.2.2.1, .int .i64 x6.2.2.1.2.1.2.2.2.1, .int .i64 x6.2.2.1.2.1.2.2.2.2.1, .int .i64 x6.2.2.1.2.1.2.2.2.2.2, (v7.2.2.1.2.2.1), .bool x6.2.2.2] := congrArg (fun q : Bool × (Int × (Int × (Int × (Int × Int × Int × Int) × (Int × Int × Int × Int)) × (List (Int × Int × Int))) × Bool) => ([.bool q.1, .int .i64 q.2.1, .int .i64 q.2.2.1.1, .int .i64 q.2.2.1.2.1.1, .int .i64 q.2.2.1.2.1.2.1.1, .int .i64 q.2.2.1.2.1.2.1.2.1, .int .i64 q.2.2.1.2.1.2.1.2.2.1, .int .i64 q.2.2.1.2.1.2.1.2.2.2, .int .i64 q.2.2.1.2.1.2.2.1, .int .i64 q.2.2.1.2.1.2.2.2.1, .int .i64 q.2.2.1.2.1.2.2.2.2.1, .int .i64 q.2.2.1.2.1.2.2.2.2.2, (v7.2.2.1.2.2.1), .bool q.2.2.2] : List Value)) h10
   refine ls F W Aa (A8 (r := KH) Q5 F Aa Aa (HW (Iv (p := (p0.1, v5)) 0 Aa) h6) h9).q fun a w F W => ?_
   refine ls F W Aa (AE (y := Value.agg #[.bool x6.1, .int .i64 x6.2.1, .int .i64 x6.2.2.1.1, .int .i64 x6.2.2.1.2.1.1, .int .i64 x6.2.2.1.2.1.2.1.1, .int .i64 x6.2.2.1.2.1.2.1.2.1, .int .i64 x6.2.2.1.2.1.2.1.2.2.1, .int .i64 x6.2.2.1.2.1.2.1.2.2.2, .int .i64 x6.2.2.1.2.1.2.2.1, .int .i64 x6.2.2.1.2.1.2.2.2.1, .int .i64 x6.2.2.1.2.1.2.2.2.2.1, .int .i64 x6.2.2.1.2.1.2.2.2.2.2, (v7.2.2.1.2.2.1), .bool x6.2.2.2]) (j := 0) (i := x5) (enc := Gi) F Aa Aa (HW (Iv (p := (p0.1, v5)) 0 Aa) h6) h9 KX PK (by rw [h11]; rfl)).q fun a w F W => ?_
   have W := W.note (W.pAt (p := (p0.1, v5)) (k := 0) Aa (Of h6 h9) (Ay.snd (Ay.snd (Ay.fst (Ay.snd (Ay.snd Ay.here))))) (congrArg (fun q : Bool × (Int × (Int × (Int × (Int × Int × Int × Int) × (Int × Int × Int × Int)) × (List (Int × Int × Int))) × Bool) => q.2.2.1.2.2) h10))
   refine Cn (cs := (OH)) F W Aa Rn Aa fun b1 a w F W => ?_
   refine EJ 0 F W Aa Aa Aa PK Aa Aa (Ac Aa (Ac Aa (Ac Aa (Ac Aa (Ac Aa (Ac Aa (Ac Aa (Ac Aa (Ac Aa (Ac Aa (Ac Aa (Ac Aa (Ac (W.oneF (k := 0) Aa) (Ac Aa Ct)))))))))))))) fun w W => ?_
   refine EY tk 6 [0] F W (ai fun a w F W => ?_)
   obtain ⟨x7, h12, H⟩ := Ah H
   refine AB (Ml := []) (Zl := []) (β := Value) (rv := fun x => .agg #[.int .i64 x7.1, .int .i64 x7.2.1.1, .int .i64 x7.2.1.2.1.1, .int .i64 x7.2.1.2.1.2.1.1, .int .i64 x7.2.1.2.1.2.1.2.1, .int .i64 x7.2.1.2.1.2.1.2.2.1, .int .i64 x7.2.1.2.1.2.1.2.2.2, .int .i64 x7.2.1.2.1.2.2.1, .int .i64 x7.2.1.2.1.2.2.2.1, .int .i64 x7.2.1.2.1.2.2.2.2.1, .int .i64 x7.2.1.2.1.2.2.2.2.2, x, .bool x7.2.2]) (MM := fun x => []) (ZZ := fun x => [row x 88 Bl x7.2.1.2.2]) F W Q6 Aa Aa (fun hL => FZ _ w ((v7.2.2.1.2.2.1)) x6.2 _ h12 (W.item (i := 0) Aa)) fun x a w F W => ?_
   obtain ⟨v8, rfl⟩ : ∃ y, y = x := ⟨x, rfl⟩
   have W : Stw ⟨Y, X, w0⟩ [(b1, [.bool x6.1, .int .i64 x6.2.1, .int .i64 x6.2.2.1.1, .int .i64 x6.2.2.1.2.1.1, .int .i64 x6.2.2.1.2.1.2.1.1, .int .i64 x6.2.2.1.2.1.2.1.2.1, .int .i64 x6.2.2.1.2.1.2.1.2.2.1, .int .i64 x6.2.2.1.2.1.2.1.2.2.2, .int .i64 x6.2.2.1.2.1.2.2.1, .int .i64 x6.2.2.1.2.1.2.2.2.1, .int .i64 x6.2.2.1.2.1.2.2.2.2.1, .int .i64 x6.2.2.1.2.1.2.2.2.2.2, (v7.2.2.1.2.2.1), .bool x6.2.2.2])] [row v8 88 Bl x7.2.1.2.2, BD (v7.2.2.1.2.2.1) Bl x6.2.2.1.2.2, Be q_p0 KH 16 (p0.1, v5), row v3 39 Hp v4] w := W
   have W := W.freeze
   refine LP (z := Value.agg #[.int .i64 0, .int .i64 0, .int .i64 0, .int .i64 0, .int .i64 0, .int .i64 0, .int .i64 0, .int .i64 0, .int .i64 0, .int .i64 0, .int .i64 0, .slice none 0 0, .bool false]) (cs := [.int .i64 x7.1, .int .i64 x7.2.1.1, .int .i64 x7.2.1.2.1.1, .int .i64 x7.2.1.2.1.2.1.1, .int .i64 x7.2.1.2.1.2.1.2.1, .int .i64 x7.2.1.2.1.2.1.2.2.1, .int .i64 x7.2.1.2.1.2.1.2.2.2, .int .i64 x7.2.1.2.1.2.2.1, .int .i64 x7.2.1.2.1.2.2.2.1, .int .i64 x7.2.1.2.1.2.2.2.2.1, .int .i64 x7.2.1.2.1.2.2.2.2.2, v8, .bool x7.2.2]) F2 ([x7] : List (Int × (Int × (Int × (Int × Int × Int × Int) × (Int × Int × Int × Int)) × (List (Int × Int × Int))) × Bool)) F W Aa NN Qg Aa Aa Aa (CU Aa Aa Aa FH) Aa Aa ⟨[Value.int .i64 x7.1, Value.int .i64 x7.2.1.1, Value.int .i64 x7.2.1.2.1.1, Value.int .i64 x7.2.1.2.1.2.1.1, Value.int .i64 x7.2.1.2.1.2.1.2.1, Value.int .i64 x7.2.1.2.1.2.1.2.2.1, Value.int .i64 x7.2.1.2.1.2.1.2.2.2, Value.int .i64 x7.2.1.2.1.2.2.1, Value.int .i64 x7.2.1.2.1.2.2.2.1, Value.int .i64 x7.2.1.2.1.2.2.2.2.1, Value.int .i64 x7.2.1.2.1.2.2.2.2.2, v8, Value.bool x7.2.2], _, Aa, ⟨[Value.int .i64 x7.1], [Value.int .i64 x7.2.1.1, Value.int .i64 x7.2.1.2.1.1, Value.int .i64 x7.2.1.2.1.2.1.1, Value.int .i64 x7.2.1.2.1.2.1.2.1, Value.int .i64 x7.2.1.2.1.2.1.2.2.1, Value.int .i64 x7.2.1.2.1.2.1.2.2.2, Value.int .i64 x7.2.1.2.1.2.2.1, Value.int .i64 x7.2.1.2.1.2.2.2.1, Value.int .i64 x7.2.1.2.1.2.2.2.2.1, Value.int .i64 x7.2.1.2.1.2.2.2.2.2, v8, Value.bool x7.2.2], Aa, Aa, ⟨[Value.int .i64 x7.2.1.1, Value.int .i64 x7.2.1.2.1.1, Value.int .i64 x7.2.1.2.1.2.1.1, Value.int .i64 x7.2.1.2.1.2.1.2.1, Value.int .i64 x7.2.1.2.1.2.1.2.2.1, Value.int .i64 x7.2.1.2.1.2.1.2.2.2, Value.int .i64 x7.2.1.2.1.2.2.1, Value.int .i64 x7.2.1.2.1.2.2.2.1, Value.int .i64 x7.2.1.2.1.2.2.2.2.1, Value.int .i64 x7.2.1.2.1.2.2.2.2.2, v8], [Value.bool x7.2.2], Aa, ⟨[Value.int .i64 x7.2.1.1], [Value.int .i64 x7.2.1.2.1.1, Value.int .i64 x7.2.1.2.1.2.1.1, Value.int .i64 x7.2.1.2.1.2.1.2.1, Value.int .i64 x7.2.1.2.1.2.1.2.2.1, Value.int .i64 x7.2.1.2.1.2.1.2.2.2, Value.int .i64 x7.2.1.2.1.2.2.1, Value.int .i64 x7.2.1.2.1.2.2.2.1, Value.int .i64 x7.2.1.2.1.2.2.2.2.1, Value.int .i64 x7.2.1.2.1.2.2.2.2.2, v8], Aa, Aa, ⟨[Value.int .i64 x7.2.1.2.1.1, Value.int .i64 x7.2.1.2.1.2.1.1, Value.int .i64 x7.2.1.2.1.2.1.2.1, Value.int .i64 x7.2.1.2.1.2.1.2.2.1, Value.int .i64 x7.2.1.2.1.2.1.2.2.2, Value.int .i64 x7.2.1.2.1.2.2.1, Value.int .i64 x7.2.1.2.1.2.2.2.1, Value.int .i64 x7.2.1.2.1.2.2.2.2.1, Value.int .i64 x7.2.1.2.1.2.2.2.2.2], [v8], Aa, ⟨[Value.int .i64 x7.2.1.2.1.1], [Value.int .i64 x7.2.1.2.1.2.1.1, Value.int .i64 x7.2.1.2.1.2.1.2.1, Value.int .i64 x7.2.1.2.1.2.1.2.2.1, Value.int .i64 x7.2.1.2.1.2.1.2.2.2, Value.int .i64 x7.2.1.2.1.2.2.1, Value.int .i64 x7.2.1.2.1.2.2.2.1, Value.int .i64 x7.2.1.2.1.2.2.2.2.1, Value.int .i64 x7.2.1.2.1.2.2.2.2.2], Aa, Aa, ⟨[Value.int .i64 x7.2.1.2.1.2.1.1, Value.int .i64 x7.2.1.2.1.2.1.2.1, Value.int .i64 x7.2.1.2.1.2.1.2.2.1, Value.int .i64 x7.2.1.2.1.2.1.2.2.2], [Value.int .i64 x7.2.1.2.1.2.2.1, Value.int .i64 x7.2.1.2.1.2.2.2.1, Value.int .i64 x7.2.1.2.1.2.2.2.2.1, Value.int .i64 x7.2.1.2.1.2.2.2.2.2], Aa, ⟨[Value.int .i64 x7.2.1.2.1.2.1.1], [Value.int .i64 x7.2.1.2.1.2.1.2.1, Value.int .i64 x7.2.1.2.1.2.1.2.2.1, Value.int .i64 x7.2.1.2.1.2.1.2.2.2], Aa, Aa, ⟨[Value.int .i64 x7.2.1.2.1.2.1.2.1], [Value.int .i64 x7.2.1.2.1.2.1.2.2.1, Value.int .i64 x7.2.1.2.1.2.1.2.2.2], Aa, Aa, ⟨[Value.int .i64 x7.2.1.2.1.2.1.2.2.1], [Value.int .i64 x7.2.1.2.1.2.1.2.2.2], Aa, Aa, Aa⟩⟩⟩, ⟨[Value.int .i64 x7.2.1.2.1.2.2.1], [Value.int .i64 x7.2.1.2.1.2.2.2.1, Value.int .i64 x7.2.1.2.1.2.2.2.2.1, Value.int .i64 x7.2.1.2.1.2.2.2.2.2], Aa, Aa, ⟨[Value.int .i64 x7.2.1.2.1.2.2.2.1], [Value.int .i64 x7.2.1.2.1.2.2.2.2.1, Value.int .i64 x7.2.1.2.1.2.2.2.2.2], Aa, Aa, ⟨[Value.int .i64 x7.2.1.2.1.2.2.2.2.1], [Value.int .i64 x7.2.1.2.1.2.2.2.2.2], Aa, Aa, Aa⟩⟩⟩⟩⟩, ⟨_, Aa, (W.item (i := 0) Aa)⟩⟩⟩, Aa⟩⟩, Aa⟩ fun v9 a w F W => ?_
   have W := W.frontZ (i := 4) Aa Aa
   have W := W.hideR FW h4
   obtain ⟨x8, h13, H⟩ := Ah H
   refine JR (r := F2) (i := 0) F W Aa NN Aa Aa Aa Aa (Oh W 1 Aa) h13 Aa fun v10 a w F W => ?_
   have W : Stw ⟨Y, X, w0⟩ [(b1, [.bool x6.1, .int .i64 x6.2.1, .int .i64 x6.2.2.1.1, .int .i64 x6.2.2.1.2.1.1, .int .i64 x6.2.2.1.2.1.2.1.1, .int .i64 x6.2.2.1.2.1.2.1.2.1, .int .i64 x6.2.2.1.2.1.2.1.2.2.1, .int .i64 x6.2.2.1.2.1.2.1.2.2.2, .int .i64 x6.2.2.1.2.1.2.2.1, .int .i64 x6.2.2.1.2.1.2.2.2.1, .int .i64 x6.2.2.1.2.1.2.2.2.2.1, .int .i64 x6.2.2.1.2.1.2.2.2.2.2, (v7.2.2.1.2.2.1), .bool x6.2.2.2])] [row v10 39 F2 x8, row v9 39 F2 ([x7] : List (Int × (Int × (Int × (Int × Int × Int × Int) × (Int × Int × Int × Int)) × (List (Int × Int × Int))) × Bool)), BD v8 Bl x7.2.1.2.2, BD (v7.2.2.1.2.2.1) Bl x6.2.2.1.2.2, Be q_p0 KH 16 (p0.1, v5)] w := W
   refine vl tk 2 F W fun a w F W => ?_
   refine AV ?_
   refine vn tk 4 F W fun a w F W => ?_
   refine Ad ?_
   have W := W.frontZ (i := 4) Aa Aa
   have W := W.hideP Dx h5
   have W := W.frontZ (i := 1) Aa Aa
   have W := W.sub (M' := []) (Z' := [row v10 39 F2 x8, Be q_p0 Bn 16 p0]) (List.nil_sublist _) (List.Sublist.cons_cons _ (List.Sublist.cons_cons _ (List.nil_sublist _)))
   exact ⟨_, H, (v10), F.ra Aa, W⟩
  refine Bz ?_
  iterate 2 refine B7 ?_
  refine BC (Ad ?_)
  have W := W.frontZ (i := 1) Aa Aa
  have W := W.frontZ (i := 1) Aa Aa
  have H := L2 _ H
  exact ⟨_, (v3), H, F.ra Aa, W⟩
 rintro a w ⟨x1, v1, hj, F, W⟩
 have hj := Aw hj
 subst hj
 have H := K1
 clear G1 K1
 refine vc tk 6 F W fun a w F W => ?_
 refine Al ?_
 have H := Aw H
 subst H
 refine Aq (.inl Aa) F W Aa (Ak F Aa) ?_
 have W := W.frontZ (i := 1) Aa Aa
 exact ⟨(v1), Aa, W⟩
theorem QP : Has Try.prog 20 := B3 Try.func20
abbrev Gj (a : Int × (Int × (Int × (Int × Int × Int × Int) × (Int × Int × Int × Int)) × (Value × List (Int × Int × Int))) × Bool) : List Value := [.int .i64 a.1, .int .i64 a.2.1.1, .int .i64 a.2.1.2.1.1, .int .i64 a.2.1.2.1.2.1.1, .int .i64 a.2.1.2.1.2.1.2.1, .int .i64 a.2.1.2.1.2.1.2.2.1, .int .i64 a.2.1.2.1.2.1.2.2.2, .int .i64 a.2.1.2.1.2.2.1, .int .i64 a.2.1.2.1.2.2.2.1, .int .i64 a.2.1.2.1.2.2.2.2.1, .int .i64 a.2.1.2.1.2.2.2.2.2, a.2.1.2.2.1, .bool a.2.2]
theorem Kg : DT Hp Gj := (DT.pair Fl.int.to (DT.pair (DT.pair Fl.int.to (DT.pair QM.to DT.vsl)) Fl.bool.to))
noncomputable def DJ (p0 : List (Int × Int × Int)) (p1 : List (Int × Int × Int)) : Int → Option (Int ⊕ (Unit ⊕ Bool))
  | x1 => (if x1 < (p0.length : Int) then (ix p0 x1).bind fun x2 => (ix p1 x1).bind fun x3 => (if (!(decide (x2.1 = x3.1 ∧ x2.2.1 = x3.2.1 ∧ x2.2.2 = x3.2.2))) = true then some (.inr (.inr false)) else some (.inl (Cs (x1 + 1)))) else some (.inr (.inl ())))
noncomputable def EL (p0 : List (Int × Int × Int)) (p1 : List (Int × Int × Int)) : Option Bool := (if (p0.length : Int) ≠ (p1.length : Int) then some false else Fu (AJ (DJ p0 p1) 0) fun _ => some true)
theorem KM (Y : Nat → Prop) (w0 : World) (v1 : Value) (v2 : Value) (p0 : List (Int × Int × Int)) (p1 : List (Int × Int × Int)) (r : Bool) (H : EL p0 p1 = some r) (h_v1 : Sl w0 (NX []) Bl v1 p0) (h_v2 : Sl w0 (NX []) Bl v2 p1) :
    Calls Try.prog 45 #[v1, v2] w0 fun e w' => e = .returned (.bool r) ∧ Below w0.heap.size w0 w' := by
 refine enter Try.func45 Aa Try.ntmps45 Aa fun a F => ?_
 have W := Stw.start Y w0
 unfold EL at H
 refine vc tk 9 F W fun a w F W => ?_
 refine ls F W Aa (BQ (r := Bl) (l := p0) HC Aa F Aa (Aj h_v1)).q fun a w F W => ?_
 refine ls F W Aa (Am F Aa).q fun a w F W => ?_
 refine ls F W Aa (BQ (r := Bl) (l := p1) HC Aa F Aa (Aj h_v2)).q fun a w F W => ?_
 refine BV tk 3 F W fun a w F W => ?_
 refine Br F Aa H (fun F H => ?_) fun F H => ?_
 ·
  refine vc tk 5 F W fun a w F W => ?_
  refine Al (Ap ?_)
  have H := Aw H
  subst H
  refine Aq (.inl Aa) F W Aa (Ak F Aa) ?_
  exact ⟨rfl, W.done⟩
 refine AH (Ad ?_)
 obtain ⟨o1, G1, K1, L1⟩ := IZ H
 refine AC (fun a w => some (Sum.inl ()) = some o1 ∧ Fr 26 [] [(4, .bool false)] a ∧ Stw ⟨Y, [], w0⟩ [] [] w) ?_ ?_
 ·
  have H := G1
  clear G1 K1
  refine vc tk 6 F W fun a w F W => ?_
  refine BI H (fun s a w => Fr 26 [] [(0, v1), (1, v2), (4, .bool false), (5, .int .i64 s)] a ∧ Stw ⟨Y, [], w0⟩ [] [] w) ⟨F.ra Aa, W⟩ fun s o a w H L2 hR => ?_
  obtain ⟨x1, rfl⟩ : ∃ x, x = s := ⟨s, rfl⟩
  obtain ⟨F, W⟩ := hR
  have F : Fr 26 [] [(0, v1), (1, v2), (4, .bool false), (5, .int .i64 x1)] a := F
  have W : Stw ⟨Y, [], w0⟩ [] [] w := W
  rw [DJ] at H
  refine vc tk 5 F W fun a w F W => ?_
  refine ls F W Aa (BQ (r := Bl) (l := p0) HC Aa F Aa (Aj h_v1)).q fun a w F W => ?_
  refine BV tk 3 F W fun a w F W => ?_
  refine Br F Aa H (fun F H => ?_) fun F H => ?_
  ·
   refine E8 tk 5 F W fun a w F W => ?_
   refine CV W MO (by kernel_rfl) ?_
   iterate 2 refine qs F Aa (Am F Aa).q fun a F => ?_
   obtain ⟨x2, h1, H⟩ := Ah H
   refine qs F Aa (A8 (r := Bl) Oe F Aa Aa (Aj h_v1) h1).q fun a F => ?_
   refine qs F Aa (AE (y := Value.agg #[.int .i64 x2.1, .int .i64 x2.2.1, .int .i64 x2.2.2]) (j := 0) (i := x1) F Aa Aa (Aj h_v1) h1 OE.to O2 Aa).q fun a F => ?_
   iterate 2 refine qs F Aa (Am F Aa).q fun a F => ?_
   obtain ⟨x3, h2, H⟩ := Ah H
   refine qs F Aa (A8 (r := Bl) Oe F Aa Aa (Aj h_v2) h2).q fun a F => ?_
   refine qs F Aa (AE (y := Value.agg #[.int .i64 x3.1, .int .i64 x3.2.1, .int .i64 x3.2.2]) (j := 0) (i := x1) F Aa Aa (Aj h_v2) h2 OE.to O2 Aa).q fun a F => ?_
   refine qs F Aa (ME (t := decide (x2.1 = x3.1 ∧ x2.2.1 = x3.2.1 ∧ x2.2.2 = x3.2.2)) Rj (Rq _ _ _ _ _ _) F Aa Aa).q fun a F => ?_
   refine AM fun w W => ?_
   refine Ad ?_
   refine B8 F Aa H (fun F H => ?_) fun F H => ?_
   ·
    refine vc tk 5 F W fun a w F W => ?_
    refine Al (Az ?_)
    iterate 2 refine Ap ?_
    refine Az (Ap ?_)
    have H := L2 _ H
    have H := L1 _ H
    have H := Aw H
    subst H
    refine Aq (.inl Aa) F W Aa (Ak F Aa) ?_
    exact ⟨rfl, W.done⟩
   refine AH (AV ?_)
   refine vn tk 5 F W fun a w F W => ?_
   refine Ad ?_
   exact ⟨_, H, F.ra Aa, W⟩
  refine Bz ?_
  iterate 2 refine B7 ?_
  refine BC (Ad ?_)
  have H := L2 _ H
  exact ⟨H, F.ra Aa, W⟩
 rintro a w ⟨hj, F, W⟩
 have H := K1 _ hj
 clear hj G1 K1 L1
 refine vc tk 5 F W fun a w F W => ?_
 refine Al ?_
 have H := Aw H
 subst H
 refine Aq (.inl Aa) F W Aa (Ak F Aa) ?_
 exact ⟨rfl, W.done⟩
theorem R3 : Has Try.prog 45 := B3 Try.func45
noncomputable def Ek (p0 : Int × (Int × (Int × Int × Int × Int) × (Int × Int × Int × Int)) × (List (Int × Int × Int))) (p1 : Int × (Int × (Int × Int × Int × Int) × (Int × Int × Int × Int)) × (List (Int × Int × Int))) : Option Bool := (if p0.1 = p1.1 then (if p0.2.1.1 = p1.2.1.1 ∧ p0.2.1.2.1.1 = p1.2.1.2.1.1 ∧ p0.2.1.2.1.2.1 = p1.2.1.2.1.2.1 ∧ p0.2.1.2.1.2.2.1 = p1.2.1.2.1.2.2.1 ∧ p0.2.1.2.1.2.2.2 = p1.2.1.2.1.2.2.2 ∧ p0.2.1.2.2.1 = p1.2.1.2.2.1 ∧ p0.2.1.2.2.2.1 = p1.2.1.2.2.2.1 ∧ p0.2.1.2.2.2.2.1 = p1.2.1.2.2.2.2.1 ∧ p0.2.1.2.2.2.2.2 = p1.2.1.2.2.2.2.2 then (EL p0.2.2 p1.2.2).bind fun x2 => some x2 else some false) else some false).bind fun x1 => some x1
theorem Ib (Y : Nat → Prop) (w0 : World) (v1 : Value) (v2 : Value) (p0 : Int × (Int × (Int × Int × Int × Int) × (Int × Int × Int × Int)) × (List (Int × Int × Int))) (p1 : Int × (Int × (Int × Int × Int × Int) × (Int × Int × Int × Int)) × (List (Int × Int × Int))) (r : Bool) (H : Ek p0 p1 = some r) (h_v1 : Sl w0 (NX []) Bl v1 p0.2.2) (h_v2 : Sl w0 (NX []) Bl v2 p1.2.2) :
    Calls Try.prog 35 #[.agg #[.int .i64 p0.1, .int .i64 p0.2.1.1, .int .i64 p0.2.1.2.1.1, .int .i64 p0.2.1.2.1.2.1, .int .i64 p0.2.1.2.1.2.2.1, .int .i64 p0.2.1.2.1.2.2.2, .int .i64 p0.2.1.2.2.1, .int .i64 p0.2.1.2.2.2.1, .int .i64 p0.2.1.2.2.2.2.1, .int .i64 p0.2.1.2.2.2.2.2, v1], .agg #[.int .i64 p1.1, .int .i64 p1.2.1.1, .int .i64 p1.2.1.2.1.1, .int .i64 p1.2.1.2.1.2.1, .int .i64 p1.2.1.2.1.2.2.1, .int .i64 p1.2.1.2.1.2.2.2, .int .i64 p1.2.1.2.2.1, .int .i64 p1.2.1.2.2.2.1, .int .i64 p1.2.1.2.2.2.2.1, .int .i64 p1.2.1.2.2.2.2.2, v2]] w0 fun e w' => e = .returned (.bool r) ∧ Below w0.heap.size w0 w' := by
 refine enter Try.func35 Aa Try.ntmps35 Aa fun a F => ?_
 have W := Stw.start Y w0
 unfold Ek at H
 refine vc tk 2 F W fun a w F W => ?_
 refine B1 (cs := (Ed p0 v1)) F W Aa Aa Aa fun b1 a w F W => ?_
 refine B1 (cs := (Ed p1 v2)) F W Aa Aa Aa fun b2 a w F W => ?_
 refine vl tk 2 F W fun a w F W => ?_
 refine Ad ?_
 obtain ⟨o1, G1, K1⟩ := Ah H
 refine AC (fun a w => ∃ x1 : Bool, some (x1) = some o1 ∧ Fr 24 [] [(4, .bool x1)] a ∧ Stw ⟨Y, [], w0⟩ (NV b2 p1 v2 b1 p0 v1) [] w) ?_ ?_
 ·
  have H := G1
  clear G1 K1
  refine Gh tk 7 [1, 0] F W (ai (ai fun a w F W => ?_))
  rcases Bool.eq_false_or_eq_true (decide (p0.1 = p1.1)) with hb | hb
  ·
   have H := BW (Ci hb) H
   rw [hb] at F
   clear hb
   refine GY tk 4 [1, 0] F W (ai (ai fun a w F W => ?_))
   refine EC F W (Ag F Aa Aa Aa Aa) Aa (Ax Aa) (Lg (t := decide (p0.2.1.1 = p1.2.1.1 ∧ p0.2.1.2.1.1 = p1.2.1.2.1.1 ∧ p0.2.1.2.1.2.1 = p1.2.1.2.1.2.1 ∧ p0.2.1.2.1.2.2.1 = p1.2.1.2.1.2.2.1 ∧ p0.2.1.2.1.2.2.2 = p1.2.1.2.1.2.2.2 ∧ p0.2.1.2.2.1 = p1.2.1.2.2.1 ∧ p0.2.1.2.2.2.1 = p1.2.1.2.2.2.1 ∧ p0.2.1.2.2.2.2.1 = p1.2.1.2.2.2.2.1 ∧ p0.2.1.2.2.2.2.2 = p1.2.1.2.2.2.2.2)) Qf (Ql _ _ _ _ _ _ _ _ _ _ _ _ _ _ _ _ _ _) F Aa Aa).q fun a w F W => ?_
   refine vl tk 2 F W fun a w F W => ?_
   rcases Bool.eq_false_or_eq_true (decide (p0.2.1.1 = p1.2.1.1 ∧ p0.2.1.2.1.1 = p1.2.1.2.1.1 ∧ p0.2.1.2.1.2.1 = p1.2.1.2.1.2.1 ∧ p0.2.1.2.1.2.2.1 = p1.2.1.2.1.2.2.1 ∧ p0.2.1.2.1.2.2.2 = p1.2.1.2.1.2.2.2 ∧ p0.2.1.2.2.1 = p1.2.1.2.2.1 ∧ p0.2.1.2.2.2.1 = p1.2.1.2.2.2.1 ∧ p0.2.1.2.2.2.2.1 = p1.2.1.2.2.2.2.1 ∧ p0.2.1.2.2.2.2.2 = p1.2.1.2.2.2.2.2)) with hb | hb
   ·
    have H := BW (Ci hb) H
    rw [hb] at F
    clear hb
    refine GY tk 4 [1, 0] F W (ai (ai fun a w F W => ?_))
    refine Fg (Ag F Aa Aa Aa Aa) ?_
    obtain ⟨x2, h1, H⟩ := Ah H
    refine ls F W Aa (AU (v := Value.bool x2) F R3 Aa (fun w W => KM any w (v1) (v2) p0.2.2 p1.2.2 _ h1 (CY (Aj h_v1) W) (CY (Aj h_v2) W))) fun a w F W => ?_
    refine vl tk 3 F W fun a w F W => ?_
    refine Ad ?_
    have W := W.frontM (i := 1) Aa Aa
    have W := W.frontM (i := 1) Aa Aa
    exact ⟨_, H, F.ra Aa, W⟩
   have H := BX (Ch hb) H
   rw [hb] at F
   clear hb
   refine vl tk 8 F W fun a w F W => ?_
   refine Ad ?_
   have W := W.frontM (i := 1) Aa Aa
   have W := W.frontM (i := 1) Aa Aa
   exact ⟨_, H, F.ra Aa, W⟩
  have H := BX (Ch hb) H
  rw [hb] at F
  clear hb
  refine vl tk 15 F W fun a w F W => ?_
  refine Ad ?_
  have W := W.frontM (i := 1) Aa Aa
  have W := W.frontM (i := 1) Aa Aa
  exact ⟨_, H, F.ra Aa, W⟩
 rintro a w ⟨x1, hj, F, W⟩
 have hj := Aw hj
 subst hj
 have H := K1
 clear G1 K1
 refine Al ?_
 have H := Aw H
 subst H
 refine Aq (.inl Aa) F W Aa (Ak F Aa) ?_
 exact ⟨rfl, W.done⟩
theorem Rd : Has Try.prog 35 := B3 Try.func35
noncomputable def DS (p0 : Int × (Int × (Int × (Int × Int × Int × Int) × (Int × Int × Int × Int)) × (List (Int × Int × Int))) × Bool) (p1 : Int × (Int × (Int × (Int × Int × Int × Int) × (Int × Int × Int × Int)) × (List (Int × Int × Int))) × Bool) : Option Bool := (if p0.1 = p1.1 then (if p0.2.2 = p1.2.2 then (Ek p0.2.1 p1.2.1).bind fun x2 => some x2 else some false) else some false).bind fun x1 => some x1
theorem GK (Y : Nat → Prop) (w0 : World) (v1 : Value) (v2 : Value) (p0 : Int × (Int × (Int × (Int × Int × Int × Int) × (Int × Int × Int × Int)) × (List (Int × Int × Int))) × Bool) (p1 : Int × (Int × (Int × (Int × Int × Int × Int) × (Int × Int × Int × Int)) × (List (Int × Int × Int))) × Bool) (r : Bool) (H : DS p0 p1 = some r) (h_v1 : Sl w0 (NX []) Bl v1 p0.2.1.2.2) (h_v2 : Sl w0 (NX []) Bl v2 p1.2.1.2.2) :
    Calls Try.prog 26 #[.agg #[.int .i64 p0.1, .int .i64 p0.2.1.1, .int .i64 p0.2.1.2.1.1, .int .i64 p0.2.1.2.1.2.1.1, .int .i64 p0.2.1.2.1.2.1.2.1, .int .i64 p0.2.1.2.1.2.1.2.2.1, .int .i64 p0.2.1.2.1.2.1.2.2.2, .int .i64 p0.2.1.2.1.2.2.1, .int .i64 p0.2.1.2.1.2.2.2.1, .int .i64 p0.2.1.2.1.2.2.2.2.1, .int .i64 p0.2.1.2.1.2.2.2.2.2, v1, .bool p0.2.2], .agg #[.int .i64 p1.1, .int .i64 p1.2.1.1, .int .i64 p1.2.1.2.1.1, .int .i64 p1.2.1.2.1.2.1.1, .int .i64 p1.2.1.2.1.2.1.2.1, .int .i64 p1.2.1.2.1.2.1.2.2.1, .int .i64 p1.2.1.2.1.2.1.2.2.2, .int .i64 p1.2.1.2.1.2.2.1, .int .i64 p1.2.1.2.1.2.2.2.1, .int .i64 p1.2.1.2.1.2.2.2.2.1, .int .i64 p1.2.1.2.1.2.2.2.2.2, v2, .bool p1.2.2]] w0 fun e w' => e = .returned (.bool r) ∧ Below w0.heap.size w0 w' := by
 refine enter Try.func26 Aa Try.ntmps26 Aa fun a F => ?_
 have W := Stw.start Y w0
 unfold DS at H
 refine vc tk 2 F W fun a w F W => ?_
 refine B1 (cs := (HF p0 v1)) F W Aa Aa Aa fun b1 a w F W => ?_
 refine B1 (cs := (HF p1 v2)) F W Aa Aa Aa fun b2 a w F W => ?_
 refine vl tk 2 F W fun a w F W => ?_
 refine Ad ?_
 obtain ⟨o1, G1, K1⟩ := Ah H
 refine AC (fun a w => ∃ x1 : Bool, some (x1) = some o1 ∧ Fr 24 [] [(4, .bool x1)] a ∧ Stw ⟨Y, [], w0⟩ (OV b2 p1 v2 b1 p0 v1) [] w) ?_ ?_
 ·
  have H := G1
  clear G1 K1
  refine Gh tk 7 [1, 0] F W (ai (ai fun a w F W => ?_))
  rcases Bool.eq_false_or_eq_true (decide (p0.1 = p1.1)) with hb | hb
  ·
   have H := BW (Ci hb) H
   rw [hb] at F
   clear hb
   refine GY tk 4 [1, 0] F W (ai (ai fun a w F W => ?_))
   refine EC F W (Ag F Aa Aa Aa Aa) Aa (Ax Aa) (OX Rh F Aa Aa).q fun a w F W => ?_
   refine vl tk 2 F W fun a w F W => ?_
   rcases Bool.eq_false_or_eq_true (decide (p0.2.2 = p1.2.2)) with hb | hb
   ·
    have H := BW (Ci hb) H
    rw [hb] at F
    clear hb
    refine GY tk 4 [1, 0] F W (ai (ai fun a w F W => ?_))
    refine Fg (Ag F Aa Aa Aa Aa) ?_
    obtain ⟨x2, h1, H⟩ := Ah H
    refine ls F W Aa (AU (v := Value.bool x2) F Rd Aa (fun w W => Ib any w (v1) (v2) p0.2.1 p1.2.1 _ h1 (CY (Aj h_v1) W) (CY (Aj h_v2) W))) fun a w F W => ?_
    refine vl tk 3 F W fun a w F W => ?_
    refine Ad ?_
    have W := W.frontM (i := 1) Aa Aa
    have W := W.frontM (i := 1) Aa Aa
    exact ⟨_, H, F.ra Aa, W⟩
   have H := BX (Ch hb) H
   rw [hb] at F
   clear hb
   refine vl tk 8 F W fun a w F W => ?_
   refine Ad ?_
   have W := W.frontM (i := 1) Aa Aa
   have W := W.frontM (i := 1) Aa Aa
   exact ⟨_, H, F.ra Aa, W⟩
  have H := BX (Ch hb) H
  rw [hb] at F
  clear hb
  refine vl tk 15 F W fun a w F W => ?_
  refine Ad ?_
  have W := W.frontM (i := 1) Aa Aa
  have W := W.frontM (i := 1) Aa Aa
  exact ⟨_, H, F.ra Aa, W⟩
 rintro a w ⟨x1, hj, F, W⟩
 have hj := Aw hj
 subst hj
 have H := K1
 clear G1 K1
 refine Al ?_
 have H := Aw H
 subst H
 refine Aq (.inl Aa) F W Aa (Ak F Aa) ?_
 exact ⟨rfl, W.done⟩
end Go.Proofs.Ytfnmlmglmegamaa
