/- The functions of layer 12, FK. Conditions: none. -/
import Derived.Test.YtfnmlmglmegamaabA0
namespace Go.Proofs.Ytfnmlmglmegamaa
open Go Go.RowKit
set_option linter.unusedVariables false
set_option linter.unusedSimpArgs false
set_option maxRecDepth 20000
theorem Sr : Has Try.prog 41 := BV Try.func41
abbrev Fa (a0 : Int × (Int × (Int × (Int × Int × Int × Int) × (Int × Int × Int × Int)) × (List (Int × Int × Int))) × Bool) (a1 : Value) : List Value := [.int .i64 a0.1, .int .i64 a0.2.1.1, .int .i64 a0.2.1.2.1.1, .int .i64 a0.2.1.2.1.2.1.1, .int .i64 a0.2.1.2.1.2.1.2.1, .int .i64 a0.2.1.2.1.2.1.2.2.1, .int .i64 a0.2.1.2.1.2.1.2.2.2, .int .i64 a0.2.1.2.1.2.2.1, .int .i64 a0.2.1.2.1.2.2.2.1, .int .i64 a0.2.1.2.1.2.2.2.2.1, .int .i64 a0.2.1.2.1.2.2.2.2.2, a1, .bool a0.2.2]
abbrev I8  : List Value := [.int .i64 0, .int .i64 0, .int .i64 0, .int .i64 0, .int .i64 0, .int .i64 0, .int .i64 0, .int .i64 0, .int .i64 0, .int .i64 0, .int .i64 0, .slice none 0 0, .bool false]
abbrev Qb (a0 : Nat) (a1 : Nat) (a2 : Int × (Int × (Int × (Int × Int × Int × Int) × (Int × Int × Int × Int)) × (List (Int × Int × Int))) × Bool) (a3 : Value) : List (Nat × List Value) := [(a0, [.int .i64 0, .int .i64 0, .int .i64 0, .int .i64 0, .int .i64 0, .int .i64 0, .int .i64 0, .int .i64 0, .int .i64 0, .int .i64 0, .int .i64 0, .slice none 0 0, .bool false]), (a1, [.int .i64 a2.1, .int .i64 a2.2.1.1, .int .i64 a2.2.1.2.1.1, .int .i64 a2.2.1.2.1.2.1.1, .int .i64 a2.2.1.2.1.2.1.2.1, .int .i64 a2.2.1.2.1.2.1.2.2.1, .int .i64 a2.2.1.2.1.2.1.2.2.2, .int .i64 a2.2.1.2.1.2.2.1, .int .i64 a2.2.1.2.1.2.2.2.1, .int .i64 a2.2.1.2.1.2.2.2.2.1, .int .i64 a2.2.1.2.1.2.2.2.2.2, a3, .bool a2.2.2])]
noncomputable def CS (p0 : Int × (Int × (Int × (Int × Int × Int × Int) × (Int × Int × Int × Int)) × (List (Int × Int × Int))) × Bool) : Option (Int × (Int × (Int × (Int × Int × Int × Int) × (Int × Int × Int × Int)) × (List (Int × Int × Int))) × Bool) := (A8 p0.2.1.2.2).bind fun x1 => some (p0.1, (p0.2.1.1, p0.2.1.2.1, x1), p0.2.2)
theorem Gy (Y : Nat → Prop) (w0 : World) (v1 : Value) (p0 : Int × (Int × (Int × (Int × Int × Int × Int) × (Int × Int × Int × Int)) × (List (Int × Int × Int))) × Bool) (r : (Int × (Int × (Int × (Int × Int × Int × Int) × (Int × Int × Int × Int)) × (List (Int × Int × Int))) × Bool)) (H : CS p0 = some r) (s_v1 : Sl w0 Y Bk v1 p0.2.1.2.2) :
    Calls Try.prog 27 #[.agg #[.int .i64 p0.1, .int .i64 p0.2.1.1, .int .i64 p0.2.1.2.1.1, .int .i64 p0.2.1.2.1.2.1.1, .int .i64 p0.2.1.2.1.2.1.2.1, .int .i64 p0.2.1.2.1.2.1.2.2.1, .int .i64 p0.2.1.2.1.2.1.2.2.2, .int .i64 p0.2.1.2.1.2.2.1, .int .i64 p0.2.1.2.1.2.2.2.1, .int .i64 p0.2.1.2.1.2.2.2.2.1, .int .i64 p0.2.1.2.1.2.2.2.2.2, v1, .bool p0.2.2]] w0 fun e w' => ∃ x : Value, e = .returned (.agg #[.int .i64 r.1, .int .i64 r.2.1.1, .int .i64 r.2.1.2.1.1, .int .i64 r.2.1.2.1.2.1.1, .int .i64 r.2.1.2.1.2.1.2.1, .int .i64 r.2.1.2.1.2.1.2.2.1, .int .i64 r.2.1.2.1.2.1.2.2.2, .int .i64 r.2.1.2.1.2.2.1, .int .i64 r.2.1.2.1.2.2.2.1, .int .i64 r.2.1.2.1.2.2.2.2.1, .int .i64 r.2.1.2.1.2.2.2.2.2, x, .bool r.2.2]) ∧ Stw ⟨Y, [], w0⟩ [] [row (x) 88 Bk r.2.1.2.2] w' := by
 refine enter Try.func27 Aa Try.ntmps27 Aa fun a F => ?_
 have W := Stw.start Y w0
 have h_v1 := W.nx s_v1
 unfold CS at H
 refine vc tk 2 F W fun a w F W => ?_
 refine BR (cs := (Fa p0 v1)) F W Aa Aa Aa fun b1 a w F W => ?_
 refine Ca (cs := (I8)) F W Aa Pn Aa fun b2 a w F W => ?_
 refine Eo tk 7 [1] F W (ai fun a w F W => ?_)
 obtain ⟨x1, h1, H⟩ := Af H
 refine AA (Ml := []) (Zl := []) (β := Value) (rv := fun x => x) (MM := fun x => []) (ZZ := fun x => [row x 88 Bk x1]) F W Sr Aa Aa (fun hL => Di _ w (v1) p0.2.1.2.2 _ h1 (W.old s_v1)) fun x a w F W => ?_
 obtain ⟨v2, rfl⟩ : ∃ y, y = x := ⟨x, rfl⟩
 have W : Stw ⟨Y, [], w0⟩ (Qb b2 b1 p0 v1) [row v2 88 Bk x1] w := W
 refine vl tk 2 F W fun a w F W => ?_
 refine HU (M' := (Qb b2 b1 p0 v2)) 1 F W Aa Aa Aa Nt (W.one (k := 0) Aa) Aa Aa fun w W => ?_
 refine Eo tk 5 [1] F W (ai fun a w F W => ?_)
 refine Dh 0 F W Aa Aa Aa Hd Aa Aa (Ac Aa (Ac Aa (Ac Aa (Ac Aa (Ac Aa (Ac Aa (Ac Aa (Ac Aa (Ac Aa (Ac Aa (Ac Aa (Ac (W.one (k := 0) Aa) (Ac Aa Cr))))))))))))) fun w W => ?_
 refine BJ tk 2 F W fun a w F W => ?_
 refine Al ?_
 have H := Av H
 subst H
 refine Aw (.inl Aa) F W Aa (Dp 0 F Aa Aa Hd Aa) ?_
 have W := W.sub (M' := []) (Z' := [row v2 88 Bk x1]) (List.nil_sublist _) (List.Sublist.refl _)
 exact ⟨(v2), Aa, W⟩
theorem Qp : type_of% Try.underlying68 := Try.underlying68
theorem SP : Has Try.prog 27 := BV Try.func27
theorem TI : Bt Try.prog 68 [.bool false, .int .i64 0, .int .i64 0, .int .i64 0, .int .i64 0, .int .i64 0, .int .i64 0, .int .i64 0, .int .i64 0, .int .i64 0, .int .i64 0, .int .i64 0, .slice none 0 0, .bool false] [(0, 1), (1, 13)] := ⟨⟨.agg #[.bool false, .int .i64 0, .int .i64 0, .int .i64 0, .int .i64 0, .int .i64 0, .int .i64 0, .int .i64 0, .int .i64 0, .int .i64 0, .int .i64 0, .int .i64 0, .slice none 0 0, .bool false], by kernel_rfl, rfl⟩, ⟨_, Qp, fun w => by kernel_rfl⟩⟩
theorem QZ : Ty Try.prog 68 true 14 := ⟨by kernel_rfl, by kernel_rfl⟩
def ED (p0 : Int × (Int × (Int × Int × Int × Int) × (Int × Int × Int × Int)) × (List (Int × Int × Int))) (p1 : Int × (Int × (Int × Int × Int × Int) × (Int × Int × Int × Int)) × (List (Int × Int × Int))) : Bool := (decide (p0.1 = p1.1) && decide (p0.2.1.1 = p1.2.1.1 ∧ p0.2.1.2.1.1 = p1.2.1.2.1.1 ∧ p0.2.1.2.1.2.1 = p1.2.1.2.1.2.1 ∧ p0.2.1.2.1.2.2.1 = p1.2.1.2.1.2.2.1 ∧ p0.2.1.2.1.2.2.2 = p1.2.1.2.1.2.2.2 ∧ p0.2.1.2.2.1 = p1.2.1.2.2.1 ∧ p0.2.1.2.2.2.1 = p1.2.1.2.2.2.1 ∧ p0.2.1.2.2.2.2.1 = p1.2.1.2.2.2.2.1 ∧ p0.2.1.2.2.2.2.2 = p1.2.1.2.2.2.2.2))
theorem I2 (Y : Nat → Prop) (w0 : World) (v1 : Value) (v2 : Value) (p0 : Int × (Int × (Int × Int × Int × Int) × (Int × Int × Int × Int)) × (List (Int × Int × Int))) (p1 : Int × (Int × (Int × Int × Int × Int) × (Int × Int × Int × Int)) × (List (Int × Int × Int))) (r : Bool) (H : ED p0 p1 = r) (h_v1 : Sl w0 (NX []) Bk v1 p0.2.2) (h_v2 : Sl w0 (NX []) Bk v2 p1.2.2) :
    Calls Try.prog 59 #[.agg #[.int .i64 p0.1, .int .i64 p0.2.1.1, .int .i64 p0.2.1.2.1.1, .int .i64 p0.2.1.2.1.2.1, .int .i64 p0.2.1.2.1.2.2.1, .int .i64 p0.2.1.2.1.2.2.2, .int .i64 p0.2.1.2.2.1, .int .i64 p0.2.1.2.2.2.1, .int .i64 p0.2.1.2.2.2.2.1, .int .i64 p0.2.1.2.2.2.2.2, v1], .agg #[.int .i64 p1.1, .int .i64 p1.2.1.1, .int .i64 p1.2.1.2.1.1, .int .i64 p1.2.1.2.1.2.1, .int .i64 p1.2.1.2.1.2.2.1, .int .i64 p1.2.1.2.1.2.2.2, .int .i64 p1.2.1.2.2.1, .int .i64 p1.2.1.2.2.2.1, .int .i64 p1.2.1.2.2.2.2.1, .int .i64 p1.2.1.2.2.2.2.2, v2]] w0 fun e w' => e = .returned (.bool r) ∧ Below w0.heap.size w0 w' := by
 refine enter Try.func59 Aa Try.ntmps59 Aa fun a F => ?_
 have W := Stw.start Y w0
 unfold ED at H
 refine vc tk 2 F W fun a w F W => ?_
 refine BR (cs := (DZ p0 v1)) F W Aa Aa Aa fun b1 a w F W => ?_
 refine BR (cs := (DZ p1 v2)) F W Aa Aa Aa fun b2 a w F W => ?_
 refine BJ tk 3 F W fun a w F W => ?_
 refine Au (fun a w => Fr 17 [] [(4, .bool (decide (p0.1 = p1.1) && decide (p0.2.1.1 = p1.2.1.1 ∧ p0.2.1.2.1.1 = p1.2.1.2.1.1 ∧ p0.2.1.2.1.2.1 = p1.2.1.2.1.2.1 ∧ p0.2.1.2.1.2.2.1 = p1.2.1.2.1.2.2.1 ∧ p0.2.1.2.1.2.2.2 = p1.2.1.2.1.2.2.2 ∧ p0.2.1.2.2.1 = p1.2.1.2.2.1 ∧ p0.2.1.2.2.2.1 = p1.2.1.2.2.2.1 ∧ p0.2.1.2.2.2.2.1 = p1.2.1.2.2.2.2.1 ∧ p0.2.1.2.2.2.2.2 = p1.2.1.2.2.2.2.2)))] a ∧ Stw ⟨Y, [], w0⟩ (OD b2 p1 v2 b1 p0 v1) [] w) ?_ ?_
 ·
  refine Fq tk 7 [1, 0] F W (ai (ai fun a w F W => ?_))
  rcases Bool.eq_false_or_eq_true (decide (p0.1 = p1.1)) with hb0 | hb0
  ·
   rw [hb0] at F
   refine Fu tk 4 [1, 0] F W (ai (ai fun a w F W => ?_))
   refine FE F W (Ae F Aa Aa Aa Aa) Aa (As Aa) (KU (t := decide (p0.2.1.1 = p1.2.1.1 ∧ p0.2.1.2.1.1 = p1.2.1.2.1.1 ∧ p0.2.1.2.1.2.1 = p1.2.1.2.1.2.1 ∧ p0.2.1.2.1.2.2.1 = p1.2.1.2.1.2.2.1 ∧ p0.2.1.2.1.2.2.2 = p1.2.1.2.1.2.2.2 ∧ p0.2.1.2.2.1 = p1.2.1.2.2.1 ∧ p0.2.1.2.2.2.1 = p1.2.1.2.2.2.1 ∧ p0.2.1.2.2.2.2.1 = p1.2.1.2.2.2.2.1 ∧ p0.2.1.2.2.2.2.2 = p1.2.1.2.2.2.2.2)) Q4 (QX _ _ _ _ _ _ _ _ _ _ _ _ _ _ _ _ _ _) F Aa Aa).q fun a w F W => ?_
   refine vl tk 3 F W fun a w F W => ?_
   refine Ad ?_
   exact ⟨F.re ⟨(Ev (by try rw [hb0]; all_goals simp only [Es])), trivial⟩, W⟩
  rw [hb0] at F
  refine vl tk 8 F W fun a w F W => ?_
  refine Ad ?_
  exact ⟨F.re ⟨(Ev (by try rw [hb0]; all_goals simp only [Es])), trivial⟩, W⟩
 rintro a w ⟨F, W⟩
 refine Al ?_
 subst H
 refine Aw (.inl Aa) F W Aa (Ai F Aa) ?_
 exact ⟨rfl, W.done⟩
theorem SB : Has Try.prog 59 := BV Try.func59
theorem R6 (dd : Nat) (x0 : Int) (x1 : Int) (x2 : Int) (y0 : Int) (y1 : Int) (y2 : Int) (w : World) : (Op.equalIn (dd + 2) 88 (.agg #[.int .i64 x0, .int .i64 x1, .int .i64 x2]) (.agg #[.int .i64 y0, .int .i64 y1, .int .i64 y2])).run Try.prog w = .ok (decide (x0 = y0 ∧ x1 = y1 ∧ x2 = y2)) w :=
  Kc (d := dd + 1) (rs := [decide (x0 = y0), decide (x1 = y1), decide (x2 = y2)]) IH (by kernel_rfl) ⟨rfl, IR (d := dd + 0) rfl rfl Q3 T3 rfl rfl, rfl, IR (d := dd + 0) rfl rfl Q3 T3 rfl rfl, rfl, IR (d := dd + 0) rfl rfl Q3 T3 rfl rfl, trivial⟩ (by simp) w
theorem SJ : Try.prog.eqGuardType Try.prog.depth 88 = false := by kernel_rfl
theorem SC (x0 : Int) (x1 : Int) (x2 : Int) (y0 : Int) (y1 : Int) (y2 : Int) (w : World) : (Op.equalIn 10000 88 (.agg #[.int .i64 x0, .int .i64 x1, .int .i64 x2]) (.agg #[.int .i64 y0, .int .i64 y1, .int .i64 y2])).run Try.prog w = .ok (decide (x0 = y0 ∧ x1 = y1 ∧ x2 = y2)) w := R6 9998 x0 x1 x2 y0 y1 y2 w
noncomputable def Bu (p0 : List (Int × Int × Int)) (p1 : List (Int × Int × Int)) : Int → Option (Int ⊕ (Unit ⊕ Bool))
  | x1 => (if x1 < (p0.length : Int) then (ix p0 x1).bind fun x2 => (ix p1 x1).bind fun x3 => (if (!(decide (x2.1 = x3.1 ∧ x2.2.1 = x3.2.1 ∧ x2.2.2 = x3.2.2))) = true then some (.inr (.inr false)) else some (.inl (Cc (x1 + 1)))) else some (.inr (.inl ())))
noncomputable def BF (p0 : List (Int × Int × Int)) (p1 : List (Int × Int × Int)) : Option Bool := (if (p0.length : Int) ≠ (p1.length : Int) then some false else FR (AX (Bu p0 p1) 0) fun _ => some true)
theorem EP (Y : Nat → Prop) (w0 : World) (v1 : Value) (v2 : Value) (p0 : List (Int × Int × Int)) (p1 : List (Int × Int × Int)) (r : Bool) (H : BF p0 p1 = some r) (h_v1 : Sl w0 (NX []) Bk v1 p0) (h_v2 : Sl w0 (NX []) Bk v2 p1) :
    Calls Try.prog 75 #[v1, v2] w0 fun e w' => e = .returned (.bool r) ∧ Below w0.heap.size w0 w' := by
 refine enter Try.func75 Aa Try.ntmps75 Aa fun a F => ?_
 have W := Stw.start Y w0
 unfold BF at H
 refine vc tk 9 F W fun a w F W => ?_
 refine ls F W Aa (B7 (r := Bk) (l := p0) Io Aa F Aa (An h_v1)).q fun a w F W => ?_
 refine ls F W Aa (Am F Aa).q fun a w F W => ?_
 refine ls F W Aa (B7 (r := Bk) (l := p1) Io Aa F Aa (An h_v2)).q fun a w F W => ?_
 refine BJ tk 3 F W fun a w F W => ?_
 refine Bi F Aa H (fun F H => ?_) fun F H => ?_
 ·
  refine vc tk 5 F W fun a w F W => ?_
  refine Al (Aq ?_)
  have H := Av H
  subst H
  refine Aw (.inl Aa) F W Aa (Ai F Aa) ?_
  exact ⟨rfl, W.done⟩
 refine AC (Ad ?_)
 obtain ⟨o1, G1, K1, L1⟩ := H1 H
 refine Au (fun a w => some (Sum.inl ()) = some o1 ∧ Fr 26 [] [(4, .bool false)] a ∧ Stw ⟨Y, [], w0⟩ [] [] w) ?_ ?_
 ·
  have H := G1
  clear G1 K1
  refine vc tk 3 F W fun a w F W => ?_
  refine ls F W Aa (B7 (r := Bk) (l := p0) Io Aa F Aa (An h_v1)).q fun a w F W => ?_
  refine BJ tk 4 F W fun a w F W => ?_
  refine BA H (fun s a w => Fr 26 [] [(0, v1), (1, v2), (4, .bool false), (12, .int .i64 (p0.length : Int)), (13, .int .i64 s)] a ∧ Stw ⟨Y, [], w0⟩ [] [] w) ⟨F.ra Aa, W⟩ fun s o a w H L2 hR => ?_
  obtain ⟨x1, rfl⟩ : ∃ x, x = s := ⟨s, rfl⟩
  obtain ⟨F, W⟩ := hR
  have F : Fr 26 [] [(0, v1), (1, v2), (4, .bool false), (12, .int .i64 (p0.length : Int)), (13, .int .i64 x1)] a := F
  have W : Stw ⟨Y, [], w0⟩ [] [] w := W
  rw [Bu] at H
  refine vc tk 6 F W fun a w F W => ?_
  refine Bi F Aa H (fun F H => ?_) fun F H => ?_
  ·
   refine D6 tk 11 F W fun a w F W => ?_
   refine Ck W MO (by kernel_rfl) ?_
   iterate 2 refine qs F Aa (Am F Aa).q fun a F => ?_
   obtain ⟨x2, h1, H⟩ := Af H
   refine qs F Aa (AR (r := Bk) PQ F Aa Aa (An h_v1) h1).q fun a F => ?_
   refine qs F Aa (AD (y := Value.agg #[.int .i64 x2.1, .int .i64 x2.2.1, .int .i64 x2.2.2]) (j := 0) (i := x1) F Aa Aa (An h_v1) h1 Qa.to Qt Aa).q fun a F => ?_
   iterate 2 refine qs F Aa (Am F Aa).q fun a F => ?_
   obtain ⟨x3, h2, H⟩ := Af H
   refine qs F Aa (AR (r := Bk) PQ F Aa Aa (An h_v2) h2).q fun a F => ?_
   refine qs F Aa (AD (y := Value.agg #[.int .i64 x3.1, .int .i64 x3.2.1, .int .i64 x3.2.2]) (j := 0) (i := x1) F Aa Aa (An h_v2) h2 Qa.to Qt Aa).q fun a F => ?_
   refine qs F Aa (Ob (t := decide (x2.1 = x3.1 ∧ x2.2.1 = x3.2.1 ∧ x2.2.2 = x3.2.2)) SJ (SC _ _ _ _ _ _) F Aa Aa).q fun a F => ?_
   refine AJ fun w W => ?_
   refine Ad ?_
   refine BE F Aa H (fun F H => ?_) fun F H => ?_
   ·
    refine vc tk 5 F W fun a w F W => ?_
    refine Al (Az ?_)
    iterate 2 refine Aq ?_
    refine Az (Aq ?_)
    have H := L2 _ H
    have H := L1 _ H
    have H := Av H
    subst H
    refine Aw (.inl Aa) F W Aa (Ai F Aa) ?_
    exact ⟨rfl, W.done⟩
   refine AC (AF ?_)
   refine vn tk 4 F W fun a w F W => ?_
   refine Ad ?_
   exact ⟨_, H, F.ra Aa, W⟩
  refine Bm ?_
  iterate 2 refine BU ?_
  refine Bp (Ad ?_)
  have H := L2 _ H
  exact ⟨H, F.ra Aa, W⟩
 rintro a w ⟨hj, F, W⟩
 have H := K1 _ hj
 clear hj G1 K1 L1
 refine vc tk 5 F W fun a w F W => ?_
 refine Al ?_
 have H := Av H
 subst H
 refine Aw (.inl Aa) F W Aa (Ai F Aa) ?_
 exact ⟨rfl, W.done⟩
theorem Tb : Has Try.prog 75 := BV Try.func75
noncomputable def Fx (p0 : List (Int × Int × Int)) (p1 : List (Int × Int × Int)) : Option Bool := (BF p0 p1).bind fun x1 => some x1
theorem LN (Y : Nat → Prop) (w0 : World) (v1 : Value) (v2 : Value) (p0 : List (Int × Int × Int)) (p1 : List (Int × Int × Int)) (r : Bool) (H : Fx p0 p1 = some r) (h_v1 : Sl w0 (NX []) Bk v1 p0) (h_v2 : Sl w0 (NX []) Bk v2 p1) :
    Calls Try.prog 60 #[v1, v2] w0 fun e w' => e = .returned (.bool r) ∧ Below w0.heap.size w0 w' := by
 refine enter Try.func60 Aa Try.ntmps60 Aa fun a F => ?_
 have W := Stw.start Y w0
 unfold Fx at H
 refine vc tk 9 F W fun a w F W => ?_
 obtain ⟨x1, h1, H⟩ := Af H
 refine ls F W Aa (AM (v := Value.bool x1) F Tb Aa (fun w W => EP any w (v1) (v2) p0 p1 _ h1 (Dc (An h_v1) W) (Dc (An h_v2) W))) fun a w F W => ?_
 refine BJ tk 3 F W fun a w F W => ?_
 refine Al ?_
 have H := Av H
 subst H
 refine Aw (.inl Aa) F W Aa (Ai F Aa) ?_
 exact ⟨rfl, W.done⟩
theorem TM : Has Try.prog 60 := BV Try.func60
noncomputable def EV (p0 : Int × (Int × (Int × Int × Int × Int) × (Int × Int × Int × Int)) × (List (Int × Int × Int))) (p1 : Int × (Int × (Int × Int × Int × Int) × (Int × Int × Int × Int)) × (List (Int × Int × Int))) : Option Bool := (if (ED p0 p1) = true then (Fx p0.2.2 p1.2.2).bind fun x2 => some x2 else some false).bind fun x1 => some x1
theorem Lg (Y : Nat → Prop) (w0 : World) (v1 : Value) (v2 : Value) (p0 : Int × (Int × (Int × Int × Int × Int) × (Int × Int × Int × Int)) × (List (Int × Int × Int))) (p1 : Int × (Int × (Int × Int × Int × Int) × (Int × Int × Int × Int)) × (List (Int × Int × Int))) (r : Bool) (H : EV p0 p1 = some r) (h_v1 : Sl w0 (NX []) Bk v1 p0.2.2) (h_v2 : Sl w0 (NX []) Bk v2 p1.2.2) :
    Calls Try.prog 42 #[.agg #[.int .i64 p0.1, .int .i64 p0.2.1.1, .int .i64 p0.2.1.2.1.1, .int .i64 p0.2.1.2.1.2.1, .int .i64 p0.2.1.2.1.2.2.1, .int .i64 p0.2.1.2.1.2.2.2, .int .i64 p0.2.1.2.2.1, .int .i64 p0.2.1.2.2.2.1, .int .i64 p0.2.1.2.2.2.2.1, .int .i64 p0.2.1.2.2.2.2.2, v1], .agg #[.int .i64 p1.1, .int .i64 p1.2.1.1, .int .i64 p1.2.1.2.1.1, .int .i64 p1.2.1.2.1.2.1, .int .i64 p1.2.1.2.1.2.2.1, .int .i64 p1.2.1.2.1.2.2.2, .int .i64 p1.2.1.2.2.1, .int .i64 p1.2.1.2.2.2.1, .int .i64 p1.2.1.2.2.2.2.1, .int .i64 p1.2.1.2.2.2.2.2, v2]] w0 fun e w' => e = .returned (.bool r) ∧ Below w0.heap.size w0 w' := by
 refine enter Try.func42 Aa Try.ntmps42 Aa fun a F => ?_
 have W := Stw.start Y w0
 unfold EV at H
 refine vc tk 2 F W fun a w F W => ?_
 refine BR (cs := (DZ p0 v1)) F W Aa Aa Aa fun b1 a w F W => ?_
 refine BR (cs := (DZ p1 v2)) F W Aa Aa Aa fun b2 a w F W => ?_
 refine vl tk 2 F W fun a w F W => ?_
 refine Ad ?_
 obtain ⟨o1, G1, K1⟩ := Af H
 refine Au (fun a w => ∃ x1 : Bool, some (x1) = some o1 ∧ Fr 15 [] [(4, .bool x1)] a ∧ Stw ⟨Y, [], w0⟩ (OD b2 p1 v2 b1 p0 v1) [] w) ?_ ?_
 ·
  have H := G1
  clear G1 K1
  refine Fq tk 3 [1, 0] F W (ai (ai fun a w F W => ?_))
  refine ls F W Aa (AM (v := Value.bool (ED p0 p1)) F SB Aa (fun w W => I2 any w (v1) (v2) p0 p1 _ Aa (Dc (An h_v1) W) (Dc (An h_v2) W))) fun a w F W => ?_
  refine ls F W Aa (Am F Aa).q fun a w F W => ?_
  rcases Bool.eq_false_or_eq_true (ED p0 p1) with hb | hb
  ·
   have H := B4 hb H
   rw [hb] at F
   clear hb
   refine Fu tk 4 [1, 0] F W (ai (ai fun a w F W => ?_))
   refine F2 (Ae F Aa Aa Aa Aa) ?_
   obtain ⟨x2, h1, H⟩ := Af H
   refine ls F W Aa (AM (v := Value.bool x2) F TM Aa (fun w W => LN any w (v1) (v2) p0.2.2 p1.2.2 _ h1 (Dc (An h_v1) W) (Dc (An h_v2) W))) fun a w F W => ?_
   refine vl tk 3 F W fun a w F W => ?_
   refine Ad ?_
   have W := W.frontM (i := 1) Aa Aa
   have W := W.frontM (i := 1) Aa Aa
   exact ⟨_, H, F.ra Aa, W⟩
  have H := B5 (by rw [hb]; decide) H
  rw [hb] at F
  clear hb
  refine vl tk 8 F W fun a w F W => ?_
  refine Ad ?_
  have W := W.frontM (i := 1) Aa Aa
  have W := W.frontM (i := 1) Aa Aa
  exact ⟨_, H, F.ra Aa, W⟩
 rintro a w ⟨x1, hj, F, W⟩
 have hj := Av hj
 subst hj
 have H := K1
 clear G1 K1
 refine Al ?_
 have H := Av H
 subst H
 refine Aw (.inl Aa) F W Aa (Ai F Aa) ?_
 exact ⟨rfl, W.done⟩
theorem Sz : type_of% Try.underlying4 := Try.underlying4
theorem TB : Has Try.prog 42 := BV Try.func42
abbrev Qf (a0 : Nat) (a1 : Int × (Int × (Int × (Int × Int × Int × Int) × (Int × Int × Int × Int)) × (List (Int × Int × Int))) × Bool) (a2 : Value) (a3 : Nat) (a4 : Int × (Int × (Int × (Int × Int × Int × Int) × (Int × Int × Int × Int)) × (List (Int × Int × Int))) × Bool) (a5 : Value) : List (Nat × List Value) := [(a0, [.int .i64 a1.1, .int .i64 a1.2.1.1, .int .i64 a1.2.1.2.1.1, .int .i64 a1.2.1.2.1.2.1.1, .int .i64 a1.2.1.2.1.2.1.2.1, .int .i64 a1.2.1.2.1.2.1.2.2.1, .int .i64 a1.2.1.2.1.2.1.2.2.2, .int .i64 a1.2.1.2.1.2.2.1, .int .i64 a1.2.1.2.1.2.2.2.1, .int .i64 a1.2.1.2.1.2.2.2.2.1, .int .i64 a1.2.1.2.1.2.2.2.2.2, a2, .bool a1.2.2]), (a3, [.int .i64 a4.1, .int .i64 a4.2.1.1, .int .i64 a4.2.1.2.1.1, .int .i64 a4.2.1.2.1.2.1.1, .int .i64 a4.2.1.2.1.2.1.2.1, .int .i64 a4.2.1.2.1.2.1.2.2.1, .int .i64 a4.2.1.2.1.2.1.2.2.2, .int .i64 a4.2.1.2.1.2.2.1, .int .i64 a4.2.1.2.1.2.2.2.1, .int .i64 a4.2.1.2.1.2.2.2.2.1, .int .i64 a4.2.1.2.1.2.2.2.2.2, a5, .bool a4.2.2])]
noncomputable def DO (p0 : Int × (Int × (Int × (Int × Int × Int × Int) × (Int × Int × Int × Int)) × (List (Int × Int × Int))) × Bool) (p1 : Int × (Int × (Int × (Int × Int × Int × Int) × (Int × Int × Int × Int)) × (List (Int × Int × Int))) × Bool) : Option Bool := (if p0.1 = p1.1 then (if p0.2.2 = p1.2.2 then (EV p0.2.1 p1.2.1).bind fun x2 => some x2 else some false) else some false).bind fun x1 => some x1
theorem JN (Y : Nat → Prop) (w0 : World) (v1 : Value) (v2 : Value) (p0 : Int × (Int × (Int × (Int × Int × Int × Int) × (Int × Int × Int × Int)) × (List (Int × Int × Int))) × Bool) (p1 : Int × (Int × (Int × (Int × Int × Int × Int) × (Int × Int × Int × Int)) × (List (Int × Int × Int))) × Bool) (r : Bool) (H : DO p0 p1 = some r) (h_v1 : Sl w0 (NX []) Bk v1 p0.2.1.2.2) (h_v2 : Sl w0 (NX []) Bk v2 p1.2.1.2.2) :
    Calls Try.prog 28 #[.agg #[.int .i64 p0.1, .int .i64 p0.2.1.1, .int .i64 p0.2.1.2.1.1, .int .i64 p0.2.1.2.1.2.1.1, .int .i64 p0.2.1.2.1.2.1.2.1, .int .i64 p0.2.1.2.1.2.1.2.2.1, .int .i64 p0.2.1.2.1.2.1.2.2.2, .int .i64 p0.2.1.2.1.2.2.1, .int .i64 p0.2.1.2.1.2.2.2.1, .int .i64 p0.2.1.2.1.2.2.2.2.1, .int .i64 p0.2.1.2.1.2.2.2.2.2, v1, .bool p0.2.2], .agg #[.int .i64 p1.1, .int .i64 p1.2.1.1, .int .i64 p1.2.1.2.1.1, .int .i64 p1.2.1.2.1.2.1.1, .int .i64 p1.2.1.2.1.2.1.2.1, .int .i64 p1.2.1.2.1.2.1.2.2.1, .int .i64 p1.2.1.2.1.2.1.2.2.2, .int .i64 p1.2.1.2.1.2.2.1, .int .i64 p1.2.1.2.1.2.2.2.1, .int .i64 p1.2.1.2.1.2.2.2.2.1, .int .i64 p1.2.1.2.1.2.2.2.2.2, v2, .bool p1.2.2]] w0 fun e w' => e = .returned (.bool r) ∧ Below w0.heap.size w0 w' := by
 refine enter Try.func28 Aa Try.ntmps28 Aa fun a F => ?_
 have W := Stw.start Y w0
 unfold DO at H
 refine vc tk 2 F W fun a w F W => ?_
 refine BR (cs := (Fa p0 v1)) F W Aa Aa Aa fun b1 a w F W => ?_
 refine BR (cs := (Fa p1 v2)) F W Aa Aa Aa fun b2 a w F W => ?_
 refine vl tk 2 F W fun a w F W => ?_
 refine Ad ?_
 obtain ⟨o1, G1, K1⟩ := Af H
 refine Au (fun a w => ∃ x1 : Bool, some (x1) = some o1 ∧ Fr 24 [] [(4, .bool x1)] a ∧ Stw ⟨Y, [], w0⟩ (Qf b2 p1 v2 b1 p0 v1) [] w) ?_ ?_
 ·
  have H := G1
  clear G1 K1
  refine Fq tk 7 [1, 0] F W (ai (ai fun a w F W => ?_))
  rcases Bool.eq_false_or_eq_true (decide (p0.1 = p1.1)) with hb | hb
  ·
   have H := B4 (Cn hb) H
   rw [hb] at F
   clear hb
   refine Fu tk 4 [1, 0] F W (ai (ai fun a w F W => ?_))
   refine FE F W (Ae F Aa Aa Aa Aa) Aa (As Aa) (P1 Sz F Aa Aa).q fun a w F W => ?_
   refine vl tk 2 F W fun a w F W => ?_
   rcases Bool.eq_false_or_eq_true (decide (p0.2.2 = p1.2.2)) with hb | hb
   ·
    have H := B4 (Cn hb) H
    rw [hb] at F
    clear hb
    refine Fu tk 4 [1, 0] F W (ai (ai fun a w F W => ?_))
    refine F2 (Ae F Aa Aa Aa Aa) ?_
    obtain ⟨x2, h1, H⟩ := Af H
    refine ls F W Aa (AM (v := Value.bool x2) F TB Aa (fun w W => Lg any w (v1) (v2) p0.2.1 p1.2.1 _ h1 (Dc (An h_v1) W) (Dc (An h_v2) W))) fun a w F W => ?_
    refine vl tk 3 F W fun a w F W => ?_
    refine Ad ?_
    have W := W.frontM (i := 1) Aa Aa
    have W := W.frontM (i := 1) Aa Aa
    exact ⟨_, H, F.ra Aa, W⟩
   have H := B5 (Cp hb) H
   rw [hb] at F
   clear hb
   refine vl tk 8 F W fun a w F W => ?_
   refine Ad ?_
   have W := W.frontM (i := 1) Aa Aa
   have W := W.frontM (i := 1) Aa Aa
   exact ⟨_, H, F.ra Aa, W⟩
  have H := B5 (Cp hb) H
  rw [hb] at F
  clear hb
  refine vl tk 15 F W fun a w F W => ?_
  refine Ad ?_
  have W := W.frontM (i := 1) Aa Aa
  have W := W.frontM (i := 1) Aa Aa
  exact ⟨_, H, F.ra Aa, W⟩
 rintro a w ⟨x1, hj, F, W⟩
 have hj := Av hj
 subst hj
 have H := K1
 clear G1 K1
 refine Al ?_
 have H := Av H
 subst H
 refine Aw (.inl Aa) F W Aa (Ai F Aa) ?_
 exact ⟨rfl, W.done⟩
theorem Td : Has Try.prog 28 := BV Try.func28
abbrev My (a0 : Nat) (a1 : Int × (Int × (Int × (Int × Int × Int × Int) × (Int × Int × Int × Int)) × (List (Int × Int × Int))) × Bool) (a2 : Value) : List (Nat × List Value) := [(a0, [.int .i64 a1.1, .int .i64 a1.2.1.1, .int .i64 a1.2.1.2.1.1, .int .i64 a1.2.1.2.1.2.1.1, .int .i64 a1.2.1.2.1.2.1.2.1, .int .i64 a1.2.1.2.1.2.1.2.2.1, .int .i64 a1.2.1.2.1.2.1.2.2.2, .int .i64 a1.2.1.2.1.2.2.1, .int .i64 a1.2.1.2.1.2.2.2.1, .int .i64 a1.2.1.2.1.2.2.2.2.1, .int .i64 a1.2.1.2.1.2.2.2.2.2, a2, .bool a1.2.2])]
noncomputable def AS (p0 : Int × List (Bool × (Int × (Int × (Int × (Int × Int × Int × Int) × (Int × Int × Int × Int)) × (List (Int × Int × Int))) × Bool))) (p1 : Int) (p2 : Int × (Int × (Int × (Int × Int × Int × Int) × (Int × Int × Int × Int)) × (List (Int × Int × Int))) × Bool) : Option (Int × (Int × List (Bool × (Int × (Int × (Int × (Int × Int × Int × Int) × (Int × Int × Int × Int)) × (List (Int × Int × Int))) × Bool)))) := (if (Ao p0) ≠ 0 then some (16, p0) else (if (decide (p1 < 0) || decide (16 ≤ p1)) = true then some (2, p0) else (NI 16 p0.2 p1).bind fun x1 => (if (!x1.1) = true then (CS p2).bind fun x2 => (NI 16 p0.2 p1).bind fun x3 => some (0, (p0.1, Dv p0.2 p1 (true, x2))) else (NI 16 p0.2 p1).bind fun x4 => (DO x4.2 p2).bind fun x5 => (if (!x5) = true then some (8, p0) else some (0, p0)))))
theorem Da (Y : Nat → Prop) (X : List Nat) (w0 : World) (q_p0 : Nat) (v1 : Value) (p0 : Int × List (Bool × (Int × (Int × (Int × (Int × Int × Int × Int) × (Int × Int × Int × Int)) × (List (Int × Int × Int))) × Bool))) (p1 : Int) (p2 : Int × (Int × (Int × (Int × Int × Int × Int) × (Int × Int × Int × Int)) × (List (Int × Int × Int))) × Bool) (r : Int × (Int × List (Bool × (Int × (Int × (Int × (Int × Int × Int × Int) × (Int × Int × Int × Int)) × (List (Int × Int × Int))) × Bool)))) (H : AS p0 p1 p2 = some r) (s_v1 : Sl w0 Y Bk v1 p2.2.1.2.2) (hL : Stw ⟨Y, X, w0⟩ [] [Bw q_p0 BO 16 p0] w0) :
    Calls Try.prog 8 #[.pointer (some ⟨q_p0, 0, none⟩), .int .i64 p1, .agg #[.int .i64 p2.1, .int .i64 p2.2.1.1, .int .i64 p2.2.1.2.1.1, .int .i64 p2.2.1.2.1.2.1.1, .int .i64 p2.2.1.2.1.2.1.2.1, .int .i64 p2.2.1.2.1.2.1.2.2.1, .int .i64 p2.2.1.2.1.2.1.2.2.2, .int .i64 p2.2.1.2.1.2.2.1, .int .i64 p2.2.1.2.1.2.2.2.1, .int .i64 p2.2.1.2.1.2.2.2.2.1, .int .i64 p2.2.1.2.1.2.2.2.2.2, v1, .bool p2.2.2]] w0 fun e w' => ∃ x : Unit, e = .returned (.int .i64 r.1) ∧ Stw ⟨Y, X, w0⟩ [] [Bw q_p0 BO 16 r.2] w' := by
 refine enter Try.func8 Aa Try.ntmps8 Aa fun a F => ?_
 have W := hL
 have h_v1 := W.nx s_v1
 unfold AS at H
 refine vc tk 2 F W fun a w F W => ?_
 refine BR (cs := (Fa p2 v1)) F W Aa Aa Aa fun b1 a w F W => ?_
 refine BJ tk 7 F W fun a w F W => ?_
 refine AA (Ml := []) (Zl := [Bw q_p0 BO 16 p0]) (β := Unit) (rv := fun x => .int .i64 (Ao p0)) (MM := fun x => []) (ZZ := fun x => [Bw q_p0 BO 16 p0]) F W P9 Aa Aa (fun hL => BM _ _ w q_p0 p0 _ Aa hL) fun x a w F W => ?_
 have W : Stw ⟨Y, X, w0⟩ (My b1 p2 v1) [Bw q_p0 BO 16 p0] w := W
 refine BJ tk 3 F W fun a w F W => ?_
 refine Bi F Aa H (fun F H => ?_) fun F H => ?_
 ·
  refine vc tk 5 F W fun a w F W => ?_
  refine Al (Aq ?_)
  have H := Av H
  subst H
  refine Aw (.inl Aa) F W Aa (Ai F Aa) ?_
  have W := W.sub (M' := []) (Z' := [Bw q_p0 BO 16 p0]) (List.nil_sublist _) (List.Sublist.refl _)
  exact ⟨(), Aa, W⟩
 refine D6 tk 3 F W fun a w F W => ?_
 refine Au (fun a w => Fr 42 [] [(0, .pointer (some ⟨q_p0, 0, none⟩)), (1, .int .i64 p1), (5, .pointer (some ⟨b1, 0, none⟩)), (6, .int .i64 0), (15, .bool (decide (p1 < 0) || decide (16 ≤ p1)))] a ∧ Stw ⟨Y, X, w0⟩ (My b1 p2 v1) [Bw q_p0 BO 16 p0] w) ?_ ?_
 ·
  refine vc tk 4 F W fun a w F W => ?_
  rcases Bool.eq_false_or_eq_true (decide (p1 < 0)) with hb0 | hb0
  ·
   rw [hb0] at F
   refine vl tk 4 F W fun a w F W => ?_
   refine Ad ?_
   exact ⟨F.re ⟨rfl, Aa, Aa, Aa, (Ev (by try rw [hb0]; all_goals simp only [Es])), trivial⟩, W⟩
  rw [hb0] at F
  refine vl tk 4 F W fun a w F W => ?_
  refine Ad ?_
  exact ⟨F.re ⟨rfl, Aa, Aa, Aa, (Ev (by try rw [hb0]; all_goals simp only [Es])), trivial⟩, W⟩
 rintro a w ⟨F, W⟩
 refine BE F Aa H (fun F H => ?_) fun F H => ?_
 ·
  refine vc tk 5 F W fun a w F W => ?_
  refine Al (Aq ?_)
  have H := Av H
  subst H
  refine Aw (.inl Aa) F W Aa (Ai F Aa) ?_
  have W := W.sub (M' := []) (Z' := [Bw q_p0 BO 16 p0]) (List.nil_sublist _) (List.Sublist.refl _)
  exact ⟨(), Aa, W⟩
 refine D6 tk 4 F W fun a w F W => ?_
 obtain ⟨v2, h1, W⟩ := W.exP Dz
 refine vc tk 3 F W fun a w F W => ?_
 refine ls F W Aa (AW F Aa).q fun a w F W => ?_
 refine ls F W Aa (Aj KS Aa Aa Aa Q5 F Aa 1 Aa).q fun a w F W => ?_
 obtain ⟨x1, h2, H⟩ := Af H
 obtain ⟨v3, h3, h4⟩ := BX h1 (Dt h2).2
 have h5 : GS v3 = [.bool x1.1, .int .i64 x1.2.1, .int .i64 x1.2.2.1.1, .int .i64 x1.2.2.1.2.1.1, .int .i64 x1.2.2.1.2.1.2.1.1, .int .i64 x1.2.2.1.2.1.2.1.2.1, .int .i64 x1.2.2.1.2.1.2.1.2.2.1, .int .i64 x1.2.2.1.2.1.2.1.2.2.2, .int .i64 x1.2.2.1.2.1.2.2.1, .int .i64 x1.2.2.1.2.1.2.2.2.1, .int .i64 x1.2.2.1.2.1.2.2.2.2.1, .int .i64 x1.2.2.1.2.1.2.2.2.2.2, (v3.2.2.1.2.2.1), .bool x1.2.2.2] := congrArg (fun q : Bool × (Int × (Int × (Int × (Int × Int × Int × Int) × (Int × Int × Int × Int)) × (List (Int × Int × Int))) × Bool) => ([.bool q.1, .int .i64 q.2.1, .int .i64 q.2.2.1.1, .int .i64 q.2.2.1.2.1.1, .int .i64 q.2.2.1.2.1.2.1.1, .int .i64 q.2.2.1.2.1.2.1.2.1, .int .i64 q.2.2.1.2.1.2.1.2.2.1, .int .i64 q.2.2.1.2.1.2.1.2.2.2, .int .i64 q.2.2.1.2.1.2.2.1, .int .i64 q.2.2.1.2.1.2.2.2.1, .int .i64 q.2.2.1.2.1.2.2.2.2.1, .int .i64 q.2.2.1.2.1.2.2.2.2.2, (v3.2.2.1.2.2.1), .bool q.2.2.2] : List Value)) h4
 refine ls F W Aa (A7 (1 + (p1).toNat * 14) M8 F Aa Aa (Dt h2).1 (Dt h2).2 Aa).q fun a w F W => ?_
 refine ls F W Aa (Aj Qp Aa Aa Aa T4 F Aa (1 + (p1).toNat * 14) Aa).q fun a w F W => ?_
 refine ls F W Aa (AD (y := Value.bool x1.1) (j := 0) (i := p1) (enc := GS) F Aa Aa (Jj (p := (p0.1, v2)) 0 Aa) h3 L9 T4 (by rw [h5]; rfl)).q fun a w F W => ?_
 have W := W.note (W.pAt (p := (p0.1, v2)) (k := 0) Aa h3 (Ay.snd (Ay.snd (Ay.fst (Ay.snd (Ay.snd Ay.here))))) (congrArg (fun q : Bool × (Int × (Int × (Int × (Int × Int × Int × Int) × (Int × Int × Int × Int)) × (List (Int × Int × Int))) × Bool) => q.2.2.1.2.2) h4))
 refine BJ tk 3 F W fun a w F W => ?_
 refine BE F Aa H (fun F H => ?_) fun F H => ?_
 ·
  refine GB ?_
  refine DN [(true, 0), (true, 1), (true, 2), (true, 5), (true, 6), (false, 3), (true, 4), (true, 7), (false, 8)] (CN ⟨Y, X, w0⟩ [(some 3, b1, [.int .i64 p2.1, .int .i64 p2.2.1.1, .int .i64 p2.2.1.2.1.1, .int .i64 p2.2.1.2.1.2.1.1, .int .i64 p2.2.1.2.1.2.1.2.1, .int .i64 p2.2.1.2.1.2.1.2.2.1, .int .i64 p2.2.1.2.1.2.1.2.2.2, .int .i64 p2.2.1.2.1.2.2.1, .int .i64 p2.2.1.2.1.2.2.2.1, .int .i64 p2.2.1.2.1.2.2.2.2.1, .int .i64 p2.2.1.2.1.2.2.2.2.2, v1, .bool p2.2.2])] []) (fun ch a d v w h => by cases d <;> exact h) MO (by kernel_rfl) W (fun w W => ⟨_, _, W, (all_cons (fun _ => (.head _)) Ap), Ap⟩) fun w W => ?_
  iterate 2 refine BQ (R := []) F Aa Aa (yC fun M Z hN hZ => Am F Aa) Aa Aa fun a F => ?_
  refine BQ (R := [3]) F Aa Aa (yC fun M Z hN hZ => De (cs := (Fa p2 v1)) (v := Value.agg #[.int .i64 p2.1, .int .i64 p2.2.1.1, .int .i64 p2.2.1.2.1.1, .int .i64 p2.2.1.2.1.2.1.1, .int .i64 p2.2.1.2.1.2.1.2.1, .int .i64 p2.2.1.2.1.2.1.2.2.1, .int .i64 p2.2.1.2.1.2.1.2.2.2, .int .i64 p2.2.1.2.1.2.2.1, .int .i64 p2.2.1.2.1.2.2.2.1, .int .i64 p2.2.1.2.1.2.2.2.2.1, .int .i64 p2.2.1.2.1.2.2.2.2.2, v1, .bool p2.2.2]) F Aa (hN ((some 3), b1, (Fa p2 v1)) (.head _) Aa) Hd Aa) (by kernel_rfl) Aa fun a F => ?_
  refine BQ (R := []) F Aa Aa (yC fun M Z hN hZ => AW F Aa) Aa Aa fun a F => ?_
  refine BQ (R := []) F Aa Aa (yC fun M Z hN hZ => Aj KS Aa Aa Aa Q5 F Aa 1 Aa) Aa Aa fun a F => ?_
  refine CT Aa ?_
  obtain ⟨x2, h6, H⟩ := Af H
  refine AA (Ml := []) (Zl := []) (β := Value) (rv := fun x => .agg #[.int .i64 x2.1, .int .i64 x2.2.1.1, .int .i64 x2.2.1.2.1.1, .int .i64 x2.2.1.2.1.2.1.1, .int .i64 x2.2.1.2.1.2.1.2.1, .int .i64 x2.2.1.2.1.2.1.2.2.1, .int .i64 x2.2.1.2.1.2.1.2.2.2, .int .i64 x2.2.1.2.1.2.2.1, .int .i64 x2.2.1.2.1.2.2.2.1, .int .i64 x2.2.1.2.1.2.2.2.2.1, .int .i64 x2.2.1.2.1.2.2.2.2.2, x, .bool x2.2.2]) (MM := fun x => []) (ZZ := fun x => [row x 88 Bk x2.2.1.2.2]) F W SP Aa Aa (fun hL => Gy _ w (v1) p2 _ h6 (W.old s_v1)) fun x a w F W => ?_
  obtain ⟨v4, rfl⟩ : ∃ y, y = x := ⟨x, rfl⟩
  have W : Stw ⟨Y, X, w0⟩ (My b1 p2 v1) [row v4 88 Bk x2.2.1.2.2, Bo (v3.2.2.1.2.2.1) Bk x1.2.2.1.2.2, Bw q_p0 LL 16 (p0.1, v2)] w := W
  refine A0 (N2 := []) (NZ2 := []) (N3 := [(some 3, b1, [.int .i64 p2.1, .int .i64 p2.2.1.1, .int .i64 p2.2.1.2.1.1, .int .i64 p2.2.1.2.1.2.1.1, .int .i64 p2.2.1.2.1.2.1.2.1, .int .i64 p2.2.1.2.1.2.1.2.2.1, .int .i64 p2.2.1.2.1.2.1.2.2.2, .int .i64 p2.2.1.2.1.2.2.1, .int .i64 p2.2.1.2.1.2.2.2.1, .int .i64 p2.2.1.2.1.2.2.2.2.1, .int .i64 p2.2.1.2.1.2.2.2.2.2, v1, .bool p2.2.2])]) (NZ3 := []) W Aa Aa (all_cons (fun h => AE (by kernel_rfl) h) Ap) Ap ?_
  refine BQ (R := []) F Aa Aa (yC fun M Z hN hZ => Dr (v := Value.agg #[.bool true, .int .i64 x2.1, .int .i64 x2.2.1.1, .int .i64 x2.2.1.2.1.1, .int .i64 x2.2.1.2.1.2.1.1, .int .i64 x2.2.1.2.1.2.1.2.1, .int .i64 x2.2.1.2.1.2.1.2.2.1, .int .i64 x2.2.1.2.1.2.1.2.2.2, .int .i64 x2.2.1.2.1.2.2.1, .int .i64 x2.2.1.2.1.2.2.2.1, .int .i64 x2.2.1.2.1.2.2.2.2.1, .int .i64 x2.2.1.2.1.2.2.2.2.2, v4, .bool x2.2.2]) TI F Aa (B2 Aa Aa Aa (B2 Aa Aa Aa C1)) Aa) Aa Aa fun a F => ?_
  obtain ⟨x3, h7, H⟩ := Af H
  obtain ⟨v5, h8, h9⟩ := BX h1 (Dt h7).2
  have h10 : GS v5 = [.bool x3.1, .int .i64 x3.2.1, .int .i64 x3.2.2.1.1, .int .i64 x3.2.2.1.2.1.1, .int .i64 x3.2.2.1.2.1.2.1.1, .int .i64 x3.2.2.1.2.1.2.1.2.1, .int .i64 x3.2.2.1.2.1.2.1.2.2.1, .int .i64 x3.2.2.1.2.1.2.1.2.2.2, .int .i64 x3.2.2.1.2.1.2.2.1, .int .i64 x3.2.2.1.2.1.2.2.2.1, .int .i64 x3.2.2.1.2.1.2.2.2.2.1, .int .i64 x3.2.2.1.2.1.2.2.2.2.2, (v5.2.2.1.2.2.1), .bool x3.2.2.2] := congrArg (fun q : Bool × (Int × (Int × (Int × (Int × Int × Int × Int) × (Int × Int × Int × Int)) × (List (Int × Int × Int))) × Bool) => ([.bool q.1, .int .i64 q.2.1, .int .i64 q.2.2.1.1, .int .i64 q.2.2.1.2.1.1, .int .i64 q.2.2.1.2.1.2.1.1, .int .i64 q.2.2.1.2.1.2.1.2.1, .int .i64 q.2.2.1.2.1.2.1.2.2.1, .int .i64 q.2.2.1.2.1.2.1.2.2.2, .int .i64 q.2.2.1.2.1.2.2.1, .int .i64 q.2.2.1.2.1.2.2.2.1, .int .i64 q.2.2.1.2.1.2.2.2.2.1, .int .i64 q.2.2.1.2.1.2.2.2.2.2, (v5.2.2.1.2.2.1), .bool q.2.2.2] : List Value)) h9
  refine BQ (R := []) F Aa Aa (yC fun M Z hN hZ => A7 (1 + (p1).toNat * 14) M8 F Aa Aa (Dt h7).1 (Dt h7).2 Aa) Aa Aa fun a F => ?_
  refine CT Aa ?_
  have W := W.freeze
  have W := W.frontZ (i := 2) Aa Aa
  have W := W.hideP Dz h1
  refine NA (r := BO) (i := p1) (j := 0) (vs := [.bool true, .int .i64 x2.1, .int .i64 x2.2.1.1, .int .i64 x2.2.1.2.1.1, .int .i64 x2.2.1.2.1.2.1.1, .int .i64 x2.2.1.2.1.2.1.2.1, .int .i64 x2.2.1.2.1.2.1.2.2.1, .int .i64 x2.2.1.2.1.2.1.2.2.2, .int .i64 x2.2.1.2.1.2.2.1, .int .i64 x2.2.1.2.1.2.2.2.1, .int .i64 x2.2.1.2.1.2.2.2.2.1, .int .i64 x2.2.1.2.1.2.2.2.2.2, v4, .bool x2.2.2]) (x' := (true, x2)) F W rfl rfl rfl (k := 0) rfl rfl (Dt h7).2 QZ rfl rfl rfl (Ac rfl (Ac rfl (Ac rfl (Ac rfl (Ac rfl (Ac rfl (Ac rfl (Ac rfl (Ac rfl (Ac rfl (Ac rfl (Ac rfl (Ac (W.oneF (k := 1) rfl) (Ac rfl Cr)))))))))))))) (fun A cs hA hc => by obtain ⟨z, hz, hc⟩ := Dz.to hc; have e1 := L9 hc; have e2 : GS z = [.bool x3.1, .int .i64 x3.2.1, .int .i64 x3.2.2.1.1, .int .i64 x3.2.2.1.2.1.1, .int .i64 x3.2.2.1.2.1.2.1.1, .int .i64 x3.2.2.1.2.1.2.1.2.1, .int .i64 x3.2.2.1.2.1.2.1.2.2.1, .int .i64 x3.2.2.1.2.1.2.1.2.2.2, .int .i64 x3.2.2.1.2.1.2.2.1, .int .i64 x3.2.2.1.2.1.2.2.2.1, .int .i64 x3.2.2.1.2.1.2.2.2.2.1, .int .i64 x3.2.2.1.2.1.2.2.2.2.2, (z.2.2.1.2.2.1), .bool x3.2.2.2] := (congrArg (fun q : Bool × (Int × (Int × (Int × (Int × Int × Int × Int) × (Int × Int × Int × Int)) × (List (Int × Int × Int))) × Bool) => ([.bool q.1, .int .i64 q.2.1, .int .i64 q.2.2.1.1, .int .i64 q.2.2.1.2.1.1, .int .i64 q.2.2.1.2.1.2.1.1, .int .i64 q.2.2.1.2.1.2.1.2.1, .int .i64 q.2.2.1.2.1.2.1.2.2.1, .int .i64 q.2.2.1.2.1.2.1.2.2.2, .int .i64 q.2.2.1.2.1.2.2.1, .int .i64 q.2.2.1.2.1.2.2.2.1, .int .i64 q.2.2.1.2.1.2.2.2.2.1, .int .i64 q.2.2.1.2.1.2.2.2.2.2, (z.2.2.1.2.2.1), .bool q.2.2.2] : List Value)) hz); rw [e1, e2]; exact ⟨[Value.bool true], [Value.int .i64 x2.1, Value.int .i64 x2.2.1.1, Value.int .i64 x2.2.1.2.1.1, Value.int .i64 x2.2.1.2.1.2.1.1, Value.int .i64 x2.2.1.2.1.2.1.2.1, Value.int .i64 x2.2.1.2.1.2.1.2.2.1, Value.int .i64 x2.2.1.2.1.2.1.2.2.2, Value.int .i64 x2.2.1.2.1.2.2.1, Value.int .i64 x2.2.1.2.1.2.2.2.1, Value.int .i64 x2.2.1.2.1.2.2.2.2.1, Value.int .i64 x2.2.1.2.1.2.2.2.2.2, v4, Value.bool x2.2.2], rfl, rfl, ⟨[Value.int .i64 x2.1], [Value.int .i64 x2.2.1.1, Value.int .i64 x2.2.1.2.1.1, Value.int .i64 x2.2.1.2.1.2.1.1, Value.int .i64 x2.2.1.2.1.2.1.2.1, Value.int .i64 x2.2.1.2.1.2.1.2.2.1, Value.int .i64 x2.2.1.2.1.2.1.2.2.2, Value.int .i64 x2.2.1.2.1.2.2.1, Value.int .i64 x2.2.1.2.1.2.2.2.1, Value.int .i64 x2.2.1.2.1.2.2.2.2.1, Value.int .i64 x2.2.1.2.1.2.2.2.2.2, v4, Value.bool x2.2.2], rfl, rfl, ⟨[Value.int .i64 x2.2.1.1, Value.int .i64 x2.2.1.2.1.1, Value.int .i64 x2.2.1.2.1.2.1.1, Value.int .i64 x2.2.1.2.1.2.1.2.1, Value.int .i64 x2.2.1.2.1.2.1.2.2.1, Value.int .i64 x2.2.1.2.1.2.1.2.2.2, Value.int .i64 x2.2.1.2.1.2.2.1, Value.int .i64 x2.2.1.2.1.2.2.2.1, Value.int .i64 x2.2.1.2.1.2.2.2.2.1, Value.int .i64 x2.2.1.2.1.2.2.2.2.2, v4], [Value.bool x2.2.2], rfl, ⟨[Value.int .i64 x2.2.1.1], [Value.int .i64 x2.2.1.2.1.1, Value.int .i64 x2.2.1.2.1.2.1.1, Value.int .i64 x2.2.1.2.1.2.1.2.1, Value.int .i64 x2.2.1.2.1.2.1.2.2.1, Value.int .i64 x2.2.1.2.1.2.1.2.2.2, Value.int .i64 x2.2.1.2.1.2.2.1, Value.int .i64 x2.2.1.2.1.2.2.2.1, Value.int .i64 x2.2.1.2.1.2.2.2.2.1, Value.int .i64 x2.2.1.2.1.2.2.2.2.2, v4], rfl, rfl, ⟨[Value.int .i64 x2.2.1.2.1.1, Value.int .i64 x2.2.1.2.1.2.1.1, Value.int .i64 x2.2.1.2.1.2.1.2.1, Value.int .i64 x2.2.1.2.1.2.1.2.2.1, Value.int .i64 x2.2.1.2.1.2.1.2.2.2, Value.int .i64 x2.2.1.2.1.2.2.1, Value.int .i64 x2.2.1.2.1.2.2.2.1, Value.int .i64 x2.2.1.2.1.2.2.2.2.1, Value.int .i64 x2.2.1.2.1.2.2.2.2.2], [v4], rfl, ⟨[Value.int .i64 x2.2.1.2.1.1], [Value.int .i64 x2.2.1.2.1.2.1.1, Value.int .i64 x2.2.1.2.1.2.1.2.1, Value.int .i64 x2.2.1.2.1.2.1.2.2.1, Value.int .i64 x2.2.1.2.1.2.1.2.2.2, Value.int .i64 x2.2.1.2.1.2.2.1, Value.int .i64 x2.2.1.2.1.2.2.2.1, Value.int .i64 x2.2.1.2.1.2.2.2.2.1, Value.int .i64 x2.2.1.2.1.2.2.2.2.2], rfl, rfl, ⟨[Value.int .i64 x2.2.1.2.1.2.1.1, Value.int .i64 x2.2.1.2.1.2.1.2.1, Value.int .i64 x2.2.1.2.1.2.1.2.2.1, Value.int .i64 x2.2.1.2.1.2.1.2.2.2], [Value.int .i64 x2.2.1.2.1.2.2.1, Value.int .i64 x2.2.1.2.1.2.2.2.1, Value.int .i64 x2.2.1.2.1.2.2.2.2.1, Value.int .i64 x2.2.1.2.1.2.2.2.2.2], rfl, ⟨[Value.int .i64 x2.2.1.2.1.2.1.1], [Value.int .i64 x2.2.1.2.1.2.1.2.1, Value.int .i64 x2.2.1.2.1.2.1.2.2.1, Value.int .i64 x2.2.1.2.1.2.1.2.2.2], rfl, rfl, ⟨[Value.int .i64 x2.2.1.2.1.2.1.2.1], [Value.int .i64 x2.2.1.2.1.2.1.2.2.1, Value.int .i64 x2.2.1.2.1.2.1.2.2.2], rfl, rfl, ⟨[Value.int .i64 x2.2.1.2.1.2.1.2.2.1], [Value.int .i64 x2.2.1.2.1.2.1.2.2.2], rfl, rfl, rfl⟩⟩⟩, ⟨[Value.int .i64 x2.2.1.2.1.2.2.1], [Value.int .i64 x2.2.1.2.1.2.2.2.1, Value.int .i64 x2.2.1.2.1.2.2.2.2.1, Value.int .i64 x2.2.1.2.1.2.2.2.2.2], rfl, rfl, ⟨[Value.int .i64 x2.2.1.2.1.2.2.2.1], [Value.int .i64 x2.2.1.2.1.2.2.2.2.1, Value.int .i64 x2.2.1.2.1.2.2.2.2.2], rfl, rfl, ⟨[Value.int .i64 x2.2.1.2.1.2.2.2.2.1], [Value.int .i64 x2.2.1.2.1.2.2.2.2.2], rfl, rfl, rfl⟩⟩⟩⟩⟩, ⟨_, rfl, (Sl.stab (W.item (i := 1) rfl) (fun b hb _ => ⟨hA b hb, rfl⟩))⟩⟩⟩, rfl⟩⟩⟩) fun w W => ?_
  have W : Stw ⟨Y, X, w0⟩ (My b1 p2 v1) [Bw q_p0 BO 16 (p0.1, Dv p0.2 p1 (true, x2)), Bo v4 Bk x2.2.1.2.2, Bo (v3.2.2.1.2.2.1) Bk x1.2.2.1.2.2] w := W
  refine A0 (N2 := []) (NZ2 := []) (N3 := [(some 3, b1, [.int .i64 p2.1, .int .i64 p2.2.1.1, .int .i64 p2.2.1.2.1.1, .int .i64 p2.2.1.2.1.2.1.1, .int .i64 p2.2.1.2.1.2.1.2.1, .int .i64 p2.2.1.2.1.2.1.2.2.1, .int .i64 p2.2.1.2.1.2.1.2.2.2, .int .i64 p2.2.1.2.1.2.2.1, .int .i64 p2.2.1.2.1.2.2.2.1, .int .i64 p2.2.1.2.1.2.2.2.2.1, .int .i64 p2.2.1.2.1.2.2.2.2.2, v1, .bool p2.2.2])]) (NZ3 := []) W Aa Aa (all_cons (fun h => AE (by kernel_rfl) h) Ap) Ap ?_
  refine ET ?_
  refine vn tk 5 F W fun a w F W => ?_
  refine Al (Aq ?_)
  have H := Av H
  subst H
  refine Aw (.inl Aa) F W Aa (Ai F Aa) ?_
  have W := W.sub (M' := []) (Z' := [Bw q_p0 BO 16 (p0.1, Dv p0.2 p1 (true, x2))]) (List.nil_sublist _) (List.Sublist.cons_cons _ (List.nil_sublist _))
  exact ⟨(), Aa, W⟩
 refine D6 tk 4 F W fun a w F W => ?_
 refine Ck W MO (by kernel_rfl) ?_
 iterate 2 refine qs F Aa (Am F Aa).q fun a F => ?_
 refine qs F Aa (AW F Aa).q fun a F => ?_
 refine qs F Aa (Aj KS Aa Aa Aa Q5 F Aa 1 Aa).q fun a F => ?_
 obtain ⟨x4, h11, H⟩ := Af H
 obtain ⟨v6, h12, h13⟩ := BX h1 (Dt h11).2
 have h14 : GS v6 = [.bool x4.1, .int .i64 x4.2.1, .int .i64 x4.2.2.1.1, .int .i64 x4.2.2.1.2.1.1, .int .i64 x4.2.2.1.2.1.2.1.1, .int .i64 x4.2.2.1.2.1.2.1.2.1, .int .i64 x4.2.2.1.2.1.2.1.2.2.1, .int .i64 x4.2.2.1.2.1.2.1.2.2.2, .int .i64 x4.2.2.1.2.1.2.2.1, .int .i64 x4.2.2.1.2.1.2.2.2.1, .int .i64 x4.2.2.1.2.1.2.2.2.2.1, .int .i64 x4.2.2.1.2.1.2.2.2.2.2, (v6.2.2.1.2.2.1), .bool x4.2.2.2] := congrArg (fun q : Bool × (Int × (Int × (Int × (Int × Int × Int × Int) × (Int × Int × Int × Int)) × (List (Int × Int × Int))) × Bool) => ([.bool q.1, .int .i64 q.2.1, .int .i64 q.2.2.1.1, .int .i64 q.2.2.1.2.1.1, .int .i64 q.2.2.1.2.1.2.1.1, .int .i64 q.2.2.1.2.1.2.1.2.1, .int .i64 q.2.2.1.2.1.2.1.2.2.1, .int .i64 q.2.2.1.2.1.2.1.2.2.2, .int .i64 q.2.2.1.2.1.2.2.1, .int .i64 q.2.2.1.2.1.2.2.2.1, .int .i64 q.2.2.1.2.1.2.2.2.2.1, .int .i64 q.2.2.1.2.1.2.2.2.2.2, (v6.2.2.1.2.2.1), .bool q.2.2.2] : List Value)) h13
 refine qs F Aa (A7 (1 + (p1).toNat * 14) M8 F Aa Aa (Dt h11).1 (Dt h11).2 Aa).q fun a F => ?_
 refine qs F Aa (Aj Qp Aa Aa Aa Hd F Aa (1 + (p1).toNat * 14 + 1) Aa).q fun a F => ?_
 refine qs F Aa (AD (y := Value.agg #[.int .i64 x4.2.1, .int .i64 x4.2.2.1.1, .int .i64 x4.2.2.1.2.1.1, .int .i64 x4.2.2.1.2.1.2.1.1, .int .i64 x4.2.2.1.2.1.2.1.2.1, .int .i64 x4.2.2.1.2.1.2.1.2.2.1, .int .i64 x4.2.2.1.2.1.2.1.2.2.2, .int .i64 x4.2.2.1.2.1.2.2.1, .int .i64 x4.2.2.1.2.1.2.2.2.1, .int .i64 x4.2.2.1.2.1.2.2.2.2.1, .int .i64 x4.2.2.1.2.1.2.2.2.2.2, (v6.2.2.1.2.2.1), .bool x4.2.2.2]) (j := 1) (i := p1) (enc := GS) F Aa Aa (Jj (p := (p0.1, v2)) 1 Aa) h12 L9 Hd (by rw [h14]; rfl)).q fun a F => ?_
 refine qs F Aa (Bn (v := Value.agg #[.int .i64 p2.1, .int .i64 p2.2.1.1, .int .i64 p2.2.1.2.1.1, .int .i64 p2.2.1.2.1.2.1.1, .int .i64 p2.2.1.2.1.2.1.2.1, .int .i64 p2.2.1.2.1.2.1.2.2.1, .int .i64 p2.2.1.2.1.2.1.2.2.2, .int .i64 p2.2.1.2.1.2.2.1, .int .i64 p2.2.1.2.1.2.2.2.1, .int .i64 p2.2.1.2.1.2.2.2.2.1, .int .i64 p2.2.1.2.1.2.2.2.2.2, v1, .bool p2.2.2]) 0 F Aa Aa Hd Aa).q fun a F => ?_
 obtain ⟨x5, h15, H⟩ := Af H
 refine qs F Aa (AM (v := Value.bool x5) F Td Aa (fun w W => JN any w ((v6.2.2.1.2.2.1)) (v1) x4.2 p2 _ h15 (Dc (Db (Jj (p := (p0.1, v2)) 1 Aa) h12 (Ay.snd (Ay.snd (Ay.fst (Ay.snd (Ay.snd Ay.here))))) (congrArg (fun q : Bool × (Int × (Int × (Int × (Int × Int × Int × Int) × (Int × Int × Int × Int)) × (List (Int × Int × Int))) × Bool) => q.2.2.1.2.2) h13)) W) (Dc (An h_v1) W))) fun a F => ?_
 refine qs F Aa (J6 F Aa).q fun a F => ?_
 refine AJ fun w W => ?_
 have W := W.note (W.pAt (p := (p0.1, v2)) (k := 1) Aa h12 (Ay.snd (Ay.snd (Ay.fst (Ay.snd (Ay.snd Ay.here))))) (congrArg (fun q : Bool × (Int × (Int × (Int × (Int × Int × Int × Int) × (Int × Int × Int × Int)) × (List (Int × Int × Int))) × Bool) => q.2.2.1.2.2) h13))
 refine Ad ?_
 refine BE F Aa H (fun F H => ?_) fun F H => ?_
 ·
  refine vc tk 5 F W fun a w F W => ?_
  refine Al (Aq ?_)
  have H := Av H
  subst H
  refine Aw (.inl Aa) F W Aa (Ai F Aa) ?_
  have W := W.frontZ (i := 2) Aa Aa
  have W := W.hideP Dz h1
  have W := W.sub (M' := []) (Z' := [Bw q_p0 BO 16 p0]) (List.nil_sublist _) (List.Sublist.cons_cons _ (List.nil_sublist _))
  exact ⟨(), Aa, W⟩
 refine D6 tk 7 F W fun a w F W => ?_
 refine Al ?_
 have H := Av H
 subst H
 refine Aw (.inl Aa) F W Aa (Ai F Aa) ?_
 have W := W.frontZ (i := 2) Aa Aa
 have W := W.hideP Dz h1
 have W := W.sub (M' := []) (Z' := [Bw q_p0 BO 16 p0]) (List.nil_sublist _) (List.Sublist.cons_cons _ (List.nil_sublist _))
 exact ⟨(), Aa, W⟩
theorem H8 : Has Try.prog 8 := BV Try.func8
theorem SR : (Try.prog.info? 68).bind (·.zero) = some (.agg #[.bool false, .int .i64 0, .int .i64 0, .int .i64 0, .int .i64 0, .int .i64 0, .int .i64 0, .int .i64 0, .int .i64 0, .int .i64 0, .int .i64 0, .int .i64 0, .slice none 0 0, .bool false]) := by kernel_rfl
abbrev P7  : List Value := [.bool false, .int .i64 0, .int .i64 0, .int .i64 0, .int .i64 0, .int .i64 0, .int .i64 0, .int .i64 0, .int .i64 0, .int .i64 0, .int .i64 0, .int .i64 0, .slice none 0 0, .bool false]
noncomputable def BS (p0 : Int × List (Bool × (Int × (Int × (Int × (Int × Int × Int × Int) × (Int × Int × Int × Int)) × (List (Int × Int × Int))) × Bool))) : (Int × Int) → Option ((Int × Int) ⊕ Int)
  | (x2, x3) => (if x3 < 16 then ((NI 16 p0.2 x3).bind fun x5 => (if x5.1 = true then some (Cc (x2 + 1)) else some x2)).bind fun x4 => some (.inl (x4, Cc (x3 + 1))) else some (.inr x2))
noncomputable def BD (p0 : Int × List (Bool × (Int × (Int × (Int × (Int × Int × Int × Int) × (Int × Int × Int × Int)) × (List (Int × Int × Int))) × Bool))) : Option Int := (AX (BS p0) (0, 0)).bind fun x1 => some x1
theorem DB (Y : Nat → Prop) (X : List Nat) (w0 : World) (q_p0 : Nat) (p0 : Int × List (Bool × (Int × (Int × (Int × (Int × Int × Int × Int) × (Int × Int × Int × Int)) × (List (Int × Int × Int))) × Bool))) (r : Int) (H : BD p0 = some r) (hL : Stw ⟨Y, X, w0⟩ [] [Bw q_p0 BO 16 p0] w0) :
    Calls Try.prog 30 #[.pointer (some ⟨q_p0, 0, none⟩)] w0 fun e w' => ∃ x : Unit, e = .returned (.int .i64 r) ∧ Stw ⟨Y, X, w0⟩ [] [Bw q_p0 BO 16 p0] w' := by
 refine enter Try.func30 Aa Try.ntmps30 Aa fun a F => ?_
 have W := hL
 unfold BD at H
 refine vc tk 10 F W fun a w F W => ?_
 obtain ⟨o1, G1, K1⟩ := Af H
 refine Au (fun a w => ∃ x1 : Int, some (x1) = some o1 ∧ Fr 19 [] [(2, .int .i64 0), (3, .int .i64 x1)] a ∧ Stw ⟨Y, X, w0⟩ [] [Bw q_p0 BO 16 p0] w) ?_ ?_
 ·
  have H := G1
  clear G1 K1
  refine vc tk 3 F W fun a w F W => ?_
  refine ls F W Aa (AW F Aa).q fun a w F W => ?_
  refine ls F W Aa (Aj KS Aa Aa Aa Q5 F Aa 1 Aa).q fun a w F W => ?_
  obtain ⟨v1, h1, W⟩ := W.exP Dz
  have h2 := PF (enc := GS) W (k := 0) Aa L9
  refine ls F W Aa (Nf (enc := GS) 0 F Aa Aa L9 Q5 Aa).q fun a w F W => ?_
  refine BJ tk 4 F W fun a w F W => ?_
  have W := W.hideP Dz h1
  refine BA H (fun s a w => Fr 19 [] [(2, .int .i64 0), (3, .int .i64 s.1), (9, .agg (Gp GS v1).toArray), (10, .int .i64 s.2)] a ∧ Stw ⟨Y, X, w0⟩ [] [Bw q_p0 BO 16 p0] w) ⟨F.ra Aa, W⟩ fun s o a w H L2 hR => ?_
  obtain ⟨x2, x3⟩ := s
  obtain ⟨F, W⟩ := hR
  have F : Fr 19 [] [(2, .int .i64 0), (3, .int .i64 x2), (9, .agg (Gp GS v1).toArray), (10, .int .i64 x3)] a := F
  have W : Stw ⟨Y, X, w0⟩ [] [Bw q_p0 BO 16 p0] w := W
  rw [BS] at H
  refine vc tk 6 F W fun a w F W => ?_
  refine Bi F Aa H (fun F H => ?_) fun F H => ?_
  ·
   refine AC (Ad ?_)
   obtain ⟨o3, G3, K3⟩ := Af H
   refine Au (fun a w => ∃ x4 : Int, some (x4) = some o3 ∧ Fr 19 [] [(2, .int .i64 0), (3, .int .i64 x4), (9, .agg (Gp GS v1).toArray), (10, .int .i64 x3)] a ∧ Stw ⟨Y, X, w0⟩ [] [Bw q_p0 BO 16 p0] w) ?_ ?_
   ·
    have H := G3
    clear G3 K3
    refine vc tk 3 F W fun a w F W => ?_
    obtain ⟨x5, h3, H⟩ := Af H
    obtain ⟨v2, h4, h5⟩ := BX h1 (Dt h3).2
    have h6 : GS v2 = [.bool x5.1, .int .i64 x5.2.1, .int .i64 x5.2.2.1.1, .int .i64 x5.2.2.1.2.1.1, .int .i64 x5.2.2.1.2.1.2.1.1, .int .i64 x5.2.2.1.2.1.2.1.2.1, .int .i64 x5.2.2.1.2.1.2.1.2.2.1, .int .i64 x5.2.2.1.2.1.2.1.2.2.2, .int .i64 x5.2.2.1.2.1.2.2.1, .int .i64 x5.2.2.1.2.1.2.2.2.1, .int .i64 x5.2.2.1.2.1.2.2.2.2.1, .int .i64 x5.2.2.1.2.1.2.2.2.2.2, (v2.2.2.1.2.2.1), .bool x5.2.2.2] := congrArg (fun q : Bool × (Int × (Int × (Int × (Int × Int × Int × Int) × (Int × Int × Int × Int)) × (List (Int × Int × Int))) × Bool) => ([.bool q.1, .int .i64 q.2.1, .int .i64 q.2.2.1.1, .int .i64 q.2.2.1.2.1.1, .int .i64 q.2.2.1.2.1.2.1.1, .int .i64 q.2.2.1.2.1.2.1.2.1, .int .i64 q.2.2.1.2.1.2.1.2.2.1, .int .i64 q.2.2.1.2.1.2.1.2.2.2, .int .i64 q.2.2.1.2.1.2.2.1, .int .i64 q.2.2.1.2.1.2.2.2.1, .int .i64 q.2.2.1.2.1.2.2.2.2.1, .int .i64 q.2.2.1.2.1.2.2.2.2.2, (v2.2.2.1.2.2.1), .bool q.2.2.2] : List Value)) h5
    have h7 : List.all [.bool x5.1, .int .i64 x5.2.1, .int .i64 x5.2.2.1.1, .int .i64 x5.2.2.1.2.1.1, .int .i64 x5.2.2.1.2.1.2.1.1, .int .i64 x5.2.2.1.2.1.2.1.2.1, .int .i64 x5.2.2.1.2.1.2.1.2.2.1, .int .i64 x5.2.2.1.2.1.2.1.2.2.2, .int .i64 x5.2.2.1.2.1.2.2.1, .int .i64 x5.2.2.1.2.1.2.2.2.1, .int .i64 x5.2.2.1.2.1.2.2.2.2.1, .int .i64 x5.2.2.1.2.1.2.2.2.2.2, (v2.2.2.1.2.2.1), .bool x5.2.2.2] (·.oneCell') = true := h6 ▸ h2 _ _ h4
    refine ls F W Aa (Nz (y := Value.agg #[.bool x5.1, .int .i64 x5.2.1, .int .i64 x5.2.2.1.1, .int .i64 x5.2.2.1.2.1.1, .int .i64 x5.2.2.1.2.1.2.1.1, .int .i64 x5.2.2.1.2.1.2.1.2.1, .int .i64 x5.2.2.1.2.1.2.1.2.2.1, .int .i64 x5.2.2.1.2.1.2.1.2.2.2, .int .i64 x5.2.2.1.2.1.2.2.1, .int .i64 x5.2.2.1.2.1.2.2.2.1, .int .i64 x5.2.2.1.2.1.2.2.2.2.1, .int .i64 x5.2.2.1.2.1.2.2.2.2.2, (v2.2.2.1.2.2.1), .bool x5.2.2.2]) M8 QZ F Aa Aa (Qx h1 (Dt h3).1) (fun _ => rfl) h4 (by rw [h6])).q fun a w F W => ?_
    refine Ca (cs := (P7)) F W Aa SR Aa fun b1 a w F W => ?_
    refine Dh 0 F W Aa Aa Aa QZ Aa Aa (Ac Aa (Ac Aa (Ac Aa (Ac Aa (Ac Aa (Ac Aa (Ac Aa (Ac Aa (Ac Aa (Ac Aa (Ac Aa (Ac Aa (Ac (Ov (q := 12) h7 Aa) (Ac Aa Cr)))))))))))))) fun w W => ?_
    refine Eo tk 8 [0] F W (ai fun a w F W => ?_)
    refine CL F Aa (fun hb => ?_) fun hb => ?_
    ·
     have H := B4 hb H
     rw [hb] at F
     rw [hb] at W
     clear hb
     refine vc tk 5 F W fun a w F W => ?_
     refine AF (Ad ?_)
     have W := W.sub (M' := []) (Z' := [Bw q_p0 BO 16 p0]) (List.nil_sublist _) (List.Sublist.refl _)
     exact ⟨_, H, F.ra Aa, W⟩
    have H := B5 (by rw [hb]; decide) H
    rw [hb] at F
    rw [hb] at W
    clear hb
    refine AC (AF (Ad ?_))
    have W := W.sub (M' := []) (Z' := [Bw q_p0 BO 16 p0]) (List.nil_sublist _) (List.Sublist.refl _)
    exact ⟨_, H, F.ra Aa, W⟩
   rintro a w ⟨x4, hj, F, W⟩
   have hj := Av hj
   subst hj
   have H := K3
   clear G3 K3
   refine vc tk 4 F W fun a w F W => ?_
   refine Ad ?_
   exact ⟨_, H, F.ra Aa, W⟩
  refine Bm ?_
  iterate 2 refine BU ?_
  refine Bp (Ad ?_)
  have H := L2 _ H
  exact ⟨_, H, F.ra Aa, W⟩
 rintro a w ⟨x1, hj, F, W⟩
 have hj := Av hj
 subst hj
 have H := K1
 clear G1 K1
 refine vc tk 6 F W fun a w F W => ?_
 refine Al ?_
 have H := Av H
 subst H
 refine Aw (.inl Aa) F W Aa (Ai F Aa) ?_
 exact ⟨(), Aa, W⟩
theorem QA : type_of% Try.underlying78 := Try.underlying78
theorem Sj : Has Try.prog 30 := BV Try.func30
theorem SI : Et Try.prog 78 68 14 128 := Et.of QA (by kernel_rfl) (by kernel_rfl) (by kernel_rfl) (by decide)
def CX (p0 : Bool × (Int × (Int × (Int × (Int × Int × Int × Int) × (Int × Int × Int × Int)) × (List (Int × Int × Int))) × Bool)) : Bool := p0.1
theorem GG (Y : Nat → Prop) (w0 : World) (v1 : Value) (p0 : Bool × (Int × (Int × (Int × (Int × Int × Int × Int) × (Int × Int × Int × Int)) × (List (Int × Int × Int))) × Bool)) (r : Bool) (H : CX p0 = r) (h_v1 : Sl w0 (NX []) Bk v1 p0.2.2.1.2.2) :
    Calls Try.prog 32 #[.agg #[.bool p0.1, .int .i64 p0.2.1, .int .i64 p0.2.2.1.1, .int .i64 p0.2.2.1.2.1.1, .int .i64 p0.2.2.1.2.1.2.1.1, .int .i64 p0.2.2.1.2.1.2.1.2.1, .int .i64 p0.2.2.1.2.1.2.1.2.2.1, .int .i64 p0.2.2.1.2.1.2.1.2.2.2, .int .i64 p0.2.2.1.2.1.2.2.1, .int .i64 p0.2.2.1.2.1.2.2.2.1, .int .i64 p0.2.2.1.2.1.2.2.2.2.1, .int .i64 p0.2.2.1.2.1.2.2.2.2.2, v1, .bool p0.2.2.2]] w0 fun e w' => e = .returned (.bool r) ∧ Below w0.heap.size w0 w' := by
 refine enter Try.func32 Aa Try.ntmps32 Aa fun a F => ?_
 have W := Stw.start Y w0
 unfold CX at H
 refine vc tk 2 F W fun a w F W => ?_
 refine BR (cs := [.bool p0.1, .int .i64 p0.2.1, .int .i64 p0.2.2.1.1, .int .i64 p0.2.2.1.2.1.1, .int .i64 p0.2.2.1.2.1.2.1.1, .int .i64 p0.2.2.1.2.1.2.1.2.1, .int .i64 p0.2.2.1.2.1.2.1.2.2.1, .int .i64 p0.2.2.1.2.1.2.1.2.2.2, .int .i64 p0.2.2.1.2.1.2.2.1, .int .i64 p0.2.2.1.2.1.2.2.2.1, .int .i64 p0.2.2.1.2.1.2.2.2.2.1, .int .i64 p0.2.2.1.2.1.2.2.2.2.2, v1, .bool p0.2.2.2]) F W Aa Aa Aa fun b1 a w F W => ?_
 refine Eo tk 10 [0] F W (ai fun a w F W => ?_)
 refine Al ?_
 subst H
 refine Aw (.inl Aa) F W Aa (Ai F Aa) ?_
 exact ⟨rfl, W.done⟩
theorem Tc : Has Try.prog 32 := BV Try.func32
noncomputable def AG (p0 : List (Bool × (Int × (Int × (Int × (Int × Int × Int × Int) × (Int × Int × Int × Int)) × (List (Int × Int × Int))) × Bool))) : Int → Option (Int ⊕ (Unit ⊕ Int))
  | x1 => (if x1 < (p0.length : Int) then (ix p0 x1).bind fun x2 => (if (CX x2) = true then some (.inr (.inr x1)) else some (.inl (Cc (x1 + 1)))) else some (.inr (.inl ())))
noncomputable def AV (p0 : List (Bool × (Int × (Int × (Int × (Int × Int × Int × Int) × (Int × Int × Int × Int)) × (List (Int × Int × Int))) × Bool))) : Option Int := FR (AX (AG p0) 0) fun _ => some (-1)
theorem Ds (Y : Nat → Prop) (w0 : World) (v1 : Value) (p0 : List (Bool × (Int × (Int × (Int × (Int × Int × Int × Int) × (Int × Int × Int × Int)) × (List (Int × Int × Int))) × Bool))) (r : Int) (H : AV p0 = some r) (h_v1 : Sl w0 (NX []) BO v1 p0) :
    Calls Try.prog 43 #[v1, .func (.func 32) #[] #[]] w0 fun e w' => e = .returned (.int .i64 r) ∧ Below w0.heap.size w0 w' := by
 refine enter Try.func43 Aa Try.ntmps43 Aa fun a F => ?_
 have W := Stw.start Y w0
 obtain ⟨v2, h1, h_v1⟩ := h_v1.ex Dz
 unfold AV at H
 refine vc tk 5 F W fun a w F W => ?_
 obtain ⟨o1, G1, K1, L1⟩ := H1 H
 refine Au (fun a w => some (Sum.inl ()) = some o1 ∧ Fr 19 [] [(4, .int .i64 0)] a ∧ Stw ⟨Y, [], w0⟩ [] [] w) ?_ ?_
 ·
  have H := G1
  clear G1 K1
  refine vc tk 3 F W fun a w F W => ?_
  refine ls F W Aa (B7 (r := BO) (l := p0) QA Aa F Aa (Bq Dz h1 (An h_v1))).q fun a w F W => ?_
  refine BJ tk 4 F W fun a w F W => ?_
  refine BA H (fun s a w => Fr 19 [] [(0, v1), (1, .func (.func 32) #[] #[]), (4, .int .i64 0), (7, .int .i64 (p0.length : Int)), (8, .int .i64 s)] a ∧ Stw ⟨Y, [], w0⟩ [] [] w) ⟨F.ra Aa, W⟩ fun s o a w H L2 hR => ?_
  obtain ⟨x1, rfl⟩ : ∃ x, x = s := ⟨s, rfl⟩
  obtain ⟨F, W⟩ := hR
  have F : Fr 19 [] [(0, v1), (1, .func (.func 32) #[] #[]), (4, .int .i64 0), (7, .int .i64 (p0.length : Int)), (8, .int .i64 x1)] a := F
  have W : Stw ⟨Y, [], w0⟩ [] [] w := W
  rw [AG] at H
  refine vc tk 6 F W fun a w F W => ?_
  refine Bi F Aa H (fun F H => ?_) fun F H => ?_
  ·
   refine D6 tk 15 F W fun a w F W => ?_
   obtain ⟨x2, h2, H⟩ := Af H
   obtain ⟨v3, h3, h4⟩ := BX h1 h2
   have h5 : GS v3 = [.bool x2.1, .int .i64 x2.2.1, .int .i64 x2.2.2.1.1, .int .i64 x2.2.2.1.2.1.1, .int .i64 x2.2.2.1.2.1.2.1.1, .int .i64 x2.2.2.1.2.1.2.1.2.1, .int .i64 x2.2.2.1.2.1.2.1.2.2.1, .int .i64 x2.2.2.1.2.1.2.1.2.2.2, .int .i64 x2.2.2.1.2.1.2.2.1, .int .i64 x2.2.2.1.2.1.2.2.2.1, .int .i64 x2.2.2.1.2.1.2.2.2.2.1, .int .i64 x2.2.2.1.2.1.2.2.2.2.2, (v3.2.2.1.2.2.1), .bool x2.2.2.2] := congrArg (fun q : Bool × (Int × (Int × (Int × (Int × Int × Int × Int) × (Int × Int × Int × Int)) × (List (Int × Int × Int))) × Bool) => ([.bool q.1, .int .i64 q.2.1, .int .i64 q.2.2.1.1, .int .i64 q.2.2.1.2.1.1, .int .i64 q.2.2.1.2.1.2.1.1, .int .i64 q.2.2.1.2.1.2.1.2.1, .int .i64 q.2.2.1.2.1.2.1.2.2.1, .int .i64 q.2.2.1.2.1.2.1.2.2.2, .int .i64 q.2.2.1.2.1.2.2.1, .int .i64 q.2.2.1.2.1.2.2.2.1, .int .i64 q.2.2.1.2.1.2.2.2.2.1, .int .i64 q.2.2.1.2.1.2.2.2.2.2, (v3.2.2.1.2.2.1), .bool q.2.2.2] : List Value)) h4
   refine ls F W Aa (AR (r := LL) SI F Aa Aa (An h_v1) h3).q fun a w F W => ?_
   refine ls F W Aa (AD (y := Value.agg #[.bool x2.1, .int .i64 x2.2.1, .int .i64 x2.2.2.1.1, .int .i64 x2.2.2.1.2.1.1, .int .i64 x2.2.2.1.2.1.2.1.1, .int .i64 x2.2.2.1.2.1.2.1.2.1, .int .i64 x2.2.2.1.2.1.2.1.2.2.1, .int .i64 x2.2.2.1.2.1.2.1.2.2.2, .int .i64 x2.2.2.1.2.1.2.2.1, .int .i64 x2.2.2.1.2.1.2.2.2.1, .int .i64 x2.2.2.1.2.1.2.2.2.2.1, .int .i64 x2.2.2.1.2.1.2.2.2.2.2, (v3.2.2.1.2.2.1), .bool x2.2.2.2]) (j := 0) (i := x1) (enc := GS) F Aa Aa (An h_v1) h3 L9 QZ (by rw [h5]; rfl)).q fun a w F W => ?_
   refine ls F W Aa (Fh (ws := [.agg #[.bool x2.1, .int .i64 x2.2.1, .int .i64 x2.2.2.1.1, .int .i64 x2.2.2.1.2.1.1, .int .i64 x2.2.2.1.2.1.2.1.1, .int .i64 x2.2.2.1.2.1.2.1.2.1, .int .i64 x2.2.2.1.2.1.2.1.2.2.1, .int .i64 x2.2.2.1.2.1.2.1.2.2.2, .int .i64 x2.2.2.1.2.1.2.2.1, .int .i64 x2.2.2.1.2.1.2.2.2.1, .int .i64 x2.2.2.1.2.1.2.2.2.2.1, .int .i64 x2.2.2.1.2.1.2.2.2.2.2, (v3.2.2.1.2.2.1), .bool x2.2.2.2]]) (v := Value.bool (CX x2)) F Tc Aa (fun w W => GG any w ((v3.2.2.1.2.2.1)) x2 _ Aa (Dc (Db (An h_v1) h3 (Ay.snd (Ay.snd (Ay.fst (Ay.snd (Ay.snd Ay.here))))) (congrArg (fun q : Bool × (Int × (Int × (Int × (Int × Int × Int × Int) × (Int × Int × Int × Int)) × (List (Int × Int × Int))) × Bool) => q.2.2.1.2.2) h4)) W))) fun a w F W => ?_
   refine BJ tk 2 F W fun a w F W => ?_
   refine BE F Aa H (fun F H => ?_) fun F H => ?_
   ·
    refine vc tk 6 F W fun a w F W => ?_
    refine Al (Az ?_)
    iterate 2 refine Aq ?_
    refine Az (Aq ?_)
    have H := L2 _ H
    have H := L1 _ H
    have H := Av H
    subst H
    refine Aw (.inl Aa) F W Aa (Ai F Aa) ?_
    exact ⟨rfl, W.done⟩
   refine AC (AF ?_)
   refine vn tk 4 F W fun a w F W => ?_
   refine Ad ?_
   exact ⟨_, H, F.ra Aa, W⟩
  refine Bm ?_
  iterate 2 refine BU ?_
  refine Bp (Ad ?_)
  have H := L2 _ H
  exact ⟨H, F.ra Aa, W⟩
 rintro a w ⟨hj, F, W⟩
 have H := K1 _ hj
 clear hj G1 K1 L1
 refine vc tk 5 F W fun a w F W => ?_
 refine Al ?_
 have H := Av H
 subst H
 refine Aw (.inl Aa) F W Aa (Ai F Aa) ?_
 exact ⟨rfl, W.done⟩
theorem Ta : Has Try.prog 43 := BV Try.func43
noncomputable def AH (p0 : List (Bool × (Int × (Int × (Int × (Int × Int × Int × Int) × (Int × Int × Int × Int)) × (List (Int × Int × Int))) × Bool))) : Option Bool := (AV p0).bind fun x1 => some (decide (0 ≤ x1))
theorem C9 (Y : Nat → Prop) (w0 : World) (v1 : Value) (p0 : List (Bool × (Int × (Int × (Int × (Int × Int × Int × Int) × (Int × Int × Int × Int)) × (List (Int × Int × Int))) × Bool))) (r : Bool) (H : AH p0 = some r) (h_v1 : Sl w0 (NX []) BO v1 p0) :
    Calls Try.prog 31 #[v1, .func (.func 32) #[] #[]] w0 fun e w' => e = .returned (.bool r) ∧ Below w0.heap.size w0 w' := by
 refine enter Try.func31 Aa Try.ntmps31 Aa fun a F => ?_
 have W := Stw.start Y w0
 obtain ⟨v2, h1, h_v1⟩ := h_v1.ex Dz
 unfold AH at H
 refine vc tk 9 F W fun a w F W => ?_
 obtain ⟨x1, h2, H⟩ := Af H
 refine ls F W Aa (AM (v := Value.int .i64 x1) F Ta Aa (fun w W => Ds any w (v1) p0 _ h2 (Dc (Bq Dz h1 (An h_v1)) W))) fun a w F W => ?_
 refine BJ tk 4 F W fun a w F W => ?_
 refine Al ?_
 have H := Av H
 subst H
 refine Aw (.inl Aa) F W Aa (Ai F Aa) ?_
 exact ⟨rfl, W.done⟩
theorem Tl : Has Try.prog 31 := BV Try.func31
noncomputable def AQ (p0 : Int × List (Bool × (Int × (Int × (Int × (Int × Int × Int × Int) × (Int × Int × Int × Int)) × (List (Int × Int × Int))) × Bool))) (p1 : Int) : Option (Int × (Int × List (Bool × (Int × (Int × (Int × (Int × Int × Int × Int) × (Int × Int × Int × Int)) × (List (Int × Int × Int))) × Bool)))) := (if (Ao p0) = 2 then some (16, p0) else (if (Ao p0) = 1 then (BD p0).bind fun x2 => some (decide (p1 = x2)) else some false).bind fun x1 => (if x1 = true then some (0, p0) else (if (Ao p0) = 1 then some true else (if p1 < 0 then some true else some (decide (16 < p1)))).bind fun x3 => (if x3 = true then some (2, p0) else (GA 16 p0.2 p1 16).bind fun x4 => (AH x4).bind fun x5 => (if x5 = true then some (8, p0) else (BD p0).bind fun x6 => (if x6 < p1 then some (7, p0) else some (0, (1, p0.2)))))))
theorem EK (Y : Nat → Prop) (X : List Nat) (w0 : World) (q_p0 : Nat) (p0 : Int × List (Bool × (Int × (Int × (Int × (Int × Int × Int × Int) × (Int × Int × Int × Int)) × (List (Int × Int × Int))) × Bool))) (p1 : Int) (r : Int × (Int × List (Bool × (Int × (Int × (Int × (Int × Int × Int × Int) × (Int × Int × Int × Int)) × (List (Int × Int × Int))) × Bool)))) (H : AQ p0 p1 = some r) (hL : Stw ⟨Y, X, w0⟩ [] [Bw q_p0 BO 16 p0] w0) :
    Calls Try.prog 10 #[.pointer (some ⟨q_p0, 0, none⟩), .int .i64 p1] w0 fun e w' => ∃ x : Unit, e = .returned (.int .i64 r.1) ∧ Stw ⟨Y, X, w0⟩ [] [Bw q_p0 BO 16 r.2] w' := by
 refine enter Try.func10 Aa Try.ntmps10 Aa fun a F => ?_
 have W := hL
 unfold AQ at H
 refine vc tk 10 F W fun a w F W => ?_
 refine AA (Ml := []) (Zl := [Bw q_p0 BO 16 p0]) (β := Unit) (rv := fun x => .int .i64 (Ao p0)) (MM := fun x => []) (ZZ := fun x => [Bw q_p0 BO 16 p0]) F W P9 Aa Aa (fun hL => BM _ _ w q_p0 p0 _ Aa hL) fun x a w F W => ?_
 have W : Stw ⟨Y, X, w0⟩ [] [Bw q_p0 BO 16 p0] w := W
 refine BJ tk 4 F W fun a w F W => ?_
 refine CL F Aa (fun hb => ?_) fun hb => ?_
 ·
  have H := B4 (Cn hb) H
  rw [hb] at F
  clear hb
  refine vc tk 5 F W fun a w F W => ?_
  refine Al (Az (Aq ?_))
  have H := Av H
  subst H
  refine Aw (.inl Aa) F W Aa (Ai F Aa) ?_
  exact ⟨(), Aa, W⟩
 have H := B5 (Cp hb) H
 rw [hb] at F
 clear hb
 obtain ⟨o1, G1, K1⟩ := Af H
 refine Au (fun a w => ∃ x1 : Bool, some (x1) = some o1 ∧ Fr 42 [] [(0, .pointer (some ⟨q_p0, 0, none⟩)), (1, .int .i64 p1), (4, .int .i64 0), (9, .bool x1)] a ∧ Stw ⟨Y, X, w0⟩ [] [Bw q_p0 BO 16 p0] w) ?_ ?_
 ·
  have H := G1
  clear G1 K1
  refine vc tk 2 F W fun a w F W => ?_
  refine AA (Ml := []) (Zl := [Bw q_p0 BO 16 p0]) (β := Unit) (rv := fun x => .int .i64 (Ao p0)) (MM := fun x => []) (ZZ := fun x => [Bw q_p0 BO 16 p0]) F W P9 Aa Aa (fun hL => BM _ _ w q_p0 p0 _ Aa hL) fun x a w F W => ?_
  have W : Stw ⟨Y, X, w0⟩ [] [Bw q_p0 BO 16 p0] w := W
  refine vl tk 2 F W fun a w F W => ?_
  rcases Bool.eq_false_or_eq_true (decide ((Ao p0) = 1)) with hb | hb
  ·
   have H := B4 (Cn hb) H
   rw [hb] at F
   clear hb
   refine vl tk 2 F W fun a w F W => ?_
   refine F2 (Ae F Aa Aa Aa Aa) ?_
   obtain ⟨x2, h1, H⟩ := Af H
   refine AA (Ml := []) (Zl := [Bw q_p0 BO 16 p0]) (β := Unit) (rv := fun x => .int .i64 x2) (MM := fun x => []) (ZZ := fun x => [Bw q_p0 BO 16 p0]) F W Sj Aa Aa (fun hL => DB _ _ w q_p0 p0 _ h1 hL) fun x a w F W => ?_
   have W : Stw ⟨Y, X, w0⟩ [] [Bw q_p0 BO 16 p0] w := W
   refine vl tk 4 F W fun a w F W => ?_
   refine Ad ?_
   exact ⟨_, H, F.ra Aa, W⟩
  have H := B5 (Cp hb) H
  rw [hb] at F
  clear hb
  refine vl tk 7 F W fun a w F W => ?_
  refine Ad ?_
  exact ⟨_, H, F.ra Aa, W⟩
 rintro a w ⟨x1, hj, F, W⟩
 have hj := Av hj
 subst hj
 have H := K1
 clear G1 K1
 refine BE F Aa H (fun F H => ?_) fun F H => ?_
 ·
  refine vc tk 5 F W fun a w F W => ?_
  refine Al (Az (Aq ?_))
  have H := Av H
  subst H
  refine Aw (.inl Aa) F W Aa (Ai F Aa) ?_
  exact ⟨(), Aa, W⟩
 obtain ⟨o2, G2, K2⟩ := Af H
 refine Au (fun a w => ∃ x3 : Bool, some (x3) = some o2 ∧ Fr 42 [] [(0, .pointer (some ⟨q_p0, 0, none⟩)), (1, .int .i64 p1), (4, .int .i64 0), (19, .bool x3)] a ∧ Stw ⟨Y, X, w0⟩ [] [Bw q_p0 BO 16 p0] w) ?_ ?_
 ·
  have H := G2
  clear G2 K2
  refine vc tk 3 F W fun a w F W => ?_
  refine AA (Ml := []) (Zl := [Bw q_p0 BO 16 p0]) (β := Unit) (rv := fun x => .int .i64 (Ao p0)) (MM := fun x => []) (ZZ := fun x => [Bw q_p0 BO 16 p0]) F W P9 Aa Aa (fun hL => BM _ _ w q_p0 p0 _ Aa hL) fun x a w F W => ?_
  have W : Stw ⟨Y, X, w0⟩ [] [Bw q_p0 BO 16 p0] w := W
  refine BJ tk 4 F W fun a w F W => ?_
  refine CL F Aa (fun hb => ?_) fun hb => ?_
  ·
   have H := B4 (Cn hb) H
   rw [hb] at F
   clear hb
   refine AC (Ad ?_)
   exact ⟨_, H, F.ra Aa, W⟩
  have H := B5 (Cp hb) H
  rw [hb] at F
  clear hb
  refine vc tk 7 F W fun a w F W => ?_
  refine CL F Aa (fun hb => ?_) fun hb => ?_
  ·
   have H := B4 (Cn hb) H
   rw [hb] at F
   clear hb
   refine AC (Ad ?_)
   exact ⟨_, H, F.ra Aa, W⟩
  have H := B5 (Cp hb) H
  rw [hb] at F
  clear hb
  refine vc tk 5 F W fun a w F W => ?_
  refine Ad ?_
  exact ⟨_, H, F.ra Aa, W⟩
 rintro a w ⟨x3, hj, F, W⟩
 have hj := Av hj
 subst hj
 have H := K2
 clear G2 K2
 refine BE F Aa H (fun F H => ?_) fun F H => ?_
 ·
  refine vc tk 5 F W fun a w F W => ?_
  refine Al (Az (Aq ?_))
  have H := Av H
  subst H
  refine Aw (.inl Aa) F W Aa (Ai F Aa) ?_
  exact ⟨(), Aa, W⟩
 refine GB ?_
 obtain ⟨v1, h2, W⟩ := W.exP Dz
 refine vc tk 2 F W fun a w F W => ?_
 refine ls F W Aa (AW F Aa).q fun a w F W => ?_
 refine vl tk 2 F W fun a w F W => ?_
 obtain ⟨x4, h3, H⟩ := Af H
 obtain ⟨v2, h4, h5⟩ := HB h2 (Ea h3).2
 refine ls F W Aa (Od M8 F Aa Aa (KH h3).1 (KH h3).2).q fun a w F W => ?_
 obtain ⟨x5, h6, H⟩ := Af H
 refine ls F W Aa (AM (v := Value.bool x5) F Tl Aa (fun w W => C9 any w ((Cu (Q6 q_p0 16) p1 (16 : Int) 14)) x4 _ h6 (Dc (IM (Bq Dz h2 (Jj (p := (p0.1, v1)) 0 Aa)) (Ea h3).2) W))) fun a w F W => ?_
 refine BJ tk 3 F W fun a w F W => ?_
 refine CL F Aa (fun hb => ?_) fun hb => ?_
 ·
  have H := B4 hb H
  rw [hb] at F
  clear hb
  refine vc tk 5 F W fun a w F W => ?_
  refine Al (Az (Aq ?_))
  have H := Av H
  subst H
  refine Aw (.inl Aa) F W Aa (Ai F Aa) ?_
  have W := W.hideP Dz h2
  exact ⟨(), Aa, W⟩
 have H := B5 (by rw [hb]; decide) H
 rw [hb] at F
 clear hb
 refine vc tk 3 F W fun a w F W => ?_
 obtain ⟨x6, h7, H⟩ := Af H
 have W := W.hideP Dz h2
 refine AA (Ml := []) (Zl := [Bw q_p0 BO 16 p0]) (β := Unit) (rv := fun x => .int .i64 x6) (MM := fun x => []) (ZZ := fun x => [Bw q_p0 BO 16 p0]) F W Sj Aa Aa (fun hL => DB _ _ w q_p0 p0 _ h7 hL) fun x a w F W => ?_
 have W : Stw ⟨Y, X, w0⟩ [] [Bw q_p0 BO 16 p0] w := W
 refine BJ tk 5 F W fun a w F W => ?_
 refine CL F Aa (fun hb => ?_) fun hb => ?_
 ·
  have H := B4 (Cn hb) H
  rw [hb] at F
  clear hb
  refine vc tk 5 F W fun a w F W => ?_
  refine Al (Az (Aq ?_))
  have H := Av H
  subst H
  refine Aw (.inl Aa) F W Aa (Ai F Aa) ?_
  exact ⟨(), Aa, W⟩
 have H := B5 (Cp hb) H
 rw [hb] at F
 clear hb
 refine AC (AF ?_)
 refine vn tk 3 F W fun a w F W => ?_
 refine ls F W Aa (AW F Aa).q fun a w F W => ?_
 refine ls F W Aa (Aj KS Aa Aa Aa T3 F Aa 0 Aa).q fun a w F W => ?_
 refine Mc (k := 0) F W Aa Aa Aa Aa T3 fun w W => ?_
 have W : Stw ⟨Y, X, w0⟩ [] [Bw q_p0 BO 16 (1, p0.2)] w := W
 refine BJ tk 7 F W fun a w F W => ?_
 refine Al ?_
 have H := Av H
 subst H
 refine Aw (.inl Aa) F W Aa (Ai F Aa) ?_
 exact ⟨(), Aa, W⟩
theorem LI : type_of% Try.underlying56 := Try.underlying56
theorem Sw : Has Try.prog 10 := BV Try.func10
theorem O3 : Et Try.prog 56 39 13 120 := Et.of LI (by kernel_rfl) (by kernel_rfl) (by kernel_rfl) (by decide)
abbrev RY (p : Int × (Int × (Int × (Int × Int × Int × Int) × (Int × Int × Int × Int)) × (Value × List (Int × Int × Int))) × Bool) : Int × (Int × (Int × (Int × Int × Int × Int) × (Int × Int × Int × Int)) × (List (Int × Int × Int))) × Bool := (p.1, (p.2.1.1, p.2.1.2.1, p.2.1.2.2.2), p.2.2)
theorem Ib : Ex EQ Ic RY := (Ex.pair Ex.rfl' (Ex.pair (Ex.pair Ex.rfl' (Ex.pair Ex.rfl' Ex.sliceF)) Ex.rfl'))
noncomputable def B0 (x3 : List (Bool × (Int × (Int × (Int × (Int × Int × Int × Int) × (Int × Int × Int × Int)) × (List (Int × Int × Int))) × Bool))) : ((List (Int × (Int × (Int × (Int × Int × Int × Int) × (Int × Int × Int × Int)) × (List (Int × Int × Int))) × Bool)) × Int) → Option (((List (Int × (Int × (Int × (Int × Int × Int × Int) × (Int × Int × Int × Int)) × (List (Int × Int × Int))) × Bool)) × Int) ⊕ (List (Int × (Int × (Int × (Int × Int × Int × Int) × (Int × Int × Int × Int)) × (List (Int × Int × Int))) × Bool)))
  | (x4, x5) => (if x5 < (x3.length : Int) then (ix x3 x5).bind fun x6 => (CS x6.2).bind fun x7 => (JQ x4 ([x7] : List (Int × (Int × (Int × (Int × Int × Int × Int) × (Int × Int × Int × Int)) × (List (Int × Int × Int))) × Bool))).bind fun x8 => some (.inl (x8, Cc (x5 + 1))) else some (.inr x4))
noncomputable def AY (p0 : Int × List (Bool × (Int × (Int × (Int × (Int × Int × Int × Int) × (Int × Int × Int × Int)) × (List (Int × Int × Int))) × Bool))) : Option (List (Int × (Int × (Int × (Int × Int × Int × Int) × (Int × Int × Int × Int)) × (List (Int × Int × Int))) × Bool)) := (if (Ao p0) ≠ 1 then some ([] : List (Int × (Int × (Int × (Int × Int × Int × Int) × (Int × Int × Int × Int)) × (List (Int × Int × Int))) × Bool)) else ((BD p0).bind fun x2 => (GA 16 p0.2 0 x2).bind fun x3 => AX (B0 x3) ([], 0)).bind fun x1 => some x1)
theorem DK (Y : Nat → Prop) (X : List Nat) (w0 : World) (q_p0 : Nat) (p0 : Int × List (Bool × (Int × (Int × (Int × (Int × Int × Int × Int) × (Int × Int × Int × Int)) × (List (Int × Int × Int))) × Bool))) (r : (List (Int × (Int × (Int × (Int × Int × Int × Int) × (Int × Int × Int × Int)) × (List (Int × Int × Int))) × Bool))) (H : AY p0 = some r) (hL : Stw ⟨Y, X, w0⟩ [] [Bw q_p0 BO 16 p0] w0) :
    Calls Try.prog 20 #[.pointer (some ⟨q_p0, 0, none⟩)] w0 fun e w' => ∃ x : Value, e = .returned (x) ∧ Stw ⟨Y, X, w0⟩ [] [Bw q_p0 BO 16 p0, row (x) 39 EQ r] w' := by
 refine enter Try.func20 Aa Try.ntmps20 Aa fun a F => ?_
 have W := hL
 unfold AY at H
 refine vc tk 9 F W fun a w F W => ?_
 refine AA (Ml := []) (Zl := [Bw q_p0 BO 16 p0]) (β := Unit) (rv := fun x => .int .i64 (Ao p0)) (MM := fun x => []) (ZZ := fun x => [Bw q_p0 BO 16 p0]) F W P9 Aa Aa (fun hL => BM _ _ w q_p0 p0 _ Aa hL) fun x a w F W => ?_
 have W : Stw ⟨Y, X, w0⟩ [] [Bw q_p0 BO 16 p0] w := W
 refine BJ tk 3 F W fun a w F W => ?_
 refine Bi F Aa H (fun F H => ?_) fun F H => ?_
 ·
  refine vc tk 5 F W fun a w F W => ?_
  refine Al (Aq ?_)
  have H := Av H
  subst H
  refine Aw (.inl Aa) F W Aa (Ai F Aa) ?_
  have W := W.nilRow 39 EQ
  have W := W.frontZ (i := 1) Aa Aa
  exact ⟨(Value.slice none 0 0), Aa, W⟩
 refine D6 tk 7 F W fun a w F W => ?_
 obtain ⟨o1, G1, K1⟩ := Af H
 refine Au (fun a w => ∃ x1 : List (Int × (Int × (Int × (Int × Int × Int × Int) × (Int × Int × Int × Int)) × (List (Int × Int × Int))) × Bool), ∃ v1 : Value, some (x1) = some o1 ∧ Fr 28 [] [(2, .slice none 0 0), (3, v1)] a ∧ Stw ⟨Y, X, w0⟩ [] [row v1 39 EQ x1, Bw q_p0 BO 16 p0] w) ?_ ?_
 ·
  have H := G1
  clear G1 K1
  refine GB ?_
  obtain ⟨v2, h1, W⟩ := W.exP Dz
  refine DN [(true, 0), (true, 1), (true, 2), (true, 3), (true, 7), (false, 4), (true, 5), (true, 6)] (CN ⟨Y, X, w0⟩ [] []) (fun ch a d v w h => by cases d <;> exact h) MO (by kernel_rfl) W (fun w W => ⟨_, _, W, Ap, Ap⟩) fun w W => ?_
  refine BQ (R := []) F Aa Aa (yC fun M Z hN hZ => Am F Aa) Aa Aa fun a F => ?_
  refine BQ (R := []) F Aa Aa (yC fun M Z hN hZ => AW F Aa) Aa Aa fun a F => ?_
  refine BQ (R := []) F Aa Aa (yC fun M Z hN hZ => Aj KS Aa Aa Aa Q5 F Aa 1 Aa) Aa Aa fun a F => ?_
  iterate 2 refine BQ (R := []) F Aa Aa (yC fun M Z hN hZ => Am F Aa) Aa Aa fun a F => ?_
  refine CT Aa ?_
  obtain ⟨x2, h2, H⟩ := Af H
  have W := W.hideP Dz h1
  refine AA (Ml := []) (Zl := [Bw q_p0 BO 16 p0]) (β := Unit) (rv := fun x => .int .i64 x2) (MM := fun x => []) (ZZ := fun x => [Bw q_p0 BO 16 p0]) F W Sj Aa Aa (fun hL => DB _ _ w q_p0 p0 _ h2 hL) fun x a w F W => ?_
  have W : Stw ⟨Y, X, w0⟩ [] [Bw q_p0 BO 16 p0] w := W
  refine A0 (N2 := []) (NZ2 := [(none, Bw q_p0 BO 16 p0)]) (N3 := []) (NZ3 := [(none, Bw q_p0 BO 16 p0)]) W Aa Aa Ap (all_cons (fun _ => (.head _)) Ap) ?_
  obtain ⟨x3, h3, H⟩ := Af H
  refine BQ (R := []) F Aa Aa (yC fun M Z hN hZ => Ns M8 F Aa Aa (Lv h3).1 (Lv h3).2) Aa Aa fun a F => ?_
  refine BQ (R := []) F Aa Aa (yC fun M Z hN hZ => B7 (r := BO) (l := x3) QA Aa F Aa (IM (Qz (p := p0) (hZ (none, Bw q_p0 BO 16 p0) (.head _) Aa)) (Ea h3).2)) Aa Aa fun a F => ?_
  refine ET ?_
  refine vn tk 1 F W fun a w F W => ?_
  have W := W.nilRow 39 EQ
  have W := W.frontZ (i := 1) Aa Aa
  have W := W.frontZ (i := 1) Aa Aa
  refine BA H (fun s a w => ∃ v3 : Value, Fr 28 [] [(2, .slice none 0 0), (3, v3), (14, (Cu (Q6 q_p0 16) (0 : Int) x2 14)), (15, .int .i64 (x3.length : Int)), (16, .int .i64 s.2)] a ∧ Stw ⟨Y, X, w0⟩ [] [row v3 39 EQ s.1, Bw q_p0 BO 16 p0] w) ⟨(Value.slice none 0 0), F.ra Aa, W⟩ fun s o a w H L2 hR => ?_
  obtain ⟨x4, x5⟩ := s
  obtain ⟨v3, F, W⟩ := hR
  have F : Fr 28 [] [(2, .slice none 0 0), (3, v3), (14, (Cu (Q6 q_p0 16) (0 : Int) x2 14)), (15, .int .i64 (x3.length : Int)), (16, .int .i64 x5)] a := F
  have W : Stw ⟨Y, X, w0⟩ [] [row v3 39 EQ x4, Bw q_p0 BO 16 p0] w := W
  rw [B0] at H
  refine vc tk 6 F W fun a w F W => ?_
  refine Bi F Aa H (fun F H => ?_) fun F H => ?_
  ·
   refine D6 tk 5 F W fun a w F W => ?_
   obtain ⟨v4, h4, W⟩ := W.exR Ib
   have W := W.frontZ (i := 1) Aa Aa
   obtain ⟨v5, h5, W⟩ := W.exP Dz
   obtain ⟨v6, h6, h7⟩ := HB h5 (Ea h3).2
   refine KF ?_
   obtain ⟨x6, h8, H⟩ := Af H
   obtain ⟨v7, h9, h10⟩ := BX h7 h8
   have h11 : GS v7 = [.bool x6.1, .int .i64 x6.2.1, .int .i64 x6.2.2.1.1, .int .i64 x6.2.2.1.2.1.1, .int .i64 x6.2.2.1.2.1.2.1.1, .int .i64 x6.2.2.1.2.1.2.1.2.1, .int .i64 x6.2.2.1.2.1.2.1.2.2.1, .int .i64 x6.2.2.1.2.1.2.1.2.2.2, .int .i64 x6.2.2.1.2.1.2.2.1, .int .i64 x6.2.2.1.2.1.2.2.2.1, .int .i64 x6.2.2.1.2.1.2.2.2.2.1, .int .i64 x6.2.2.1.2.1.2.2.2.2.2, (v7.2.2.1.2.2.1), .bool x6.2.2.2] := congrArg (fun q : Bool × (Int × (Int × (Int × (Int × Int × Int × Int) × (Int × Int × Int × Int)) × (List (Int × Int × Int))) × Bool) => ([.bool q.1, .int .i64 q.2.1, .int .i64 q.2.2.1.1, .int .i64 q.2.2.1.2.1.1, .int .i64 q.2.2.1.2.1.2.1.1, .int .i64 q.2.2.1.2.1.2.1.2.1, .int .i64 q.2.2.1.2.1.2.1.2.2.1, .int .i64 q.2.2.1.2.1.2.1.2.2.2, .int .i64 q.2.2.1.2.1.2.2.1, .int .i64 q.2.2.1.2.1.2.2.2.1, .int .i64 q.2.2.1.2.1.2.2.2.2.1, .int .i64 q.2.2.1.2.1.2.2.2.2.2, (v7.2.2.1.2.2.1), .bool q.2.2.2] : List Value)) h10
   refine ls F W Aa (AR (r := LL) SI F Aa Aa (IM (Jj (p := (p0.1, v5)) 0 Aa) h6) h9).q fun a w F W => ?_
   refine ls F W Aa (AD (y := Value.agg #[.bool x6.1, .int .i64 x6.2.1, .int .i64 x6.2.2.1.1, .int .i64 x6.2.2.1.2.1.1, .int .i64 x6.2.2.1.2.1.2.1.1, .int .i64 x6.2.2.1.2.1.2.1.2.1, .int .i64 x6.2.2.1.2.1.2.1.2.2.1, .int .i64 x6.2.2.1.2.1.2.1.2.2.2, .int .i64 x6.2.2.1.2.1.2.2.1, .int .i64 x6.2.2.1.2.1.2.2.2.1, .int .i64 x6.2.2.1.2.1.2.2.2.2.1, .int .i64 x6.2.2.1.2.1.2.2.2.2.2, (v7.2.2.1.2.2.1), .bool x6.2.2.2]) (j := 0) (i := x5) (enc := GS) F Aa Aa (IM (Jj (p := (p0.1, v5)) 0 Aa) h6) h9 L9 QZ (by rw [h11]; rfl)).q fun a w F W => ?_
   have W := W.note (W.pAt (p := (p0.1, v5)) (k := 0) Aa (Pl h6 h9) (Ay.snd (Ay.snd (Ay.fst (Ay.snd (Ay.snd Ay.here))))) (congrArg (fun q : Bool × (Int × (Int × (Int × (Int × Int × Int × Int) × (Int × Int × Int × Int)) × (List (Int × Int × Int))) × Bool) => q.2.2.1.2.2) h10))
   refine Ca (cs := (P7)) F W Aa SR Aa fun b1 a w F W => ?_
   refine Dh 0 F W Aa Aa Aa QZ Aa Aa (Ac Aa (Ac Aa (Ac Aa (Ac Aa (Ac Aa (Ac Aa (Ac Aa (Ac Aa (Ac Aa (Ac Aa (Ac Aa (Ac Aa (Ac (W.oneF (k := 0) Aa) (Ac Aa Cr)))))))))))))) fun w W => ?_
   refine Eo tk 6 [0] F W (ai fun a w F W => ?_)
   obtain ⟨x7, h12, H⟩ := Af H
   refine AA (Ml := []) (Zl := []) (β := Value) (rv := fun x => .agg #[.int .i64 x7.1, .int .i64 x7.2.1.1, .int .i64 x7.2.1.2.1.1, .int .i64 x7.2.1.2.1.2.1.1, .int .i64 x7.2.1.2.1.2.1.2.1, .int .i64 x7.2.1.2.1.2.1.2.2.1, .int .i64 x7.2.1.2.1.2.1.2.2.2, .int .i64 x7.2.1.2.1.2.2.1, .int .i64 x7.2.1.2.1.2.2.2.1, .int .i64 x7.2.1.2.1.2.2.2.2.1, .int .i64 x7.2.1.2.1.2.2.2.2.2, x, .bool x7.2.2]) (MM := fun x => []) (ZZ := fun x => [row x 88 Bk x7.2.1.2.2]) F W SP Aa Aa (fun hL => Gy _ w ((v7.2.2.1.2.2.1)) x6.2 _ h12 (W.item (i := 0) Aa)) fun x a w F W => ?_
   obtain ⟨v8, rfl⟩ : ∃ y, y = x := ⟨x, rfl⟩
   have W : Stw ⟨Y, X, w0⟩ [(b1, [.bool x6.1, .int .i64 x6.2.1, .int .i64 x6.2.2.1.1, .int .i64 x6.2.2.1.2.1.1, .int .i64 x6.2.2.1.2.1.2.1.1, .int .i64 x6.2.2.1.2.1.2.1.2.1, .int .i64 x6.2.2.1.2.1.2.1.2.2.1, .int .i64 x6.2.2.1.2.1.2.1.2.2.2, .int .i64 x6.2.2.1.2.1.2.2.1, .int .i64 x6.2.2.1.2.1.2.2.2.1, .int .i64 x6.2.2.1.2.1.2.2.2.2.1, .int .i64 x6.2.2.1.2.1.2.2.2.2.2, (v7.2.2.1.2.2.1), .bool x6.2.2.2])] [row v8 88 Bk x7.2.1.2.2, Bo (v7.2.2.1.2.2.1) Bk x6.2.2.1.2.2, Bw q_p0 LL 16 (p0.1, v5), row v3 39 Ic v4] w := W
   have W := W.freeze
   refine GJ (z := Value.agg #[.int .i64 0, .int .i64 0, .int .i64 0, .int .i64 0, .int .i64 0, .int .i64 0, .int .i64 0, .int .i64 0, .int .i64 0, .int .i64 0, .int .i64 0, .slice none 0 0, .bool false]) (cs := [.int .i64 x7.1, .int .i64 x7.2.1.1, .int .i64 x7.2.1.2.1.1, .int .i64 x7.2.1.2.1.2.1.1, .int .i64 x7.2.1.2.1.2.1.2.1, .int .i64 x7.2.1.2.1.2.1.2.2.1, .int .i64 x7.2.1.2.1.2.1.2.2.2, .int .i64 x7.2.1.2.1.2.2.1, .int .i64 x7.2.1.2.1.2.2.2.1, .int .i64 x7.2.1.2.1.2.2.2.2.1, .int .i64 x7.2.1.2.1.2.2.2.2.2, v8, .bool x7.2.2]) EQ ([x7] : List (Int × (Int × (Int × (Int × Int × Int × Int) × (Int × Int × Int × Int)) × (List (Int × Int × Int))) × Bool)) F W Aa O3 Pn Aa Aa Aa (B2 Aa Aa Aa C1) Aa Aa ⟨[Value.int .i64 x7.1, Value.int .i64 x7.2.1.1, Value.int .i64 x7.2.1.2.1.1, Value.int .i64 x7.2.1.2.1.2.1.1, Value.int .i64 x7.2.1.2.1.2.1.2.1, Value.int .i64 x7.2.1.2.1.2.1.2.2.1, Value.int .i64 x7.2.1.2.1.2.1.2.2.2, Value.int .i64 x7.2.1.2.1.2.2.1, Value.int .i64 x7.2.1.2.1.2.2.2.1, Value.int .i64 x7.2.1.2.1.2.2.2.2.1, Value.int .i64 x7.2.1.2.1.2.2.2.2.2, v8, Value.bool x7.2.2], _, Aa, ⟨[Value.int .i64 x7.1], [Value.int .i64 x7.2.1.1, Value.int .i64 x7.2.1.2.1.1, Value.int .i64 x7.2.1.2.1.2.1.1, Value.int .i64 x7.2.1.2.1.2.1.2.1, Value.int .i64 x7.2.1.2.1.2.1.2.2.1, Value.int .i64 x7.2.1.2.1.2.1.2.2.2, Value.int .i64 x7.2.1.2.1.2.2.1, Value.int .i64 x7.2.1.2.1.2.2.2.1, Value.int .i64 x7.2.1.2.1.2.2.2.2.1, Value.int .i64 x7.2.1.2.1.2.2.2.2.2, v8, Value.bool x7.2.2], Aa, Aa, ⟨[Value.int .i64 x7.2.1.1, Value.int .i64 x7.2.1.2.1.1, Value.int .i64 x7.2.1.2.1.2.1.1, Value.int .i64 x7.2.1.2.1.2.1.2.1, Value.int .i64 x7.2.1.2.1.2.1.2.2.1, Value.int .i64 x7.2.1.2.1.2.1.2.2.2, Value.int .i64 x7.2.1.2.1.2.2.1, Value.int .i64 x7.2.1.2.1.2.2.2.1, Value.int .i64 x7.2.1.2.1.2.2.2.2.1, Value.int .i64 x7.2.1.2.1.2.2.2.2.2, v8], [Value.bool x7.2.2], Aa, ⟨[Value.int .i64 x7.2.1.1], [Value.int .i64 x7.2.1.2.1.1, Value.int .i64 x7.2.1.2.1.2.1.1, Value.int .i64 x7.2.1.2.1.2.1.2.1, Value.int .i64 x7.2.1.2.1.2.1.2.2.1, Value.int .i64 x7.2.1.2.1.2.1.2.2.2, Value.int .i64 x7.2.1.2.1.2.2.1, Value.int .i64 x7.2.1.2.1.2.2.2.1, Value.int .i64 x7.2.1.2.1.2.2.2.2.1, Value.int .i64 x7.2.1.2.1.2.2.2.2.2, v8], Aa, Aa, ⟨[Value.int .i64 x7.2.1.2.1.1, Value.int .i64 x7.2.1.2.1.2.1.1, Value.int .i64 x7.2.1.2.1.2.1.2.1, Value.int .i64 x7.2.1.2.1.2.1.2.2.1, Value.int .i64 x7.2.1.2.1.2.1.2.2.2, Value.int .i64 x7.2.1.2.1.2.2.1, Value.int .i64 x7.2.1.2.1.2.2.2.1, Value.int .i64 x7.2.1.2.1.2.2.2.2.1, Value.int .i64 x7.2.1.2.1.2.2.2.2.2], [v8], Aa, ⟨[Value.int .i64 x7.2.1.2.1.1], [Value.int .i64 x7.2.1.2.1.2.1.1, Value.int .i64 x7.2.1.2.1.2.1.2.1, Value.int .i64 x7.2.1.2.1.2.1.2.2.1, Value.int .i64 x7.2.1.2.1.2.1.2.2.2, Value.int .i64 x7.2.1.2.1.2.2.1, Value.int .i64 x7.2.1.2.1.2.2.2.1, Value.int .i64 x7.2.1.2.1.2.2.2.2.1, Value.int .i64 x7.2.1.2.1.2.2.2.2.2], Aa, Aa, ⟨[Value.int .i64 x7.2.1.2.1.2.1.1, Value.int .i64 x7.2.1.2.1.2.1.2.1, Value.int .i64 x7.2.1.2.1.2.1.2.2.1, Value.int .i64 x7.2.1.2.1.2.1.2.2.2], [Value.int .i64 x7.2.1.2.1.2.2.1, Value.int .i64 x7.2.1.2.1.2.2.2.1, Value.int .i64 x7.2.1.2.1.2.2.2.2.1, Value.int .i64 x7.2.1.2.1.2.2.2.2.2], Aa, ⟨[Value.int .i64 x7.2.1.2.1.2.1.1], [Value.int .i64 x7.2.1.2.1.2.1.2.1, Value.int .i64 x7.2.1.2.1.2.1.2.2.1, Value.int .i64 x7.2.1.2.1.2.1.2.2.2], Aa, Aa, ⟨[Value.int .i64 x7.2.1.2.1.2.1.2.1], [Value.int .i64 x7.2.1.2.1.2.1.2.2.1, Value.int .i64 x7.2.1.2.1.2.1.2.2.2], Aa, Aa, ⟨[Value.int .i64 x7.2.1.2.1.2.1.2.2.1], [Value.int .i64 x7.2.1.2.1.2.1.2.2.2], Aa, Aa, Aa⟩⟩⟩, ⟨[Value.int .i64 x7.2.1.2.1.2.2.1], [Value.int .i64 x7.2.1.2.1.2.2.2.1, Value.int .i64 x7.2.1.2.1.2.2.2.2.1, Value.int .i64 x7.2.1.2.1.2.2.2.2.2], Aa, Aa, ⟨[Value.int .i64 x7.2.1.2.1.2.2.2.1], [Value.int .i64 x7.2.1.2.1.2.2.2.2.1, Value.int .i64 x7.2.1.2.1.2.2.2.2.2], Aa, Aa, ⟨[Value.int .i64 x7.2.1.2.1.2.2.2.2.1], [Value.int .i64 x7.2.1.2.1.2.2.2.2.2], Aa, Aa, Aa⟩⟩⟩⟩⟩, ⟨_, Aa, (W.item (i := 0) Aa)⟩⟩⟩, Aa⟩⟩, Aa⟩ fun v9 a w F W => ?_
   have W := W.frontZ (i := 4) Aa Aa
   have W := W.hideR Ib h4
   obtain ⟨x8, h13, H⟩ := Af H
   refine Ez (r := EQ) (i := 0) F W Aa O3 Aa Aa Aa Aa (FU W 1 Aa) h13 Aa fun v10 a w F W => ?_
   have W : Stw ⟨Y, X, w0⟩ [(b1, [.bool x6.1, .int .i64 x6.2.1, .int .i64 x6.2.2.1.1, .int .i64 x6.2.2.1.2.1.1, .int .i64 x6.2.2.1.2.1.2.1.1, .int .i64 x6.2.2.1.2.1.2.1.2.1, .int .i64 x6.2.2.1.2.1.2.1.2.2.1, .int .i64 x6.2.2.1.2.1.2.1.2.2.2, .int .i64 x6.2.2.1.2.1.2.2.1, .int .i64 x6.2.2.1.2.1.2.2.2.1, .int .i64 x6.2.2.1.2.1.2.2.2.2.1, .int .i64 x6.2.2.1.2.1.2.2.2.2.2, (v7.2.2.1.2.2.1), .bool x6.2.2.2])] [row v10 39 EQ x8, row v9 39 EQ ([x7] : List (Int × (Int × (Int × (Int × Int × Int × Int) × (Int × Int × Int × Int)) × (List (Int × Int × Int))) × Bool)), Bo v8 Bk x7.2.1.2.2, Bo (v7.2.2.1.2.2.1) Bk x6.2.2.1.2.2, Bw q_p0 LL 16 (p0.1, v5)] w := W
   refine vl tk 2 F W fun a w F W => ?_
   refine AF ?_
   refine vn tk 4 F W fun a w F W => ?_
   refine Ad ?_
   have W := W.frontZ (i := 4) Aa Aa
   have W := W.hideP Dz h5
   have W := W.frontZ (i := 1) Aa Aa
   have W := W.sub (M' := []) (Z' := [row v10 39 EQ x8, Bw q_p0 BO 16 p0]) (List.nil_sublist _) (List.Sublist.cons_cons _ (List.Sublist.cons_cons _ (List.nil_sublist _)))
   exact ⟨_, H, (v10), F.ra Aa, W⟩
  refine Bm ?_
  iterate 2 refine BU ?_
  refine Bp (Ad ?_)
  have W := W.frontZ (i := 1) Aa Aa
  have W := W.frontZ (i := 1) Aa Aa
  have H := L2 _ H
  exact ⟨_, (v3), H, F.ra Aa, W⟩
 rintro a w ⟨x1, v1, hj, F, W⟩
 have hj := Av hj
 subst hj
 have H := K1
 clear G1 K1
 refine vc tk 6 F W fun a w F W => ?_
 refine Al ?_
 have H := Av H
 subst H
 refine Aw (.inl Aa) F W Aa (Ai F Aa) ?_
 have W := W.frontZ (i := 1) Aa Aa
 exact ⟨(v1), Aa, W⟩
theorem Si : Has Try.prog 20 := BV Try.func20
abbrev Ia (a : Int × (Int × (Int × (Int × Int × Int × Int) × (Int × Int × Int × Int)) × (Value × List (Int × Int × Int))) × Bool) : List Value := [.int .i64 a.1, .int .i64 a.2.1.1, .int .i64 a.2.1.2.1.1, .int .i64 a.2.1.2.1.2.1.1, .int .i64 a.2.1.2.1.2.1.2.1, .int .i64 a.2.1.2.1.2.1.2.2.1, .int .i64 a.2.1.2.1.2.1.2.2.2, .int .i64 a.2.1.2.1.2.2.1, .int .i64 a.2.1.2.1.2.2.2.1, .int .i64 a.2.1.2.1.2.2.2.2.1, .int .i64 a.2.1.2.1.2.2.2.2.2, a.2.1.2.2.1, .bool a.2.2]
theorem NE : C3 Ic Ia := (C3.pair Fl.int.to (C3.pair (C3.pair Fl.int.to (C3.pair RC.to C3.vsl)) Fl.bool.to))
noncomputable def Eg (p0 : List (Int × Int × Int)) (p1 : List (Int × Int × Int)) : Int → Option (Int ⊕ (Unit ⊕ Bool))
  | x1 => (if x1 < (p0.length : Int) then (ix p0 x1).bind fun x2 => (ix p1 x1).bind fun x3 => (if (!(decide (x2.1 = x3.1 ∧ x2.2.1 = x3.2.1 ∧ x2.2.2 = x3.2.2))) = true then some (.inr (.inr false)) else some (.inl (Cc (x1 + 1)))) else some (.inr (.inl ())))
noncomputable def FD (p0 : List (Int × Int × Int)) (p1 : List (Int × Int × Int)) : Option Bool := (if (p0.length : Int) ≠ (p1.length : Int) then some false else FR (AX (Eg p0 p1) 0) fun _ => some true)
theorem LM (Y : Nat → Prop) (w0 : World) (v1 : Value) (v2 : Value) (p0 : List (Int × Int × Int)) (p1 : List (Int × Int × Int)) (r : Bool) (H : FD p0 p1 = some r) (h_v1 : Sl w0 (NX []) Bk v1 p0) (h_v2 : Sl w0 (NX []) Bk v2 p1) :
    Calls Try.prog 45 #[v1, v2] w0 fun e w' => e = .returned (.bool r) ∧ Below w0.heap.size w0 w' := by
 refine enter Try.func45 Aa Try.ntmps45 Aa fun a F => ?_
 have W := Stw.start Y w0
 unfold FD at H
 refine vc tk 9 F W fun a w F W => ?_
 refine ls F W Aa (B7 (r := Bk) (l := p0) Io Aa F Aa (An h_v1)).q fun a w F W => ?_
 refine ls F W Aa (Am F Aa).q fun a w F W => ?_
 refine ls F W Aa (B7 (r := Bk) (l := p1) Io Aa F Aa (An h_v2)).q fun a w F W => ?_
 refine BJ tk 3 F W fun a w F W => ?_
 refine Bi F Aa H (fun F H => ?_) fun F H => ?_
 ·
  refine vc tk 5 F W fun a w F W => ?_
  refine Al (Aq ?_)
  have H := Av H
  subst H
  refine Aw (.inl Aa) F W Aa (Ai F Aa) ?_
  exact ⟨rfl, W.done⟩
 refine AC (Ad ?_)
 obtain ⟨o1, G1, K1, L1⟩ := H1 H
 refine Au (fun a w => some (Sum.inl ()) = some o1 ∧ Fr 26 [] [(4, .bool false)] a ∧ Stw ⟨Y, [], w0⟩ [] [] w) ?_ ?_
 ·
  have H := G1
  clear G1 K1
  refine vc tk 6 F W fun a w F W => ?_
  refine BA H (fun s a w => Fr 26 [] [(0, v1), (1, v2), (4, .bool false), (5, .int .i64 s)] a ∧ Stw ⟨Y, [], w0⟩ [] [] w) ⟨F.ra Aa, W⟩ fun s o a w H L2 hR => ?_
  obtain ⟨x1, rfl⟩ : ∃ x, x = s := ⟨s, rfl⟩
  obtain ⟨F, W⟩ := hR
  have F : Fr 26 [] [(0, v1), (1, v2), (4, .bool false), (5, .int .i64 x1)] a := F
  have W : Stw ⟨Y, [], w0⟩ [] [] w := W
  rw [Eg] at H
  refine vc tk 5 F W fun a w F W => ?_
  refine ls F W Aa (B7 (r := Bk) (l := p0) Io Aa F Aa (An h_v1)).q fun a w F W => ?_
  refine BJ tk 3 F W fun a w F W => ?_
  refine Bi F Aa H (fun F H => ?_) fun F H => ?_
  ·
   refine D6 tk 5 F W fun a w F W => ?_
   refine Ck W MO (by kernel_rfl) ?_
   iterate 2 refine qs F Aa (Am F Aa).q fun a F => ?_
   obtain ⟨x2, h1, H⟩ := Af H
   refine qs F Aa (AR (r := Bk) PQ F Aa Aa (An h_v1) h1).q fun a F => ?_
   refine qs F Aa (AD (y := Value.agg #[.int .i64 x2.1, .int .i64 x2.2.1, .int .i64 x2.2.2]) (j := 0) (i := x1) F Aa Aa (An h_v1) h1 Qa.to Qt Aa).q fun a F => ?_
   iterate 2 refine qs F Aa (Am F Aa).q fun a F => ?_
   obtain ⟨x3, h2, H⟩ := Af H
   refine qs F Aa (AR (r := Bk) PQ F Aa Aa (An h_v2) h2).q fun a F => ?_
   refine qs F Aa (AD (y := Value.agg #[.int .i64 x3.1, .int .i64 x3.2.1, .int .i64 x3.2.2]) (j := 0) (i := x1) F Aa Aa (An h_v2) h2 Qa.to Qt Aa).q fun a F => ?_
   refine qs F Aa (Ob (t := decide (x2.1 = x3.1 ∧ x2.2.1 = x3.2.1 ∧ x2.2.2 = x3.2.2)) SJ (SC _ _ _ _ _ _) F Aa Aa).q fun a F => ?_
   refine AJ fun w W => ?_
   refine Ad ?_
   refine BE F Aa H (fun F H => ?_) fun F H => ?_
   ·
    refine vc tk 5 F W fun a w F W => ?_
    refine Al (Az ?_)
    iterate 2 refine Aq ?_
    refine Az (Aq ?_)
    have H := L2 _ H
    have H := L1 _ H
    have H := Av H
    subst H
    refine Aw (.inl Aa) F W Aa (Ai F Aa) ?_
    exact ⟨rfl, W.done⟩
   refine AC (AF ?_)
   refine vn tk 5 F W fun a w F W => ?_
   refine Ad ?_
   exact ⟨_, H, F.ra Aa, W⟩
  refine Bm ?_
  iterate 2 refine BU ?_
  refine Bp (Ad ?_)
  have H := L2 _ H
  exact ⟨H, F.ra Aa, W⟩
 rintro a w ⟨hj, F, W⟩
 have H := K1 _ hj
 clear hj G1 K1 L1
 refine vc tk 5 F W fun a w F W => ?_
 refine Al ?_
 have H := Av H
 subst H
 refine Aw (.inl Aa) F W Aa (Ai F Aa) ?_
 exact ⟨rfl, W.done⟩
theorem S7 : Has Try.prog 45 := BV Try.func45
noncomputable def E8 (p0 : Int × (Int × (Int × Int × Int × Int) × (Int × Int × Int × Int)) × (List (Int × Int × Int))) (p1 : Int × (Int × (Int × Int × Int × Int) × (Int × Int × Int × Int)) × (List (Int × Int × Int))) : Option Bool := (if p0.1 = p1.1 then (if p0.2.1.1 = p1.2.1.1 ∧ p0.2.1.2.1.1 = p1.2.1.2.1.1 ∧ p0.2.1.2.1.2.1 = p1.2.1.2.1.2.1 ∧ p0.2.1.2.1.2.2.1 = p1.2.1.2.1.2.2.1 ∧ p0.2.1.2.1.2.2.2 = p1.2.1.2.1.2.2.2 ∧ p0.2.1.2.2.1 = p1.2.1.2.2.1 ∧ p0.2.1.2.2.2.1 = p1.2.1.2.2.2.1 ∧ p0.2.1.2.2.2.2.1 = p1.2.1.2.2.2.2.1 ∧ p0.2.1.2.2.2.2.2 = p1.2.1.2.2.2.2.2 then (FD p0.2.2 p1.2.2).bind fun x2 => some x2 else some false) else some false).bind fun x1 => some x1
theorem I9 (Y : Nat → Prop) (w0 : World) (v1 : Value) (v2 : Value) (p0 : Int × (Int × (Int × Int × Int × Int) × (Int × Int × Int × Int)) × (List (Int × Int × Int))) (p1 : Int × (Int × (Int × Int × Int × Int) × (Int × Int × Int × Int)) × (List (Int × Int × Int))) (r : Bool) (H : E8 p0 p1 = some r) (h_v1 : Sl w0 (NX []) Bk v1 p0.2.2) (h_v2 : Sl w0 (NX []) Bk v2 p1.2.2) :
    Calls Try.prog 35 #[.agg #[.int .i64 p0.1, .int .i64 p0.2.1.1, .int .i64 p0.2.1.2.1.1, .int .i64 p0.2.1.2.1.2.1, .int .i64 p0.2.1.2.1.2.2.1, .int .i64 p0.2.1.2.1.2.2.2, .int .i64 p0.2.1.2.2.1, .int .i64 p0.2.1.2.2.2.1, .int .i64 p0.2.1.2.2.2.2.1, .int .i64 p0.2.1.2.2.2.2.2, v1], .agg #[.int .i64 p1.1, .int .i64 p1.2.1.1, .int .i64 p1.2.1.2.1.1, .int .i64 p1.2.1.2.1.2.1, .int .i64 p1.2.1.2.1.2.2.1, .int .i64 p1.2.1.2.1.2.2.2, .int .i64 p1.2.1.2.2.1, .int .i64 p1.2.1.2.2.2.1, .int .i64 p1.2.1.2.2.2.2.1, .int .i64 p1.2.1.2.2.2.2.2, v2]] w0 fun e w' => e = .returned (.bool r) ∧ Below w0.heap.size w0 w' := by
 refine enter Try.func35 Aa Try.ntmps35 Aa fun a F => ?_
 have W := Stw.start Y w0
 unfold E8 at H
 refine vc tk 2 F W fun a w F W => ?_
 refine BR (cs := (DZ p0 v1)) F W Aa Aa Aa fun b1 a w F W => ?_
 refine BR (cs := (DZ p1 v2)) F W Aa Aa Aa fun b2 a w F W => ?_
 refine vl tk 2 F W fun a w F W => ?_
 refine Ad ?_
 obtain ⟨o1, G1, K1⟩ := Af H
 refine Au (fun a w => ∃ x1 : Bool, some (x1) = some o1 ∧ Fr 24 [] [(4, .bool x1)] a ∧ Stw ⟨Y, [], w0⟩ (OD b2 p1 v2 b1 p0 v1) [] w) ?_ ?_
 ·
  have H := G1
  clear G1 K1
  refine Fq tk 7 [1, 0] F W (ai (ai fun a w F W => ?_))
  rcases Bool.eq_false_or_eq_true (decide (p0.1 = p1.1)) with hb | hb
  ·
   have H := B4 (Cn hb) H
   rw [hb] at F
   clear hb
   refine Fu tk 4 [1, 0] F W (ai (ai fun a w F W => ?_))
   refine FE F W (Ae F Aa Aa Aa Aa) Aa (As Aa) (KU (t := decide (p0.2.1.1 = p1.2.1.1 ∧ p0.2.1.2.1.1 = p1.2.1.2.1.1 ∧ p0.2.1.2.1.2.1 = p1.2.1.2.1.2.1 ∧ p0.2.1.2.1.2.2.1 = p1.2.1.2.1.2.2.1 ∧ p0.2.1.2.1.2.2.2 = p1.2.1.2.1.2.2.2 ∧ p0.2.1.2.2.1 = p1.2.1.2.2.1 ∧ p0.2.1.2.2.2.1 = p1.2.1.2.2.2.1 ∧ p0.2.1.2.2.2.2.1 = p1.2.1.2.2.2.2.1 ∧ p0.2.1.2.2.2.2.2 = p1.2.1.2.2.2.2.2)) Q4 (QX _ _ _ _ _ _ _ _ _ _ _ _ _ _ _ _ _ _) F Aa Aa).q fun a w F W => ?_
   refine vl tk 2 F W fun a w F W => ?_
   rcases Bool.eq_false_or_eq_true (decide (p0.2.1.1 = p1.2.1.1 ∧ p0.2.1.2.1.1 = p1.2.1.2.1.1 ∧ p0.2.1.2.1.2.1 = p1.2.1.2.1.2.1 ∧ p0.2.1.2.1.2.2.1 = p1.2.1.2.1.2.2.1 ∧ p0.2.1.2.1.2.2.2 = p1.2.1.2.1.2.2.2 ∧ p0.2.1.2.2.1 = p1.2.1.2.2.1 ∧ p0.2.1.2.2.2.1 = p1.2.1.2.2.2.1 ∧ p0.2.1.2.2.2.2.1 = p1.2.1.2.2.2.2.1 ∧ p0.2.1.2.2.2.2.2 = p1.2.1.2.2.2.2.2)) with hb | hb
   ·
    have H := B4 (Cn hb) H
    rw [hb] at F
    clear hb
    refine Fu tk 4 [1, 0] F W (ai (ai fun a w F W => ?_))
    refine F2 (Ae F Aa Aa Aa Aa) ?_
    obtain ⟨x2, h1, H⟩ := Af H
    refine ls F W Aa (AM (v := Value.bool x2) F S7 Aa (fun w W => LM any w (v1) (v2) p0.2.2 p1.2.2 _ h1 (Dc (An h_v1) W) (Dc (An h_v2) W))) fun a w F W => ?_
    refine vl tk 3 F W fun a w F W => ?_
    refine Ad ?_
    have W := W.frontM (i := 1) Aa Aa
    have W := W.frontM (i := 1) Aa Aa
    exact ⟨_, H, F.ra Aa, W⟩
   have H := B5 (Cp hb) H
   rw [hb] at F
   clear hb
   refine vl tk 8 F W fun a w F W => ?_
   refine Ad ?_
   have W := W.frontM (i := 1) Aa Aa
   have W := W.frontM (i := 1) Aa Aa
   exact ⟨_, H, F.ra Aa, W⟩
  have H := B5 (Cp hb) H
  rw [hb] at F
  clear hb
  refine vl tk 15 F W fun a w F W => ?_
  refine Ad ?_
  have W := W.frontM (i := 1) Aa Aa
  have W := W.frontM (i := 1) Aa Aa
  exact ⟨_, H, F.ra Aa, W⟩
 rintro a w ⟨x1, hj, F, W⟩
 have hj := Av hj
 subst hj
 have H := K1
 clear G1 K1
 refine Al ?_
 have H := Av H
 subst H
 refine Aw (.inl Aa) F W Aa (Ai F Aa) ?_
 exact ⟨rfl, W.done⟩
theorem Ss : Has Try.prog 35 := BV Try.func35
noncomputable def DH (p0 : Int × (Int × (Int × (Int × Int × Int × Int) × (Int × Int × Int × Int)) × (List (Int × Int × Int))) × Bool) (p1 : Int × (Int × (Int × (Int × Int × Int × Int) × (Int × Int × Int × Int)) × (List (Int × Int × Int))) × Bool) : Option Bool := (if p0.1 = p1.1 then (if p0.2.2 = p1.2.2 then (E8 p0.2.1 p1.2.1).bind fun x2 => some x2 else some false) else some false).bind fun x1 => some x1
theorem Gt (Y : Nat → Prop) (w0 : World) (v1 : Value) (v2 : Value) (p0 : Int × (Int × (Int × (Int × Int × Int × Int) × (Int × Int × Int × Int)) × (List (Int × Int × Int))) × Bool) (p1 : Int × (Int × (Int × (Int × Int × Int × Int) × (Int × Int × Int × Int)) × (List (Int × Int × Int))) × Bool) (r : Bool) (H : DH p0 p1 = some r) (h_v1 : Sl w0 (NX []) Bk v1 p0.2.1.2.2) (h_v2 : Sl w0 (NX []) Bk v2 p1.2.1.2.2) :
    Calls Try.prog 26 #[.agg #[.int .i64 p0.1, .int .i64 p0.2.1.1, .int .i64 p0.2.1.2.1.1, .int .i64 p0.2.1.2.1.2.1.1, .int .i64 p0.2.1.2.1.2.1.2.1, .int .i64 p0.2.1.2.1.2.1.2.2.1, .int .i64 p0.2.1.2.1.2.1.2.2.2, .int .i64 p0.2.1.2.1.2.2.1, .int .i64 p0.2.1.2.1.2.2.2.1, .int .i64 p0.2.1.2.1.2.2.2.2.1, .int .i64 p0.2.1.2.1.2.2.2.2.2, v1, .bool p0.2.2], .agg #[.int .i64 p1.1, .int .i64 p1.2.1.1, .int .i64 p1.2.1.2.1.1, .int .i64 p1.2.1.2.1.2.1.1, .int .i64 p1.2.1.2.1.2.1.2.1, .int .i64 p1.2.1.2.1.2.1.2.2.1, .int .i64 p1.2.1.2.1.2.1.2.2.2, .int .i64 p1.2.1.2.1.2.2.1, .int .i64 p1.2.1.2.1.2.2.2.1, .int .i64 p1.2.1.2.1.2.2.2.2.1, .int .i64 p1.2.1.2.1.2.2.2.2.2, v2, .bool p1.2.2]] w0 fun e w' => e = .returned (.bool r) ∧ Below w0.heap.size w0 w' := by
 refine enter Try.func26 Aa Try.ntmps26 Aa fun a F => ?_
 have W := Stw.start Y w0
 unfold DH at H
 refine vc tk 2 F W fun a w F W => ?_
 refine BR (cs := (Fa p0 v1)) F W Aa Aa Aa fun b1 a w F W => ?_
 refine BR (cs := (Fa p1 v2)) F W Aa Aa Aa fun b2 a w F W => ?_
 refine vl tk 2 F W fun a w F W => ?_
 refine Ad ?_
 obtain ⟨o1, G1, K1⟩ := Af H
 refine Au (fun a w => ∃ x1 : Bool, some (x1) = some o1 ∧ Fr 24 [] [(4, .bool x1)] a ∧ Stw ⟨Y, [], w0⟩ (Qf b2 p1 v2 b1 p0 v1) [] w) ?_ ?_
 ·
  have H := G1
  clear G1 K1
  refine Fq tk 7 [1, 0] F W (ai (ai fun a w F W => ?_))
  rcases Bool.eq_false_or_eq_true (decide (p0.1 = p1.1)) with hb | hb
  ·
   have H := B4 (Cn hb) H
   rw [hb] at F
   clear hb
   refine Fu tk 4 [1, 0] F W (ai (ai fun a w F W => ?_))
   refine FE F W (Ae F Aa Aa Aa Aa) Aa (As Aa) (P1 Sz F Aa Aa).q fun a w F W => ?_
   refine vl tk 2 F W fun a w F W => ?_
   rcases Bool.eq_false_or_eq_true (decide (p0.2.2 = p1.2.2)) with hb | hb
   ·
    have H := B4 (Cn hb) H
    rw [hb] at F
    clear hb
    refine Fu tk 4 [1, 0] F W (ai (ai fun a w F W => ?_))
    refine F2 (Ae F Aa Aa Aa Aa) ?_
    obtain ⟨x2, h1, H⟩ := Af H
    refine ls F W Aa (AM (v := Value.bool x2) F Ss Aa (fun w W => I9 any w (v1) (v2) p0.2.1 p1.2.1 _ h1 (Dc (An h_v1) W) (Dc (An h_v2) W))) fun a w F W => ?_
    refine vl tk 3 F W fun a w F W => ?_
    refine Ad ?_
    have W := W.frontM (i := 1) Aa Aa
    have W := W.frontM (i := 1) Aa Aa
    exact ⟨_, H, F.ra Aa, W⟩
   have H := B5 (Cp hb) H
   rw [hb] at F
   clear hb
   refine vl tk 8 F W fun a w F W => ?_
   refine Ad ?_
   have W := W.frontM (i := 1) Aa Aa
   have W := W.frontM (i := 1) Aa Aa
   exact ⟨_, H, F.ra Aa, W⟩
  have H := B5 (Cp hb) H
  rw [hb] at F
  clear hb
  refine vl tk 15 F W fun a w F W => ?_
  refine Ad ?_
  have W := W.frontM (i := 1) Aa Aa
  have W := W.frontM (i := 1) Aa Aa
  exact ⟨_, H, F.ra Aa, W⟩
 rintro a w ⟨x1, hj, F, W⟩
 have hj := Av hj
 subst hj
 have H := K1
 clear G1 K1
 refine Al ?_
 have H := Av H
 subst H
 refine Aw (.inl Aa) F W Aa (Ai F Aa) ?_
 exact ⟨rfl, W.done⟩
end Go.Proofs.Ytfnmlmglmegamaa
