/- The functions of layer 11, D5. Conditions: none. -/
import Derived.Test.YtkjjioigbpkifaadA0
namespace Go.Proofs.Ytkjjioigbpkifaa
open Go Go.RowKit
set_option linter.unusedVariables false
set_option linter.unusedSimpArgs false
set_option maxRecDepth 20000
theorem Ol : Has Try.prog 30 := ⟨fun args w => An Try.func30 rfl (by decide) args w⟩
theorem T4 : Ty Try.prog 4 false 1 := ⟨by kernel_rfl, by kernel_rfl⟩
noncomputable def Cs (p1 : Int × (Int × Int × Int × Int) × (Int × Int × Int × Int)) : (Int × Int × Int × Int × Int × Int × Int × Int × Int) → Option ((Int × Int × Int × Int × Int × Int × Int × Int × Int) ⊕ ((Int × Int × Int × Int × Int × Int × Int × Int) ⊕ ((Int × (Int × Int × Int × Int) × (Int × Int × Int × Int)) × Bool)))
  | (x10, x11, x12, x13, x14, x15, x16, x17, x18) => (if x10 < 4 then (ix ([x11, x12, x13, x14] : List Int) x10).bind fun x19 => (ix ([p1.2.1.1, p1.2.1.2.1, p1.2.1.2.2.1, p1.2.1.2.2.2] : List Int) x10).bind fun x20 => (ix ([x15, x16, x17, x18] : List Int) x10).bind fun x21 => (ix ([p1.2.2.1, p1.2.2.2.1, p1.2.2.2.2.1, p1.2.2.2.2.2] : List Int) x10).bind fun x22 => (if (GR .i64 (GR .i64 (IE .i64 x19 x20) x21) x22) ≠ 0 then some (.inr (.inr ((0, (0, 0, 0, 0), (0, 0, 0, 0)), false))) else (ix ([x11, x12, x13, x14] : List Int) x10).bind fun x23 => (ix ([p1.2.1.1, p1.2.1.2.1, p1.2.1.2.2.1, p1.2.1.2.2.2] : List Int) x10).bind fun x24 => (ix ([x11, x12, x13, x14] : List Int) x10).bind fun x25 => (ix ([x15, x16, x17, x18] : List Int) x10).bind fun x26 => (ix ([p1.2.2.1, p1.2.2.2.1, p1.2.2.2.2.1, p1.2.2.2.2.2] : List Int) x10).bind fun x27 => (ix ([x15, x16, x17, x18] : List Int) x10).bind fun x28 => some (.inl (CG (x10 + 1), (if x10 = 0 then EL .i64 x23 x24 else x11), (if x10 = 1 then EL .i64 x23 x24 else x12), (if x10 = 2 then EL .i64 x23 x24 else x13), (if x10 = 3 then EL .i64 x23 x24 else x14), (if x10 = 0 then EL .i64 x26 x27 else x15), (if x10 = 1 then EL .i64 x26 x27 else x16), (if x10 = 2 then EL .i64 x26 x27 else x17), (if x10 = 3 then EL .i64 x26 x27 else x18)))) else some (.inr (.inl (x11, x12, x13, x14, x15, x16, x17, x18))))
noncomputable def Do (p0 : Int × (Int × Int × Int × Int) × (Int × Int × Int × Int)) (p1 : Int × (Int × Int × Int × Int) × (Int × Int × Int × Int)) : Option ((Int × (Int × Int × Int × Int) × (Int × Int × Int × Int)) × Bool) := (if p0.1 = (-1) then some p1.1 else some p0.1).bind fun x1 => (if (decide (p1.1 ≠ (-1)) && decide (x1 ≠ p1.1)) = true then some ((0, (0, 0, 0, 0), (0, 0, 0, 0)), false) else FL (Bh (Cs p1) (0, p0.2.1.1, p0.2.1.2.1, p0.2.1.2.2.1, p0.2.1.2.2.2, p0.2.2.1, p0.2.2.2.1, p0.2.2.2.2.1, p0.2.2.2.2.2)) fun (x2, x3, x4, x5, x6, x7, x8, x9) => some ((x1, (x2, x3, x4, x5), (x6, x7, x8, x9)), true))
theorem GG (Y : Nat → Prop) (w0 : World)  (p0 : Int × (Int × Int × Int × Int) × (Int × Int × Int × Int)) (p1 : Int × (Int × Int × Int × Int) × (Int × Int × Int × Int)) (r : (Int × (Int × Int × Int × Int) × (Int × Int × Int × Int)) × Bool) (H : Do p0 p1 = some r)  :
    Calls Try.prog 79 #[.agg #[.int .i64 p0.1, .int .i64 p0.2.1.1, .int .i64 p0.2.1.2.1, .int .i64 p0.2.1.2.2.1, .int .i64 p0.2.1.2.2.2, .int .i64 p0.2.2.1, .int .i64 p0.2.2.2.1, .int .i64 p0.2.2.2.2.1, .int .i64 p0.2.2.2.2.2], .agg #[.int .i64 p1.1, .int .i64 p1.2.1.1, .int .i64 p1.2.1.2.1, .int .i64 p1.2.1.2.2.1, .int .i64 p1.2.1.2.2.2, .int .i64 p1.2.2.1, .int .i64 p1.2.2.2.1, .int .i64 p1.2.2.2.2.1, .int .i64 p1.2.2.2.2.2]] w0 fun e w' => e = .returned (.tuple #[.agg #[.int .i64 r.1.1, .int .i64 r.1.2.1.1, .int .i64 r.1.2.1.2.1, .int .i64 r.1.2.1.2.2.1, .int .i64 r.1.2.1.2.2.2, .int .i64 r.1.2.2.1, .int .i64 r.1.2.2.2.1, .int .i64 r.1.2.2.2.2.1, .int .i64 r.1.2.2.2.2.2], .bool r.2]) ∧ Below w0.heap.size w0 w' := by
 refine enter Try.func79 Aa Try.ntmps79 Aa fun a F => ?_
 have W := Stw.start Y w0
 unfold Do at H
 refine Ak (Ae ?_)
 refine B2 (cs := [.int .i64 p0.1, .int .i64 p0.2.1.1, .int .i64 p0.2.1.2.1, .int .i64 p0.2.1.2.2.1, .int .i64 p0.2.1.2.2.2, .int .i64 p0.2.2.1, .int .i64 p0.2.2.2.1, .int .i64 p0.2.2.2.2.1, .int .i64 p0.2.2.2.2.2]) F W Aa Aa Aa fun b1 a w F W => ?_
 refine B2 (cs := [.int .i64 p1.1, .int .i64 p1.2.1.1, .int .i64 p1.2.1.2.1, .int .i64 p1.2.1.2.2.1, .int .i64 p1.2.1.2.2.2, .int .i64 p1.2.2.1, .int .i64 p1.2.2.2.1, .int .i64 p1.2.2.2.2.1, .int .i64 p1.2.2.2.2.2]) F W Aa Aa Aa fun b2 a w F W => ?_
 refine Cp (cs := [.int .i64 0, .int .i64 0, .int .i64 0, .int .i64 0, .int .i64 0, .int .i64 0, .int .i64 0, .int .i64 0, .int .i64 0]) F W Aa Mv Aa fun b3 a w F W => ?_
 refine ls F W Aa (Af F Aa).q fun a w F W => ?_
 refine Ag (Ad ?_)
 obtain ⟨o1, G1, K1⟩ := Aq H
 refine AY (fun a w => ∃ x1 : Int, some (x1) = some o1 ∧ Fr 72 [] [(2, .pointer (some ⟨b1, 0, none⟩)), (3, .pointer (some ⟨b2, 0, none⟩)), (4, .pointer (some ⟨b3, 0, none⟩)), (5, .bool false)] a ∧ Stw ⟨Y, [], w0⟩ [(b3, [.int .i64 0, .int .i64 0, .int .i64 0, .int .i64 0, .int .i64 0, .int .i64 0, .int .i64 0, .int .i64 0, .int .i64 0]), (b2, [.int .i64 p1.1, .int .i64 p1.2.1.1, .int .i64 p1.2.1.2.1, .int .i64 p1.2.1.2.2.1, .int .i64 p1.2.1.2.2.2, .int .i64 p1.2.2.1, .int .i64 p1.2.2.2.1, .int .i64 p1.2.2.2.2.1, .int .i64 p1.2.2.2.2.2]), (b1, [.int .i64 x1, .int .i64 p0.2.1.1, .int .i64 p0.2.1.2.1, .int .i64 p0.2.1.2.2.1, .int .i64 p0.2.1.2.2.2, .int .i64 p0.2.2.1, .int .i64 p0.2.2.2.1, .int .i64 p0.2.2.2.2.1, .int .i64 p0.2.2.2.2.2])] [] w) ?_ ?_
 ·
  have H := G1
  clear G1 K1
  refine Ak (Ae ?_)
  refine ls F W Aa (Al C3 Aa Aa Aa T3 F Aa 0 Aa).q fun a w F W => ?_
  refine ls F W Aa (As (v := Value.int .i64 p0.1) 2 F Aa Aa T3 Aa).q fun a w F W => ?_
  refine ls F W Aa (BJ F Aa Aa).q fun a w F W => ?_
  refine Ag (Ad ?_)
  refine AA F Aa (fun hb => ?_) fun hb => ?_
  ·
   have H := AU (Bd hb) H
   rw [hb] at F
   clear hb
   refine Ae ?_
   refine ls F W Aa (Al C3 Aa Aa Aa T3 F Aa 0 Aa).q fun a w F W => ?_
   refine ls F W Aa (As (v := Value.int .i64 p1.1) 1 F Aa Aa T3 Aa).q fun a w F W => ?_
   refine ls F W Aa (Al C3 Aa Aa Aa T3 F Aa 0 Aa).q fun a w F W => ?_
   refine BN (vs := [.int .i64 p1.1]) (M' := [(b3, [.int .i64 0, .int .i64 0, .int .i64 0, .int .i64 0, .int .i64 0, .int .i64 0, .int .i64 0, .int .i64 0, .int .i64 0]), (b2, [.int .i64 p1.1, .int .i64 p1.2.1.1, .int .i64 p1.2.1.2.1, .int .i64 p1.2.1.2.2.1, .int .i64 p1.2.1.2.2.2, .int .i64 p1.2.2.1, .int .i64 p1.2.2.2.1, .int .i64 p1.2.2.2.2.1, .int .i64 p1.2.2.2.2.2]), (b1, [.int .i64 p1.1, .int .i64 p0.2.1.1, .int .i64 p0.2.1.2.1, .int .i64 p0.2.1.2.2.1, .int .i64 p0.2.1.2.2.2, .int .i64 p0.2.2.1, .int .i64 p0.2.2.2.1, .int .i64 p0.2.2.2.2.1, .int .i64 p0.2.2.2.2.2])]) 2 F W Aa Aa Aa T3 Aa Aa Aa Aa Aa fun w W => ?_
   refine Ag (Ad ?_)
   have W := W.frontM (i := 2) Aa Aa
   have W := W.frontM (i := 2) Aa Aa
   have W := W.frontM (i := 2) Aa Aa
   exact ⟨_, H, F.re ⟨rfl, Aa, Aa, Aa, trivial⟩, W⟩
  have H := AV (Be hb) H
  rw [hb] at F
  clear hb
  refine Az (Ad ?_)
  have W := W.frontM (i := 2) Aa Aa
  have W := W.frontM (i := 2) Aa Aa
  have W := W.frontM (i := 2) Aa Aa
  exact ⟨_, H, F.re ⟨rfl, Aa, Aa, Aa, trivial⟩, W⟩
 rintro a w ⟨x1, hj, F, W⟩
 have hj := AZ hj
 subst hj
 have H := K1
 clear G1 K1
 refine Ak ?_
 refine AY (fun a w => Fr 72 [] [(2, .pointer (some ⟨b1, 0, none⟩)), (3, .pointer (some ⟨b2, 0, none⟩)), (4, .pointer (some ⟨b3, 0, none⟩)), (5, .bool false), (22, .bool (decide (p1.1 ≠ (-1)) && decide (x1 ≠ p1.1)))] a ∧ Stw ⟨Y, [], w0⟩ [(b3, [.int .i64 0, .int .i64 0, .int .i64 0, .int .i64 0, .int .i64 0, .int .i64 0, .int .i64 0, .int .i64 0, .int .i64 0]), (b2, [.int .i64 p1.1, .int .i64 p1.2.1.1, .int .i64 p1.2.1.2.1, .int .i64 p1.2.1.2.2.1, .int .i64 p1.2.1.2.2.2, .int .i64 p1.2.2.1, .int .i64 p1.2.2.2.1, .int .i64 p1.2.2.2.2.1, .int .i64 p1.2.2.2.2.2]), (b1, [.int .i64 x1, .int .i64 p0.2.1.1, .int .i64 p0.2.1.2.1, .int .i64 p0.2.1.2.2.1, .int .i64 p0.2.1.2.2.2, .int .i64 p0.2.2.1, .int .i64 p0.2.2.2.1, .int .i64 p0.2.2.2.2.1, .int .i64 p0.2.2.2.2.2])] [] w) ?_ ?_
 ·
  refine Ae ?_
  refine ls F W Aa (Al C3 Aa Aa Aa T3 F Aa 0 Aa).q fun a w F W => ?_
  refine ls F W Aa (As (v := Value.int .i64 p1.1) 1 F Aa Aa T3 Aa).q fun a w F W => ?_
  refine ls F W Aa (FM F Aa Aa).q fun a w F W => ?_
  refine ls F W Aa (Ah F Aa).q fun a w F W => ?_
  rcases Bool.eq_false_or_eq_true (decide (p1.1 ≠ (-1))) with hb0 | hb0
  ·
   rw [hb0] at F
   refine AD F W (Aj F Aa Aa Aa Aa) Aa (Ap Aa) (Al C3 Aa Aa Aa T3 F Aa 0 Aa).q fun a w F W => ?_
   refine AD F W (Aj F Aa Aa Aa Aa) Aa (Ap Aa) (As (v := Value.int .i64 x1) 2 F Aa Aa T3 Aa).q fun a w F W => ?_
   refine AD F W (Aj F Aa Aa Aa Aa) Aa (Ap Aa) (Al C3 Aa Aa Aa T3 F Aa 0 Aa).q fun a w F W => ?_
   refine AD F W (Aj F Aa Aa Aa Aa) Aa (Ap Aa) (As (v := Value.int .i64 p1.1) 1 F Aa Aa T3 Aa).q fun a w F W => ?_
   refine AD F W (Aj F Aa Aa Aa Aa) Aa (Ap Aa) (FM F Aa Aa).q fun a w F W => ?_
   refine ls F W Aa (Aw F Aa Aa Aa).q fun a w F W => ?_
   refine Ag (Ad ?_)
   exact ⟨F.re ⟨rfl, Aa, Aa, Aa, (by show some (Value.bool (decide (x1 ≠ p1.1))) = some (Value.bool (decide (p1.1 ≠ (-1)) && decide (x1 ≠ p1.1))); try rw [hb0]; all_goals simp only [Bool.not_true, Bool.not_false, Bool.true_and, Bool.false_and, Bool.true_or, Bool.false_or, Bool.and_true, Bool.or_false, cond_true, cond_false]), trivial⟩, W⟩
  rw [hb0] at F
  iterate 5 refine Ci F Aa Aa Aa Aa Aa Aa Aa fun a F => ?_
  refine ls F W Aa (Ao F Aa Aa Aa).q fun a w F W => ?_
  refine Ag (Ad ?_)
  exact ⟨F.re ⟨rfl, Aa, Aa, Aa, (by show some (Value.bool false) = some (Value.bool (decide (p1.1 ≠ (-1)) && decide (x1 ≠ p1.1))); try rw [hb0]; all_goals simp only [Bool.not_true, Bool.not_false, Bool.true_and, Bool.false_and, Bool.true_or, Bool.false_or, Bool.and_true, Bool.or_false, cond_true, cond_false]), trivial⟩, W⟩
 rintro a w ⟨F, W⟩
 refine AA F Aa (fun hb => ?_) fun hb => ?_
 ·
  have H := AU hb H
  rw [hb] at F
  clear hb
  refine Ak (Ae ?_)
  refine ls F W Aa (Ed (v := Value.agg #[.int .i64 0, .int .i64 0, .int .i64 0, .int .i64 0, .int .i64 0, .int .i64 0, .int .i64 0, .int .i64 0, .int .i64 0]) Nx F Aa Aa Aa).q fun a w F W => ?_
  refine BN (vs := [.int .i64 0, .int .i64 0, .int .i64 0, .int .i64 0, .int .i64 0, .int .i64 0, .int .i64 0, .int .i64 0, .int .i64 0]) (M' := [(b3, [.int .i64 0, .int .i64 0, .int .i64 0, .int .i64 0, .int .i64 0, .int .i64 0, .int .i64 0, .int .i64 0, .int .i64 0]), (b2, [.int .i64 p1.1, .int .i64 p1.2.1.1, .int .i64 p1.2.1.2.1, .int .i64 p1.2.1.2.2.1, .int .i64 p1.2.1.2.2.2, .int .i64 p1.2.2.1, .int .i64 p1.2.2.2.1, .int .i64 p1.2.2.2.2.1, .int .i64 p1.2.2.2.2.2]), (b1, [.int .i64 x1, .int .i64 p0.2.1.1, .int .i64 p0.2.1.2.1, .int .i64 p0.2.1.2.2.1, .int .i64 p0.2.1.2.2.2, .int .i64 p0.2.2.1, .int .i64 p0.2.2.2.1, .int .i64 p0.2.2.2.2.1, .int .i64 p0.2.2.2.2.2])]) 0 F W Aa Aa Aa El Aa Aa Aa Aa Aa fun w W => ?_
  refine ls F W Aa (Af F Aa).q fun a w F W => ?_
  refine Ag (Ad (Ay (AC ?_)))
  have H := AZ H
  subst H
  refine Ey (.inl Aa) F W Aa (EB 0 F Aa Aa El Aa) (Au F Aa) ?_
  exact ⟨rfl, W.done⟩
 have H := AV (by rw [hb]; decide) H
 rw [hb] at F
 clear hb
 refine Az (Ad ?_)
 obtain ⟨o2, G2, K2, L2⟩ := IA H
 refine AY (fun a w => ∃ x2 : Int, ∃ x3 : Int, ∃ x4 : Int, ∃ x5 : Int, ∃ x6 : Int, ∃ x7 : Int, ∃ x8 : Int, ∃ x9 : Int, some (Sum.inl (x2, x3, x4, x5, x6, x7, x8, x9)) = some o2 ∧ Fr 72 [] [(2, .pointer (some ⟨b1, 0, none⟩)), (4, .pointer (some ⟨b3, 0, none⟩)), (5, .bool false)] a ∧ Stw ⟨Y, [], w0⟩ [(b3, [.int .i64 0, .int .i64 0, .int .i64 0, .int .i64 0, .int .i64 0, .int .i64 0, .int .i64 0, .int .i64 0, .int .i64 0]), (b2, [.int .i64 p1.1, .int .i64 p1.2.1.1, .int .i64 p1.2.1.2.1, .int .i64 p1.2.1.2.2.1, .int .i64 p1.2.1.2.2.2, .int .i64 p1.2.2.1, .int .i64 p1.2.2.2.1, .int .i64 p1.2.2.2.2.1, .int .i64 p1.2.2.2.2.2]), (b1, [.int .i64 x1, .int .i64 x2, .int .i64 x3, .int .i64 x4, .int .i64 x5, .int .i64 x6, .int .i64 x7, .int .i64 x8, .int .i64 x9])] [] w) ?_ ?_
 ·
  have H := G2
  clear G2 K2
  refine Ak (Ae ?_)
  refine ls F W Aa (Ah F Aa).q fun a w F W => ?_
  refine Ag (Ad (AB ?_))
  have W := W.frontM (i := 2) Aa Aa
  have W := W.frontM (i := 2) Aa Aa
  have W := W.frontM (i := 2) Aa Aa
  refine BU H (fun s a w => Fr 72 [] [(2, .pointer (some ⟨b1, 0, none⟩)), (3, .pointer (some ⟨b2, 0, none⟩)), (4, .pointer (some ⟨b3, 0, none⟩)), (5, .bool false), (24, .int .i64 s.1)] a ∧ Stw ⟨Y, [], w0⟩ [(b3, [.int .i64 0, .int .i64 0, .int .i64 0, .int .i64 0, .int .i64 0, .int .i64 0, .int .i64 0, .int .i64 0, .int .i64 0]), (b2, [.int .i64 p1.1, .int .i64 p1.2.1.1, .int .i64 p1.2.1.2.1, .int .i64 p1.2.1.2.2.1, .int .i64 p1.2.1.2.2.2, .int .i64 p1.2.2.1, .int .i64 p1.2.2.2.1, .int .i64 p1.2.2.2.2.1, .int .i64 p1.2.2.2.2.2]), (b1, [.int .i64 x1, .int .i64 s.2.1, .int .i64 s.2.2.1, .int .i64 s.2.2.2.1, .int .i64 s.2.2.2.2.1, .int .i64 s.2.2.2.2.2.1, .int .i64 s.2.2.2.2.2.2.1, .int .i64 s.2.2.2.2.2.2.2.1, .int .i64 s.2.2.2.2.2.2.2.2])] [] w) ⟨F.re ⟨rfl, Aa, Aa, Aa, Aa, trivial⟩, W⟩ fun s o a w H L3 hR => ?_
  obtain ⟨x10, x11, x12, x13, x14, x15, x16, x17, x18⟩ := s
  obtain ⟨F, W⟩ := hR
  have F : Fr 72 [] [(2, .pointer (some ⟨b1, 0, none⟩)), (3, .pointer (some ⟨b2, 0, none⟩)), (4, .pointer (some ⟨b3, 0, none⟩)), (5, .bool false), (24, .int .i64 x10)] a := F
  have W : Stw ⟨Y, [], w0⟩ [(b3, [.int .i64 0, .int .i64 0, .int .i64 0, .int .i64 0, .int .i64 0, .int .i64 0, .int .i64 0, .int .i64 0, .int .i64 0]), (b2, [.int .i64 p1.1, .int .i64 p1.2.1.1, .int .i64 p1.2.1.2.1, .int .i64 p1.2.1.2.2.1, .int .i64 p1.2.1.2.2.2, .int .i64 p1.2.2.1, .int .i64 p1.2.2.2.1, .int .i64 p1.2.2.2.2.1, .int .i64 p1.2.2.2.2.2]), (b1, [.int .i64 x1, .int .i64 x11, .int .i64 x12, .int .i64 x13, .int .i64 x14, .int .i64 x15, .int .i64 x16, .int .i64 x17, .int .i64 x18])] [] w := W
  rw [Cs] at H
  refine Ak (Ae ?_)
  refine ls F W Aa (BS F Aa Aa).q fun a w F W => ?_
  refine Ag (Ad (Ak ?_))
  refine AA F Aa (fun hb => ?_) fun hb => ?_
  ·
   have H := AU (Bd hb) H
   rw [hb] at F
   clear hb
   refine Az (Ad (Ak (AB (Ak (Ae ?_)))))
   refine ls F W Aa (Ah F Aa).q fun a w F W => ?_
   refine ls F W Aa (Af F Aa).q fun a w F W => ?_
   refine Ag (Ad ?_)
   iterate 2 refine Ak ?_
   refine DA W MO (by kernel_rfl) ?_
   refine qs F Aa (Ah F Aa).q fun a F => ?_
   refine qs F Aa (Al C3 Aa Aa Aa GS F Aa 1 Aa).q fun a F => ?_
   obtain ⟨x19, h1, H⟩ := Aq H
   refine qs F Aa (BL (1 + (x10).toNat * 1) EK F Aa Aa Aa h1 Aa).q fun a F => ?_
   refine qs F Aa (As (v := Value.int .i64 x19) 2 F Aa Aa T3 (Cz (base := 1) (m := 4) (l := [x11, x12, x13, x14]) (enc := Value.int .i64) Aa h1)).q fun a F => ?_
   refine qs F Aa (Ah F Aa).q fun a F => ?_
   refine qs F Aa (Al C3 Aa Aa Aa GS F Aa 1 Aa).q fun a F => ?_
   obtain ⟨x20, h2, H⟩ := Aq H
   refine qs F Aa (BL (1 + (x10).toNat * 1) EK F Aa Aa Aa h2 Aa).q fun a F => ?_
   refine qs F Aa (As (v := Value.int .i64 x20) 1 F Aa Aa T3 (Cz (base := 1) (m := 4) (l := [p1.2.1.1, p1.2.1.2.1, p1.2.1.2.2.1, p1.2.1.2.2.2]) (enc := Value.int .i64) Aa h2)).q fun a F => ?_
   refine qs F Aa (LV F Aa Aa).q fun a F => ?_
   refine qs F Aa (Ah F Aa).q fun a F => ?_
   refine qs F Aa (Al C3 Aa Aa Aa GS F Aa 5 Aa).q fun a F => ?_
   obtain ⟨x21, h3, H⟩ := Aq H
   refine qs F Aa (BL (5 + (x10).toNat * 1) EK F Aa Aa Aa h3 Aa).q fun a F => ?_
   refine qs F Aa (As (v := Value.int .i64 x21) 2 F Aa Aa T3 (Cz (base := 5) (m := 4) (l := [x15, x16, x17, x18]) (enc := Value.int .i64) Aa h3)).q fun a F => ?_
   refine qs F Aa (KN F Aa Aa).q fun a F => ?_
   refine qs F Aa (Ah F Aa).q fun a F => ?_
   refine qs F Aa (Al C3 Aa Aa Aa GS F Aa 5 Aa).q fun a F => ?_
   obtain ⟨x22, h4, H⟩ := Aq H
   refine qs F Aa (BL (5 + (x10).toNat * 1) EK F Aa Aa Aa h4 Aa).q fun a F => ?_
   refine qs F Aa (As (v := Value.int .i64 x22) 1 F Aa Aa T3 (Cz (base := 5) (m := 4) (l := [p1.2.2.1, p1.2.2.2.1, p1.2.2.2.2.1, p1.2.2.2.2.2]) (enc := Value.int .i64) Aa h4)).q fun a F => ?_
   refine qs F Aa (KN F Aa Aa).q fun a F => ?_
   refine qs F Aa (FM F Aa Aa).q fun a F => ?_
   refine Bm fun w W => ?_
   refine Ad ?_
   refine AA F Aa (fun hb => ?_) fun hb => ?_
   ·
    have H := AU (Bd hb) H
    rw [hb] at F
    clear hb
    refine Ak (Ae ?_)
    refine ls F W Aa (Ed (v := Value.agg #[.int .i64 0, .int .i64 0, .int .i64 0, .int .i64 0, .int .i64 0, .int .i64 0, .int .i64 0, .int .i64 0, .int .i64 0]) Nx F Aa Aa Aa).q fun a w F W => ?_
    refine BN (vs := [.int .i64 0, .int .i64 0, .int .i64 0, .int .i64 0, .int .i64 0, .int .i64 0, .int .i64 0, .int .i64 0, .int .i64 0]) (M' := [(b3, [.int .i64 0, .int .i64 0, .int .i64 0, .int .i64 0, .int .i64 0, .int .i64 0, .int .i64 0, .int .i64 0, .int .i64 0]), (b2, [.int .i64 p1.1, .int .i64 p1.2.1.1, .int .i64 p1.2.1.2.1, .int .i64 p1.2.1.2.2.1, .int .i64 p1.2.1.2.2.2, .int .i64 p1.2.2.1, .int .i64 p1.2.2.2.1, .int .i64 p1.2.2.2.2.1, .int .i64 p1.2.2.2.2.2]), (b1, [.int .i64 x1, .int .i64 x11, .int .i64 x12, .int .i64 x13, .int .i64 x14, .int .i64 x15, .int .i64 x16, .int .i64 x17, .int .i64 x18])]) 0 F W Aa Aa Aa El Aa Aa Aa Aa Aa fun w W => ?_
    refine ls F W Aa (Af F Aa).q fun a w F W => ?_
    refine Ag (Ad (Ay (AC (AW ?_))))
    iterate 2 refine AC ?_
    refine AW (AC ?_)
    have H := L3 _ H
    have H := L2 _ H
    have H := AZ H
    subst H
    refine Ey (.inl Aa) F W Aa (EB 0 F Aa Aa El Aa) (Au F Aa) ?_
    exact ⟨rfl, W.done⟩
   have H := AV (Be hb) H
   rw [hb] at F
   clear hb
   refine Az (Ad (Ak ?_))
   refine GK 11 W MO (by kernel_rfl) ?_
   refine qs F Aa (Ah F Aa).q fun a F => ?_
   refine qs F Aa (Al C3 Aa Aa Aa GS F Aa 1 Aa).q fun a F => ?_
   obtain ⟨x23, h5, H⟩ := Aq H
   refine qs F Aa (BL (1 + (x10).toNat * 1) EK F Aa Aa Aa h5 Aa).q fun a F => ?_
   refine qs F Aa (As (v := Value.int .i64 x23) 2 F Aa Aa T3 (Cz (base := 1) (m := 4) (l := [x11, x12, x13, x14]) (enc := Value.int .i64) Aa h5)).q fun a F => ?_
   refine qs F Aa (Ah F Aa).q fun a F => ?_
   refine qs F Aa (Al C3 Aa Aa Aa GS F Aa 1 Aa).q fun a F => ?_
   obtain ⟨x24, h6, H⟩ := Aq H
   refine qs F Aa (BL (1 + (x10).toNat * 1) EK F Aa Aa Aa h6 Aa).q fun a F => ?_
   refine qs F Aa (As (v := Value.int .i64 x24) 1 F Aa Aa T3 (Cz (base := 1) (m := 4) (l := [p1.2.1.1, p1.2.1.2.1, p1.2.1.2.2.1, p1.2.1.2.2.2]) (enc := Value.int .i64) Aa h6)).q fun a F => ?_
   refine qs F Aa (MD F Aa Aa).q fun a F => ?_
   refine qs F Aa (Al C3 Aa Aa Aa GS F Aa 1 Aa).q fun a F => ?_
   obtain ⟨x25, h7, H⟩ := Aq H
   refine qs F Aa (BL (1 + (x10).toNat * 1) EK F Aa Aa Aa h7 Aa).q fun a F => ?_
   refine Bm fun w W => ?_
   refine Ek (o := 1) (m := 4) (i := x10) (l := ([x11, x12, x13, x14] : List Int)) (x := x25) (cs := [.int .i64 x1, .int .i64 x11, .int .i64 x12, .int .i64 x13, .int .i64 x14, .int .i64 x15, .int .i64 x16, .int .i64 x17, .int .i64 x18]) (cs' := [.int .i64 x1, .int .i64 (if x10 = 0 then EL .i64 x23 x24 else x11), .int .i64 (if x10 = 1 then EL .i64 x23 x24 else x12), .int .i64 (if x10 = 2 then EL .i64 x23 x24 else x13), .int .i64 (if x10 = 3 then EL .i64 x23 x24 else x14), .int .i64 x15, .int .i64 x16, .int .i64 x17, .int .i64 x18]) 2 F W Aa Aa Aa T3 Aa Aa Aa Aa h7 (by intro k hk hn; rw [hk]; match k, hn with | 0, _ => rfl | 1, _ => rfl | 2, _ => rfl | 3, _ => rfl | (z + 4), h => exact absurd h (by omega)) fun w W => ?_
   have W : Stw ⟨Y, [], w0⟩ [(b3, [.int .i64 0, .int .i64 0, .int .i64 0, .int .i64 0, .int .i64 0, .int .i64 0, .int .i64 0, .int .i64 0, .int .i64 0]), (b2, [.int .i64 p1.1, .int .i64 p1.2.1.1, .int .i64 p1.2.1.2.1, .int .i64 p1.2.1.2.2.1, .int .i64 p1.2.1.2.2.2, .int .i64 p1.2.2.1, .int .i64 p1.2.2.2.1, .int .i64 p1.2.2.2.2.1, .int .i64 p1.2.2.2.2.2]), (b1, [.int .i64 x1, .int .i64 (if x10 = 0 then EL .i64 x23 x24 else x11), .int .i64 (if x10 = 1 then EL .i64 x23 x24 else x12), .int .i64 (if x10 = 2 then EL .i64 x23 x24 else x13), .int .i64 (if x10 = 3 then EL .i64 x23 x24 else x14), .int .i64 x15, .int .i64 x16, .int .i64 x17, .int .i64 x18])] [] w := W
   refine Ag (Ad ?_)
   refine GK 11 W MO (by kernel_rfl) ?_
   refine qs F Aa (Ah F Aa).q fun a F => ?_
   refine qs F Aa (Al C3 Aa Aa Aa GS F Aa 5 Aa).q fun a F => ?_
   obtain ⟨x26, h8, H⟩ := Aq H
   refine qs F Aa (BL (5 + (x10).toNat * 1) EK F Aa Aa Aa h8 Aa).q fun a F => ?_
   refine qs F Aa (As (v := Value.int .i64 x26) 2 F Aa Aa T3 (Cz (base := 5) (m := 4) (l := [x15, x16, x17, x18]) (enc := Value.int .i64) Aa h8)).q fun a F => ?_
   refine qs F Aa (Ah F Aa).q fun a F => ?_
   refine qs F Aa (Al C3 Aa Aa Aa GS F Aa 5 Aa).q fun a F => ?_
   obtain ⟨x27, h9, H⟩ := Aq H
   refine qs F Aa (BL (5 + (x10).toNat * 1) EK F Aa Aa Aa h9 Aa).q fun a F => ?_
   refine qs F Aa (As (v := Value.int .i64 x27) 1 F Aa Aa T3 (Cz (base := 5) (m := 4) (l := [p1.2.2.1, p1.2.2.2.1, p1.2.2.2.2.1, p1.2.2.2.2.2]) (enc := Value.int .i64) Aa h9)).q fun a F => ?_
   refine qs F Aa (MD F Aa Aa).q fun a F => ?_
   refine qs F Aa (Al C3 Aa Aa Aa GS F Aa 5 Aa).q fun a F => ?_
   obtain ⟨x28, h10, H⟩ := Aq H
   refine qs F Aa (BL (5 + (x10).toNat * 1) EK F Aa Aa Aa h10 Aa).q fun a F => ?_
   refine Bm fun w W => ?_
   refine Ek (o := 5) (m := 4) (i := x10) (l := ([x15, x16, x17, x18] : List Int)) (x := x28) (cs := [.int .i64 x1, .int .i64 (if x10 = 0 then EL .i64 x23 x24 else x11), .int .i64 (if x10 = 1 then EL .i64 x23 x24 else x12), .int .i64 (if x10 = 2 then EL .i64 x23 x24 else x13), .int .i64 (if x10 = 3 then EL .i64 x23 x24 else x14), .int .i64 x15, .int .i64 x16, .int .i64 x17, .int .i64 x18]) (cs' := [.int .i64 x1, .int .i64 (if x10 = 0 then EL .i64 x23 x24 else x11), .int .i64 (if x10 = 1 then EL .i64 x23 x24 else x12), .int .i64 (if x10 = 2 then EL .i64 x23 x24 else x13), .int .i64 (if x10 = 3 then EL .i64 x23 x24 else x14), .int .i64 (if x10 = 0 then EL .i64 x26 x27 else x15), .int .i64 (if x10 = 1 then EL .i64 x26 x27 else x16), .int .i64 (if x10 = 2 then EL .i64 x26 x27 else x17), .int .i64 (if x10 = 3 then EL .i64 x26 x27 else x18)]) 2 F W Aa Aa Aa T3 Aa Aa Aa Aa h10 (by intro k hk hn; rw [hk]; match k, hn with | 0, _ => rfl | 1, _ => rfl | 2, _ => rfl | 3, _ => rfl | (z + 4), h => exact absurd h (by omega)) fun w W => ?_
   have W : Stw ⟨Y, [], w0⟩ [(b3, [.int .i64 0, .int .i64 0, .int .i64 0, .int .i64 0, .int .i64 0, .int .i64 0, .int .i64 0, .int .i64 0, .int .i64 0]), (b2, [.int .i64 p1.1, .int .i64 p1.2.1.1, .int .i64 p1.2.1.2.1, .int .i64 p1.2.1.2.2.1, .int .i64 p1.2.1.2.2.2, .int .i64 p1.2.2.1, .int .i64 p1.2.2.2.1, .int .i64 p1.2.2.2.2.1, .int .i64 p1.2.2.2.2.2]), (b1, [.int .i64 x1, .int .i64 (if x10 = 0 then EL .i64 x23 x24 else x11), .int .i64 (if x10 = 1 then EL .i64 x23 x24 else x12), .int .i64 (if x10 = 2 then EL .i64 x23 x24 else x13), .int .i64 (if x10 = 3 then EL .i64 x23 x24 else x14), .int .i64 (if x10 = 0 then EL .i64 x26 x27 else x15), .int .i64 (if x10 = 1 then EL .i64 x26 x27 else x16), .int .i64 (if x10 = 2 then EL .i64 x26 x27 else x17), .int .i64 (if x10 = 3 then EL .i64 x26 x27 else x18)])] [] w := W
   refine Ag (A5 (Ad (Ae ?_)))
   refine ls F W Aa (Co F Aa Aa Aa).q fun a w F W => ?_
   refine ls F W Aa (Ah F Aa).q fun a w F W => ?_
   refine Ag (Ad ?_)
   have W := W.frontM (i := 2) Aa Aa
   have W := W.frontM (i := 2) Aa Aa
   have W := W.frontM (i := 2) Aa Aa
   exact ⟨_, H, F.re ⟨rfl, Aa, Aa, Aa, Aa, trivial⟩, W⟩
  have H := AV (Be hb) H
  rw [hb] at F
  clear hb
  refine BV ?_
  iterate 2 refine Ce ?_
  refine BT (Ad ?_)
  have W := W.frontM (i := 2) Aa Aa
  have W := W.frontM (i := 2) Aa Aa
  have W := W.frontM (i := 2) Aa Aa
  have H := L3 _ H
  exact ⟨_, _, _, _, _, _, _, _, H, F.re ⟨rfl, Aa, Aa, trivial⟩, W⟩
 rintro a w ⟨x2, x3, x4, x5, x6, x7, x8, x9, hj, F, W⟩
 have H := K2 _ hj
 clear hj G2 K2 L2
 refine Ak (Ae ?_)
 refine ls F W Aa (As (v := Value.agg #[.int .i64 x1, .int .i64 x2, .int .i64 x3, .int .i64 x4, .int .i64 x5, .int .i64 x6, .int .i64 x7, .int .i64 x8, .int .i64 x9]) 2 F Aa Aa El Aa).q fun a w F W => ?_
 refine BN (vs := [.int .i64 x1, .int .i64 x2, .int .i64 x3, .int .i64 x4, .int .i64 x5, .int .i64 x6, .int .i64 x7, .int .i64 x8, .int .i64 x9]) (M' := [(b3, [.int .i64 x1, .int .i64 x2, .int .i64 x3, .int .i64 x4, .int .i64 x5, .int .i64 x6, .int .i64 x7, .int .i64 x8, .int .i64 x9]), (b2, [.int .i64 p1.1, .int .i64 p1.2.1.1, .int .i64 p1.2.1.2.1, .int .i64 p1.2.1.2.2.1, .int .i64 p1.2.1.2.2.2, .int .i64 p1.2.2.1, .int .i64 p1.2.2.2.1, .int .i64 p1.2.2.2.2.1, .int .i64 p1.2.2.2.2.2]), (b1, [.int .i64 x1, .int .i64 x2, .int .i64 x3, .int .i64 x4, .int .i64 x5, .int .i64 x6, .int .i64 x7, .int .i64 x8, .int .i64 x9])]) 0 F W Aa Aa Aa El Aa Aa Aa Aa Aa fun w W => ?_
 refine ls F W Aa (Af F Aa).q fun a w F W => ?_
 refine Ag (Ad (Ay ?_))
 have H := AZ H
 subst H
 refine Ey (.inl Aa) F W Aa (EB 0 F Aa Aa El Aa) (Au F Aa) ?_
 exact ⟨rfl, W.done⟩
theorem Mz : type_of% Try.underlying3 := Try.underlying3
theorem NK : Has Try.prog 79 := ⟨fun args w => An Try.func79 rfl (by decide) args w⟩
theorem MC (d : Nat) (x0 x1 x2 x3 y0 y1 y2 y3 : Int) (w : World) : (Op.equalIn (d + 2) 23 (.agg #[.int .i64 x0, .int .i64 x1, .int .i64 x2, .int .i64 x3]) (.agg #[.int .i64 y0, .int .i64 y1, .int .i64 y2, .int .i64 y3])).run Try.prog w = .ok (decide (x0 = y0 ∧ x1 = y1 ∧ x2 = y2 ∧ x3 = y3)) w :=
  (Mk (d := d) (k := .i64) EK Mz T3 [x0, x1, x2, x3] [y0, y1, y2, y3] rfl rfl w).trans (by congr 1; exact decide_eq_decide.2 (by simp))
theorem Nk (dd : Nat) (x0 : Int) (x1 : Int) (x2 : Int) (x3 : Int) (x4 : Int) (x5 : Int) (x6 : Int) (x7 : Int) (x8 : Int) (y0 : Int) (y1 : Int) (y2 : Int) (y3 : Int) (y4 : Int) (y5 : Int) (y6 : Int) (y7 : Int) (y8 : Int) (w : World) : (Op.equalIn (dd + 3) 37 (.agg #[.int .i64 x0, .int .i64 x1, .int .i64 x2, .int .i64 x3, .int .i64 x4, .int .i64 x5, .int .i64 x6, .int .i64 x7, .int .i64 x8]) (.agg #[.int .i64 y0, .int .i64 y1, .int .i64 y2, .int .i64 y3, .int .i64 y4, .int .i64 y5, .int .i64 y6, .int .i64 y7, .int .i64 y8])).run Try.prog w = .ok (decide (x0 = y0 ∧ x1 = y1 ∧ x2 = y2 ∧ x3 = y3 ∧ x4 = y4 ∧ x5 = y5 ∧ x6 = y6 ∧ x7 = y7 ∧ x8 = y8)) w :=
  In (d := dd + 2) (rs := [decide (x0 = y0), decide (x1 = y1 ∧ x2 = y2 ∧ x3 = y3 ∧ x4 = y4), decide (x5 = y5 ∧ x6 = y6 ∧ x7 = y7 ∧ x8 = y8)]) C3 (by kernel_rfl) ⟨rfl, Hs (d := dd + 1) rfl rfl Mz T3 rfl rfl, rfl, J0 (d := dd + 2) (sz := 4) (xs' := [.int .i64 x1, .int .i64 x2, .int .i64 x3, .int .i64 x4]) (ys' := [.int .i64 y1, .int .i64 y2, .int .i64 y3, .int .i64 y4]) rfl rfl GS rfl rfl (fun w => MC (dd + 0) x1 x2 x3 x4 y1 y2 y3 y4 w), rfl, J0 (d := dd + 2) (sz := 4) (xs' := [.int .i64 x5, .int .i64 x6, .int .i64 x7, .int .i64 x8]) (ys' := [.int .i64 y5, .int .i64 y6, .int .i64 y7, .int .i64 y8]) rfl rfl GS rfl rfl (fun w => MC (dd + 0) x5 x6 x7 x8 y5 y6 y7 y8 w), trivial⟩ (by rw [Bool.eq_iff_iff]; simp [and_assoc]) w
theorem MI : Try.prog.eqGuardType Try.prog.depth 37 = false := by kernel_rfl
theorem MQ (x0 : Int) (x1 : Int) (x2 : Int) (x3 : Int) (x4 : Int) (x5 : Int) (x6 : Int) (x7 : Int) (x8 : Int) (y0 : Int) (y1 : Int) (y2 : Int) (y3 : Int) (y4 : Int) (y5 : Int) (y6 : Int) (y7 : Int) (y8 : Int) (w : World) : (Op.equalIn 10000 37 (.agg #[.int .i64 x0, .int .i64 x1, .int .i64 x2, .int .i64 x3, .int .i64 x4, .int .i64 x5, .int .i64 x6, .int .i64 x7, .int .i64 x8]) (.agg #[.int .i64 y0, .int .i64 y1, .int .i64 y2, .int .i64 y3, .int .i64 y4, .int .i64 y5, .int .i64 y6, .int .i64 y7, .int .i64 y8])).run Try.prog w = .ok (decide (x0 = y0 ∧ x1 = y1 ∧ x2 = y2 ∧ x3 = y3 ∧ x4 = y4 ∧ x5 = y5 ∧ x6 = y6 ∧ x7 = y7 ∧ x8 = y8)) w := Nk 9997 x0 x1 x2 x3 x4 x5 x6 x7 x8 y0 y1 y2 y3 y4 y5 y6 y7 y8 w
noncomputable def CD (p0 : Int × (Int × (Int × Int × Int × Int) × (Int × Int × Int × Int)) × (List (Int × Int × Int))) (p1 : Int × (Int × (Int × Int × Int × Int) × (Int × Int × Int × Int)) × (List (Int × Int × Int))) : Option Bool := (Do p0.2.1 p1.2.1).bind fun x1 => some (decide (p0.1 = p1.1) && (!(decide (p0.2.1.1 = p1.2.1.1 ∧ p0.2.1.2.1.1 = p1.2.1.2.1.1 ∧ p0.2.1.2.1.2.1 = p1.2.1.2.1.2.1 ∧ p0.2.1.2.1.2.2.1 = p1.2.1.2.1.2.2.1 ∧ p0.2.1.2.1.2.2.2 = p1.2.1.2.1.2.2.2 ∧ p0.2.1.2.2.1 = p1.2.1.2.2.1 ∧ p0.2.1.2.2.2.1 = p1.2.1.2.2.2.1 ∧ p0.2.1.2.2.2.2.1 = p1.2.1.2.2.2.2.1 ∧ p0.2.1.2.2.2.2.2 = p1.2.1.2.2.2.2.2)) && x1.2))
theorem Hk (Y : Nat → Prop) (w0 : World) (v1 : Value) (v2 : Value) (p0 : Int × (Int × (Int × Int × Int × Int) × (Int × Int × Int × Int)) × (List (Int × Int × Int))) (p1 : Int × (Int × (Int × Int × Int × Int) × (Int × Int × Int × Int)) × (List (Int × Int × Int))) (r : Bool) (H : CD p0 p1 = some r) (h_v1 : Sl w0 (NX []) Br v1 p0.2.2) (h_v2 : Sl w0 (NX []) Br v2 p1.2.2) :
    Calls Try.prog 61 #[.agg #[.int .i64 p0.1, .int .i64 p0.2.1.1, .int .i64 p0.2.1.2.1.1, .int .i64 p0.2.1.2.1.2.1, .int .i64 p0.2.1.2.1.2.2.1, .int .i64 p0.2.1.2.1.2.2.2, .int .i64 p0.2.1.2.2.1, .int .i64 p0.2.1.2.2.2.1, .int .i64 p0.2.1.2.2.2.2.1, .int .i64 p0.2.1.2.2.2.2.2, v1], .agg #[.int .i64 p1.1, .int .i64 p1.2.1.1, .int .i64 p1.2.1.2.1.1, .int .i64 p1.2.1.2.1.2.1, .int .i64 p1.2.1.2.1.2.2.1, .int .i64 p1.2.1.2.1.2.2.2, .int .i64 p1.2.1.2.2.1, .int .i64 p1.2.1.2.2.2.1, .int .i64 p1.2.1.2.2.2.2.1, .int .i64 p1.2.1.2.2.2.2.2, v2]] w0 fun e w' => e = .returned (.bool r) ∧ Below w0.heap.size w0 w' := by
 refine enter Try.func61 Aa Try.ntmps61 Aa fun a F => ?_
 have W := Stw.start Y w0
 unfold CD at H
 refine Ak (Ae ?_)
 refine B2 (cs := [.int .i64 p0.1, .int .i64 p0.2.1.1, .int .i64 p0.2.1.2.1.1, .int .i64 p0.2.1.2.1.2.1, .int .i64 p0.2.1.2.1.2.2.1, .int .i64 p0.2.1.2.1.2.2.2, .int .i64 p0.2.1.2.2.1, .int .i64 p0.2.1.2.2.2.1, .int .i64 p0.2.1.2.2.2.2.1, .int .i64 p0.2.1.2.2.2.2.2, v1]) F W Aa Aa Aa fun b1 a w F W => ?_
 refine B2 (cs := [.int .i64 p1.1, .int .i64 p1.2.1.1, .int .i64 p1.2.1.2.1.1, .int .i64 p1.2.1.2.1.2.1, .int .i64 p1.2.1.2.1.2.2.1, .int .i64 p1.2.1.2.1.2.2.2, .int .i64 p1.2.1.2.2.1, .int .i64 p1.2.1.2.2.2.1, .int .i64 p1.2.1.2.2.2.2.1, .int .i64 p1.2.1.2.2.2.2.2, v2]) F W Aa Aa Aa fun b2 a w F W => ?_
 refine ls F W Aa (Af F Aa).q fun a w F W => ?_
 refine Ag (Ad (Ak (Ae ?_)))
 refine ls F W Aa (Al CA Aa Aa Aa El F Aa 1 Aa).q fun a w F W => ?_
 refine ls F W Aa (As (v := Value.agg #[.int .i64 p0.2.1.1, .int .i64 p0.2.1.2.1.1, .int .i64 p0.2.1.2.1.2.1, .int .i64 p0.2.1.2.1.2.2.1, .int .i64 p0.2.1.2.1.2.2.2, .int .i64 p0.2.1.2.2.1, .int .i64 p0.2.1.2.2.2.1, .int .i64 p0.2.1.2.2.2.2.1, .int .i64 p0.2.1.2.2.2.2.2]) 1 F Aa Aa El Aa).q fun a w F W => ?_
 refine ls F W Aa (Al CA Aa Aa Aa El F Aa 1 Aa).q fun a w F W => ?_
 refine ls F W Aa (As (v := Value.agg #[.int .i64 p1.2.1.1, .int .i64 p1.2.1.2.1.1, .int .i64 p1.2.1.2.1.2.1, .int .i64 p1.2.1.2.1.2.2.1, .int .i64 p1.2.1.2.1.2.2.2, .int .i64 p1.2.1.2.2.1, .int .i64 p1.2.1.2.2.2.1, .int .i64 p1.2.1.2.2.2.2.1, .int .i64 p1.2.1.2.2.2.2.2]) 0 F Aa Aa El Aa).q fun a w F W => ?_
 obtain ⟨x1, h1, H⟩ := Aq H
 refine ls F W Aa (A4 (v := Value.tuple #[.agg #[.int .i64 x1.1.1, .int .i64 x1.1.2.1.1, .int .i64 x1.1.2.1.2.1, .int .i64 x1.1.2.1.2.2.1, .int .i64 x1.1.2.1.2.2.2, .int .i64 x1.1.2.2.1, .int .i64 x1.1.2.2.2.1, .int .i64 x1.1.2.2.2.2.1, .int .i64 x1.1.2.2.2.2.2], .bool x1.2]) F NK Aa (fun w W => GG any w p0.2.1 p1.2.1 _ h1)) fun a w F W => ?_
 refine ls F W Aa (Ah F Aa).q fun a w F W => ?_
 refine ls F W Aa (BH (v := Value.agg #[.int .i64 x1.1.1, .int .i64 x1.1.2.1.1, .int .i64 x1.1.2.1.2.1, .int .i64 x1.1.2.1.2.2.1, .int .i64 x1.1.2.1.2.2.2, .int .i64 x1.1.2.2.1, .int .i64 x1.1.2.2.2.1, .int .i64 x1.1.2.2.2.2.1, .int .i64 x1.1.2.2.2.2.2]) F Aa Aa).q fun a w F W => ?_
 refine ls F W Aa (BH (v := Value.bool x1.2) F Aa Aa).q fun a w F W => ?_
 refine Cp (cs := [.int .i64 0, .int .i64 0, .int .i64 0, .int .i64 0, .int .i64 0, .int .i64 0, .int .i64 0, .int .i64 0, .int .i64 0]) F W Aa Mv Aa fun b3 a w F W => ?_
 refine BN (vs := [.int .i64 x1.1.1, .int .i64 x1.1.2.1.1, .int .i64 x1.1.2.1.2.1, .int .i64 x1.1.2.1.2.2.1, .int .i64 x1.1.2.1.2.2.2, .int .i64 x1.1.2.2.1, .int .i64 x1.1.2.2.2.1, .int .i64 x1.1.2.2.2.2.1, .int .i64 x1.1.2.2.2.2.2]) (M' := [(b3, [.int .i64 x1.1.1, .int .i64 x1.1.2.1.1, .int .i64 x1.1.2.1.2.1, .int .i64 x1.1.2.1.2.2.1, .int .i64 x1.1.2.1.2.2.2, .int .i64 x1.1.2.2.1, .int .i64 x1.1.2.2.2.1, .int .i64 x1.1.2.2.2.2.1, .int .i64 x1.1.2.2.2.2.2]), (b2, [.int .i64 p1.1, .int .i64 p1.2.1.1, .int .i64 p1.2.1.2.1.1, .int .i64 p1.2.1.2.1.2.1, .int .i64 p1.2.1.2.1.2.2.1, .int .i64 p1.2.1.2.1.2.2.2, .int .i64 p1.2.1.2.2.1, .int .i64 p1.2.1.2.2.2.1, .int .i64 p1.2.1.2.2.2.2.1, .int .i64 p1.2.1.2.2.2.2.2, v2]), (b1, [.int .i64 p0.1, .int .i64 p0.2.1.1, .int .i64 p0.2.1.2.1.1, .int .i64 p0.2.1.2.1.2.1, .int .i64 p0.2.1.2.1.2.2.1, .int .i64 p0.2.1.2.1.2.2.2, .int .i64 p0.2.1.2.2.1, .int .i64 p0.2.1.2.2.2.1, .int .i64 p0.2.1.2.2.2.2.1, .int .i64 p0.2.1.2.2.2.2.2, v1])]) 0 F W Aa Aa Aa El Aa Aa Aa Aa Aa fun w W => ?_
 refine ls F W Aa (Af F Aa).q fun a w F W => ?_
 refine Ag (Ad ?_)
 refine AY (fun a w => Fr 30 [] [(4, .bool (decide (p0.1 = p1.1) && (!(decide (p0.2.1.1 = p1.2.1.1 ∧ p0.2.1.2.1.1 = p1.2.1.2.1.1 ∧ p0.2.1.2.1.2.1 = p1.2.1.2.1.2.1 ∧ p0.2.1.2.1.2.2.1 = p1.2.1.2.1.2.2.1 ∧ p0.2.1.2.1.2.2.2 = p1.2.1.2.1.2.2.2 ∧ p0.2.1.2.2.1 = p1.2.1.2.2.1 ∧ p0.2.1.2.2.2.1 = p1.2.1.2.2.2.1 ∧ p0.2.1.2.2.2.2.1 = p1.2.1.2.2.2.2.1 ∧ p0.2.1.2.2.2.2.2 = p1.2.1.2.2.2.2.2)) && x1.2)))] a ∧ Stw ⟨Y, [], w0⟩ [(b3, [.int .i64 x1.1.1, .int .i64 x1.1.2.1.1, .int .i64 x1.1.2.1.2.1, .int .i64 x1.1.2.1.2.2.1, .int .i64 x1.1.2.1.2.2.2, .int .i64 x1.1.2.2.1, .int .i64 x1.1.2.2.2.1, .int .i64 x1.1.2.2.2.2.1, .int .i64 x1.1.2.2.2.2.2]), (b2, [.int .i64 p1.1, .int .i64 p1.2.1.1, .int .i64 p1.2.1.2.1.1, .int .i64 p1.2.1.2.1.2.1, .int .i64 p1.2.1.2.1.2.2.1, .int .i64 p1.2.1.2.1.2.2.2, .int .i64 p1.2.1.2.2.1, .int .i64 p1.2.1.2.2.2.1, .int .i64 p1.2.1.2.2.2.2.1, .int .i64 p1.2.1.2.2.2.2.2, v2]), (b1, [.int .i64 p0.1, .int .i64 p0.2.1.1, .int .i64 p0.2.1.2.1.1, .int .i64 p0.2.1.2.1.2.1, .int .i64 p0.2.1.2.1.2.2.1, .int .i64 p0.2.1.2.1.2.2.2, .int .i64 p0.2.1.2.2.1, .int .i64 p0.2.1.2.2.2.1, .int .i64 p0.2.1.2.2.2.2.1, .int .i64 p0.2.1.2.2.2.2.2, v1])] [] w) ?_ ?_
 ·
  refine Ae ?_
  refine ls F W Aa (Al CA Aa Aa Aa T3 F Aa 0 Aa).q fun a w F W => ?_
  refine ls F W Aa (As (v := Value.int .i64 p0.1) 2 F Aa Aa T3 Aa).q fun a w F W => ?_
  refine ls F W Aa (Al CA Aa Aa Aa T3 F Aa 0 Aa).q fun a w F W => ?_
  refine ls F W Aa (As (v := Value.int .i64 p1.1) 1 F Aa Aa T3 Aa).q fun a w F W => ?_
  refine ls F W Aa (BJ F Aa Aa).q fun a w F W => ?_
  refine ls F W Aa (Ah F Aa).q fun a w F W => ?_
  rcases Bool.eq_false_or_eq_true (decide (p0.1 = p1.1)) with hb0 | hb0
  ·
   rw [hb0] at F
   refine AD F W (Aj F Aa Aa Aa Aa) Aa (Ap Aa) (Al CA Aa Aa Aa El F Aa 1 Aa).q fun a w F W => ?_
   refine AD F W (Aj F Aa Aa Aa Aa) Aa (Ap Aa) (As (v := Value.agg #[.int .i64 p0.2.1.1, .int .i64 p0.2.1.2.1.1, .int .i64 p0.2.1.2.1.2.1, .int .i64 p0.2.1.2.1.2.2.1, .int .i64 p0.2.1.2.1.2.2.2, .int .i64 p0.2.1.2.2.1, .int .i64 p0.2.1.2.2.2.1, .int .i64 p0.2.1.2.2.2.2.1, .int .i64 p0.2.1.2.2.2.2.2]) 2 F Aa Aa El Aa).q fun a w F W => ?_
   refine AD F W (Aj F Aa Aa Aa Aa) Aa (Ap Aa) (Al CA Aa Aa Aa El F Aa 1 Aa).q fun a w F W => ?_
   refine AD F W (Aj F Aa Aa Aa Aa) Aa (Ap Aa) (As (v := Value.agg #[.int .i64 p1.2.1.1, .int .i64 p1.2.1.2.1.1, .int .i64 p1.2.1.2.1.2.1, .int .i64 p1.2.1.2.1.2.2.1, .int .i64 p1.2.1.2.1.2.2.2, .int .i64 p1.2.1.2.2.1, .int .i64 p1.2.1.2.2.2.1, .int .i64 p1.2.1.2.2.2.2.1, .int .i64 p1.2.1.2.2.2.2.2]) 1 F Aa Aa El Aa).q fun a w F W => ?_
   refine AD F W (Aj F Aa Aa Aa Aa) Aa (Ap Aa) (LW (t := decide (p0.2.1.1 = p1.2.1.1 ∧ p0.2.1.2.1.1 = p1.2.1.2.1.1 ∧ p0.2.1.2.1.2.1 = p1.2.1.2.1.2.1 ∧ p0.2.1.2.1.2.2.1 = p1.2.1.2.1.2.2.1 ∧ p0.2.1.2.1.2.2.2 = p1.2.1.2.1.2.2.2 ∧ p0.2.1.2.2.1 = p1.2.1.2.2.1 ∧ p0.2.1.2.2.2.1 = p1.2.1.2.2.2.1 ∧ p0.2.1.2.2.2.2.1 = p1.2.1.2.2.2.2.1 ∧ p0.2.1.2.2.2.2.2 = p1.2.1.2.2.2.2.2)) MI (MQ _ _ _ _ _ _ _ _ _ _ _ _ _ _ _ _ _ _) F Aa Aa).q fun a w F W => ?_
   refine ls F W Aa (Aw F Aa Aa Aa).q fun a w F W => ?_
   refine ls F W Aa (Ah F Aa).q fun a w F W => ?_
   rcases Bool.eq_false_or_eq_true (!(decide (p0.2.1.1 = p1.2.1.1 ∧ p0.2.1.2.1.1 = p1.2.1.2.1.1 ∧ p0.2.1.2.1.2.1 = p1.2.1.2.1.2.1 ∧ p0.2.1.2.1.2.2.1 = p1.2.1.2.1.2.2.1 ∧ p0.2.1.2.1.2.2.2 = p1.2.1.2.1.2.2.2 ∧ p0.2.1.2.2.1 = p1.2.1.2.2.1 ∧ p0.2.1.2.2.2.1 = p1.2.1.2.2.2.1 ∧ p0.2.1.2.2.2.2.1 = p1.2.1.2.2.2.2.1 ∧ p0.2.1.2.2.2.2.2 = p1.2.1.2.2.2.2.2))) with hb1 | hb1
   ·
    rw [hb1] at F
    refine AD F W (Aj F Aa Aa Aa Aa) Aa (Ap Aa) (Ah F Aa).q fun a w F W => ?_
    refine ls F W Aa (Aw F Aa Aa Aa).q fun a w F W => ?_
    refine ls F W Aa (Af F Aa).q fun a w F W => ?_
    refine Ag (Ad ?_)
    exact ⟨F.re ⟨(by show some (Value.bool x1.2) = some (Value.bool (decide (p0.1 = p1.1) && (!(decide (p0.2.1.1 = p1.2.1.1 ∧ p0.2.1.2.1.1 = p1.2.1.2.1.1 ∧ p0.2.1.2.1.2.1 = p1.2.1.2.1.2.1 ∧ p0.2.1.2.1.2.2.1 = p1.2.1.2.1.2.2.1 ∧ p0.2.1.2.1.2.2.2 = p1.2.1.2.1.2.2.2 ∧ p0.2.1.2.2.1 = p1.2.1.2.2.1 ∧ p0.2.1.2.2.2.1 = p1.2.1.2.2.2.1 ∧ p0.2.1.2.2.2.2.1 = p1.2.1.2.2.2.2.1 ∧ p0.2.1.2.2.2.2.2 = p1.2.1.2.2.2.2.2)) && x1.2))); try rw [hb1]; try rw [hb0]; all_goals simp only [Bool.not_true, Bool.not_false, Bool.true_and, Bool.false_and, Bool.true_or, Bool.false_or, Bool.and_true, Bool.or_false, cond_true, cond_false]), trivial⟩, W⟩
   rw [hb1] at F
   refine Ci F Aa Aa Aa Aa Aa Aa Aa fun a F => ?_
   refine ls F W Aa (Ao F Aa Aa Aa).q fun a w F W => ?_
   refine ls F W Aa (Af F Aa).q fun a w F W => ?_
   refine Ag (Ad ?_)
   exact ⟨F.re ⟨(by show some (Value.bool false) = some (Value.bool (decide (p0.1 = p1.1) && (!(decide (p0.2.1.1 = p1.2.1.1 ∧ p0.2.1.2.1.1 = p1.2.1.2.1.1 ∧ p0.2.1.2.1.2.1 = p1.2.1.2.1.2.1 ∧ p0.2.1.2.1.2.2.1 = p1.2.1.2.1.2.2.1 ∧ p0.2.1.2.1.2.2.2 = p1.2.1.2.1.2.2.2 ∧ p0.2.1.2.2.1 = p1.2.1.2.2.1 ∧ p0.2.1.2.2.2.1 = p1.2.1.2.2.2.1 ∧ p0.2.1.2.2.2.2.1 = p1.2.1.2.2.2.2.1 ∧ p0.2.1.2.2.2.2.2 = p1.2.1.2.2.2.2.2)) && x1.2))); try rw [hb1]; try rw [hb0]; all_goals simp only [Bool.not_true, Bool.not_false, Bool.true_and, Bool.false_and, Bool.true_or, Bool.false_or, Bool.and_true, Bool.or_false, cond_true, cond_false]), trivial⟩, W⟩
  rw [hb0] at F
  iterate 5 refine Ci F Aa Aa Aa Aa Aa Aa Aa fun a F => ?_
  refine ls F W Aa (Ao F Aa Aa Aa).q fun a w F W => ?_
  refine ls F W Aa (Ah F Aa).q fun a w F W => ?_
  refine Ci F Aa Aa Aa Aa Aa Aa Aa fun a F => ?_
  refine ls F W Aa (Ao F Aa Aa Aa).q fun a w F W => ?_
  refine ls F W Aa (Af F Aa).q fun a w F W => ?_
  refine Ag (Ad ?_)
  exact ⟨F.re ⟨(by show some (Value.bool false) = some (Value.bool (decide (p0.1 = p1.1) && (!(decide (p0.2.1.1 = p1.2.1.1 ∧ p0.2.1.2.1.1 = p1.2.1.2.1.1 ∧ p0.2.1.2.1.2.1 = p1.2.1.2.1.2.1 ∧ p0.2.1.2.1.2.2.1 = p1.2.1.2.1.2.2.1 ∧ p0.2.1.2.1.2.2.2 = p1.2.1.2.1.2.2.2 ∧ p0.2.1.2.2.1 = p1.2.1.2.2.1 ∧ p0.2.1.2.2.2.1 = p1.2.1.2.2.2.1 ∧ p0.2.1.2.2.2.2.1 = p1.2.1.2.2.2.2.1 ∧ p0.2.1.2.2.2.2.2 = p1.2.1.2.2.2.2.2)) && x1.2))); try rw [hb0]; all_goals simp only [Bool.not_true, Bool.not_false, Bool.true_and, Bool.false_and, Bool.true_or, Bool.false_or, Bool.and_true, Bool.or_false, cond_true, cond_false]), trivial⟩, W⟩
 rintro a w ⟨F, W⟩
 refine Ay ?_
 have H := AZ H
 subst H
 refine AO (.inl Aa) F W Aa (Au F Aa) ?_
 exact ⟨rfl, W.done⟩
theorem NR : Has Try.prog 61 := ⟨fun args w => An Try.func61 rfl (by decide) args w⟩
noncomputable def DH (p0 : Int × (Int × (Int × Int × Int × Int) × (Int × Int × Int × Int)) × (List (Int × Int × Int))) (p1 : Int × (Int × (Int × (Int × Int × Int × Int) × (Int × Int × Int × Int)) × (List (Int × Int × Int))) × Bool) : Option Bool := (CD p0 p1.2.1).bind fun x1 => some x1
theorem Ii (Y : Nat → Prop) (w0 : World) (v1 : Value) (q_p1 : Nat) (v2 : Value) (p0 : Int × (Int × (Int × Int × Int × Int) × (Int × Int × Int × Int)) × (List (Int × Int × Int))) (p1 : Int × (Int × (Int × (Int × Int × Int × Int) × (Int × Int × Int × Int)) × (List (Int × Int × Int))) × Bool) (r : Bool) (H : DH p0 p1 = some r) (h_v1 : Sl w0 (NX []) Br v1 p0.2.2) (h_v2 : Sl w0 (NX []) Br v2 p1.2.1.2.2) (a_q_p1 : At ⟨Y, [], w0⟩ q_p1 0 [.int .i64 p1.1, .int .i64 p1.2.1.1, .int .i64 p1.2.1.2.1.1, .int .i64 p1.2.1.2.1.2.1.1, .int .i64 p1.2.1.2.1.2.1.2.1, .int .i64 p1.2.1.2.1.2.1.2.2.1, .int .i64 p1.2.1.2.1.2.1.2.2.2, .int .i64 p1.2.1.2.1.2.2.1, .int .i64 p1.2.1.2.1.2.2.2.1, .int .i64 p1.2.1.2.1.2.2.2.2.1, .int .i64 p1.2.1.2.1.2.2.2.2.2, v2, .bool p1.2.2]) :
    Calls Try.prog 60 #[.agg #[.int .i64 p0.1, .int .i64 p0.2.1.1, .int .i64 p0.2.1.2.1.1, .int .i64 p0.2.1.2.1.2.1, .int .i64 p0.2.1.2.1.2.2.1, .int .i64 p0.2.1.2.1.2.2.2, .int .i64 p0.2.1.2.2.1, .int .i64 p0.2.1.2.2.2.1, .int .i64 p0.2.1.2.2.2.2.1, .int .i64 p0.2.1.2.2.2.2.2, v1], .pointer (some ⟨q_p1, 0, none⟩)] w0 fun e w' => e = .returned (.bool r) ∧ Below w0.heap.size w0 w' := by
 refine enter Try.func60 Aa Try.ntmps60 Aa fun a F => ?_
 have W := Stw.start Y w0
 unfold DH at H
 refine Ak (Ae ?_)
 refine B2 (cs := [.int .i64 p0.1, .int .i64 p0.2.1.1, .int .i64 p0.2.1.2.1.1, .int .i64 p0.2.1.2.1.2.1, .int .i64 p0.2.1.2.1.2.2.1, .int .i64 p0.2.1.2.1.2.2.2, .int .i64 p0.2.1.2.2.1, .int .i64 p0.2.1.2.2.2.1, .int .i64 p0.2.1.2.2.2.2.1, .int .i64 p0.2.1.2.2.2.2.2, v1]) F W Aa Aa Aa fun b1 a w F W => ?_
 refine ls F W Aa (Af F Aa).q fun a w F W => ?_
 refine Ag (Ad (Ak (Ae ?_)))
 refine ls F W Aa (As (v := Value.agg #[.int .i64 p0.1, .int .i64 p0.2.1.1, .int .i64 p0.2.1.2.1.1, .int .i64 p0.2.1.2.1.2.1, .int .i64 p0.2.1.2.1.2.2.1, .int .i64 p0.2.1.2.1.2.2.2, .int .i64 p0.2.1.2.2.1, .int .i64 p0.2.1.2.2.2.1, .int .i64 p0.2.1.2.2.2.2.1, .int .i64 p0.2.1.2.2.2.2.2, v1]) 0 F Aa Aa Da Aa).q fun a w F W => ?_
 refine ls F W Aa (Al FB Aa Aa Aa Da F Aa 1 Aa).q fun a w F W => ?_
 refine ls F W Aa (EN (y := Value.agg #[.int .i64 p1.2.1.1, .int .i64 p1.2.1.2.1.1, .int .i64 p1.2.1.2.1.2.1.1, .int .i64 p1.2.1.2.1.2.1.2.1, .int .i64 p1.2.1.2.1.2.1.2.2.1, .int .i64 p1.2.1.2.1.2.1.2.2.2, .int .i64 p1.2.1.2.1.2.2.1, .int .i64 p1.2.1.2.1.2.2.2.1, .int .i64 p1.2.1.2.1.2.2.2.2.1, .int .i64 p1.2.1.2.1.2.2.2.2.2, v2]) (j := 1) F Aa (Nat.zero_add _).symm a_q_p1 Da Aa).q fun a w F W => ?_
 obtain ⟨x1, h1, H⟩ := Aq H
 refine ls F W Aa (A4 (v := Value.bool x1) F NR Aa (fun w W => Hk any w (v1) (v2) p0 p1.2.1 _ h1 (((Av h_v1) : Dc _ _ _ _ _ _) w W).nx (((Av h_v2) : Dc _ _ _ _ _ _) w W).nx)) fun a w F W => ?_
 refine ls F W Aa (Af F Aa).q fun a w F W => ?_
 refine Ag (Ad (Ay ?_))
 have H := AZ H
 subst H
 refine AO (.inl Aa) F W Aa (Au F Aa) ?_
 exact ⟨rfl, W.done⟩
theorem NS : Has Try.prog 60 := ⟨fun args w => An Try.func60 rfl (by decide) args w⟩
noncomputable def AQ (p0 : List (Int × (Int × (Int × Int × Int × Int) × (Int × Int × Int × Int)) × (List (Int × Int × Int)))) (p1c0 : Int × (Int × (Int × (Int × Int × Int × Int) × (Int × Int × Int × Int)) × (List (Int × Int × Int))) × Bool) : Int → Option (Int ⊕ (Unit ⊕ Int))
  | x1 => (if x1 < (p0.length : Int) then (ix p0 x1).bind fun x2 => (DH x2 p1c0).bind fun x3 => (if x3 = true then some (.inr (.inr x1)) else some (.inl (CG (x1 + 1)))) else some (.inr (.inl ())))
noncomputable def A1 (p0 : List (Int × (Int × (Int × Int × Int × Int) × (Int × Int × Int × Int)) × (List (Int × Int × Int)))) (p1c0 : Int × (Int × (Int × (Int × Int × Int × Int) × (Int × Int × Int × Int)) × (List (Int × Int × Int))) × Bool) : Option Int := FL (Bh (AQ p0 p1c0) 0) fun _ => some (-1)
theorem DB (Y : Nat → Prop) (w0 : World) (v1 : Value) (q_p1c0 : Nat) (v2 : Value) (p0 : List (Int × (Int × (Int × Int × Int × Int) × (Int × Int × Int × Int)) × (List (Int × Int × Int)))) (p1c0 : Int × (Int × (Int × (Int × Int × Int × Int) × (Int × Int × Int × Int)) × (List (Int × Int × Int))) × Bool) (r : Int) (H : A1 p0 p1c0 = some r) (h_v1 : Sl w0 (NX []) A6 v1 p0) (h_v2 : Sl w0 (NX []) Br v2 p1c0.2.1.2.2) (a_q_p1c0 : At ⟨Y, [], w0⟩ q_p1c0 0 [.int .i64 p1c0.1, .int .i64 p1c0.2.1.1, .int .i64 p1c0.2.1.2.1.1, .int .i64 p1c0.2.1.2.1.2.1.1, .int .i64 p1c0.2.1.2.1.2.1.2.1, .int .i64 p1c0.2.1.2.1.2.1.2.2.1, .int .i64 p1c0.2.1.2.1.2.1.2.2.2, .int .i64 p1c0.2.1.2.1.2.2.1, .int .i64 p1c0.2.1.2.1.2.2.2.1, .int .i64 p1c0.2.1.2.1.2.2.2.2.1, .int .i64 p1c0.2.1.2.1.2.2.2.2.2, v2, .bool p1c0.2.2]) :
    Calls Try.prog 36 #[v1, .func (.func 60) #[] #[.pointer (some ⟨q_p1c0, 0, none⟩)]] w0 fun e w' => e = .returned (.int .i64 r) ∧ Below w0.heap.size w0 w' := by
 refine enter Try.func36 Aa Try.ntmps36 Aa fun a F => ?_
 have W := Stw.start Y w0
 obtain ⟨v3, h1, h_v1⟩ := h_v1.ex Bo
 unfold A1 at H
 refine Ak (Ae ?_)
 refine ls F W Aa (Af F Aa).q fun a w F W => ?_
 refine Ag (Ad ?_)
 obtain ⟨o1, G1, K1, L1⟩ := IA H
 refine AY (fun a w => some (Sum.inl ()) = some o1 ∧ Fr 19 [] [(4, .int .i64 0)] a ∧ Stw ⟨Y, [], w0⟩ [] [] w) ?_ ?_
 ·
  have H := G1
  clear G1 K1
  refine Ak (Ae ?_)
  refine ls F W Aa (Ah F Aa).q fun a w F W => ?_
  refine ls F W Aa (B4 (r := A6) (l := p0) Em Aa F Aa (A7 Bo h1 (Av h_v1))).q fun a w F W => ?_
  refine ls F W Aa (Ah F Aa).q fun a w F W => ?_
  refine Ag (Ad (AB ?_))
  refine BU H (fun s a w => Fr 19 [] [(0, v1), (1, .func (.func 60) #[] #[.pointer (some ⟨q_p1c0, 0, none⟩)]), (4, .int .i64 0), (7, .int .i64 (p0.length : Int)), (8, .int .i64 s)] a ∧ Stw ⟨Y, [], w0⟩ [] [] w) ⟨F.re ⟨rfl, Aa, Aa, Aa, Aa, trivial⟩, W⟩ fun s o a w H L2 hR => ?_
  obtain ⟨x1, rfl⟩ : ∃ x, x = s := ⟨s, rfl⟩
  obtain ⟨F, W⟩ := hR
  have F : Fr 19 [] [(0, v1), (1, .func (.func 60) #[] #[.pointer (some ⟨q_p1c0, 0, none⟩)]), (4, .int .i64 0), (7, .int .i64 (p0.length : Int)), (8, .int .i64 x1)] a := F
  have W : Stw ⟨Y, [], w0⟩ [] [] w := W
  rw [AQ] at H
  refine Ak (Ae ?_)
  refine ls F W Aa (BS F Aa Aa).q fun a w F W => ?_
  refine Ag (Ad (Ak ?_))
  refine AA F Aa (fun hb => ?_) fun hb => ?_
  ·
   have H := AU (Bd hb) H
   rw [hb] at F
   clear hb
   refine Az (Ad (Ak (AB (Ak (Ae ?_)))))
   refine ls F W Aa (Ah F Aa).q fun a w F W => ?_
   refine ls F W Aa (Af F Aa).q fun a w F W => ?_
   refine Ag (Ad (Ak (Ae ?_)))
   iterate 3 refine ls F W Aa (Ah F Aa).q fun a w F W => ?_
   obtain ⟨x2, h2, H⟩ := Aq H
   obtain ⟨v4, h3, h4⟩ := CO h1 h2
   have h5 : Cm v4 = [.int .i64 x2.1, .int .i64 x2.2.1.1, .int .i64 x2.2.1.2.1.1, .int .i64 x2.2.1.2.1.2.1, .int .i64 x2.2.1.2.1.2.2.1, .int .i64 x2.2.1.2.1.2.2.2, .int .i64 x2.2.1.2.2.1, .int .i64 x2.2.1.2.2.2.1, .int .i64 x2.2.1.2.2.2.2.1, .int .i64 x2.2.1.2.2.2.2.2, (v4.2.2.1)] := congrArg (fun q : Int × (Int × (Int × Int × Int × Int) × (Int × Int × Int × Int)) × (List (Int × Int × Int)) => ([.int .i64 q.1, .int .i64 q.2.1.1, .int .i64 q.2.1.2.1.1, .int .i64 q.2.1.2.1.2.1, .int .i64 q.2.1.2.1.2.2.1, .int .i64 q.2.1.2.1.2.2.2, .int .i64 q.2.1.2.2.1, .int .i64 q.2.1.2.2.2.1, .int .i64 q.2.1.2.2.2.2.1, .int .i64 q.2.1.2.2.2.2.2, (v4.2.2.1)] : List Value)) h4
   refine ls F W Aa (Bl (r := C1) Fa F Aa Aa (Av h_v1) h3).q fun a w F W => ?_
   refine ls F W Aa (Ba (y := Value.agg #[.int .i64 x2.1, .int .i64 x2.2.1.1, .int .i64 x2.2.1.2.1.1, .int .i64 x2.2.1.2.1.2.1, .int .i64 x2.2.1.2.1.2.2.1, .int .i64 x2.2.1.2.1.2.2.2, .int .i64 x2.2.1.2.2.1, .int .i64 x2.2.1.2.2.2.1, .int .i64 x2.2.1.2.2.2.2.1, .int .i64 x2.2.1.2.2.2.2.2, (v4.2.2.1)]) (j := 0) (i := x1) (enc := Cm) F Aa Aa (Av h_v1) h3 Es Da (by rw [h5]; rfl)).q fun a w F W => ?_
   obtain ⟨x3, h6, H⟩ := Aq H
   refine ls F W Aa (EH (ws := [.agg #[.int .i64 x2.1, .int .i64 x2.2.1.1, .int .i64 x2.2.1.2.1.1, .int .i64 x2.2.1.2.1.2.1, .int .i64 x2.2.1.2.1.2.2.1, .int .i64 x2.2.1.2.1.2.2.2, .int .i64 x2.2.1.2.2.1, .int .i64 x2.2.1.2.2.2.1, .int .i64 x2.2.1.2.2.2.2.1, .int .i64 x2.2.1.2.2.2.2.2, (v4.2.2.1)], .pointer (some ⟨q_p1c0, 0, none⟩)]) (v := Value.bool x3) F NS Aa (fun w W => Ii any w ((v4.2.2.1)) q_p1c0 (v2) x2 p1c0 _ h6 (((DN (Av h_v1) h3 (Bv.snd (Bv.snd Bv.here)) (congrArg (fun q : Int × (Int × (Int × Int × Int × Int) × (Int × Int × Int × Int)) × (List (Int × Int × Int)) => q.2.2) h4)) : Dc _ _ _ _ _ _) w W).nx (((Av h_v2) : Dc _ _ _ _ _ _) w W).nx (At.re a_q_p1c0 W))) fun a w F W => ?_
   refine Ag (Ad ?_)
   refine AA F Aa (fun hb => ?_) fun hb => ?_
   ·
    have H := AU hb H
    rw [hb] at F
    clear hb
    refine Ak (Ae ?_)
    refine ls F W Aa (Ah F Aa).q fun a w F W => ?_
    refine ls F W Aa (Af F Aa).q fun a w F W => ?_
    refine Ag (Ad (Ay (AW ?_)))
    iterate 2 refine AC ?_
    refine AW (AC ?_)
    have H := L2 _ H
    have H := L1 _ H
    have H := AZ H
    subst H
    refine AO (.inl Aa) F W Aa (Au F Aa) ?_
    exact ⟨rfl, W.done⟩
   have H := AV (by rw [hb]; decide) H
   rw [hb] at F
   clear hb
   refine Az (A5 (Ad (Ae ?_)))
   refine ls F W Aa (Co F Aa Aa Aa).q fun a w F W => ?_
   refine ls F W Aa (Ah F Aa).q fun a w F W => ?_
   refine Ag (Ad ?_)
   exact ⟨_, H, F.re ⟨rfl, Aa, Aa, Aa, Aa, trivial⟩, W⟩
  have H := AV (Be hb) H
  rw [hb] at F
  clear hb
  refine BV ?_
  iterate 2 refine Ce ?_
  refine BT (Ad ?_)
  have H := L2 _ H
  exact ⟨H, F.re ⟨rfl, trivial⟩, W⟩
 rintro a w ⟨hj, F, W⟩
 have H := K1 _ hj
 clear hj G1 K1 L1
 refine Ak (Ae ?_)
 refine ls F W Aa (Af F Aa).q fun a w F W => ?_
 refine Ag (Ad (Ay ?_))
 have H := AZ H
 subst H
 refine AO (.inl Aa) F W Aa (Au F Aa) ?_
 exact ⟨rfl, W.done⟩
theorem Mw : Has Try.prog 36 := ⟨fun args w => An Try.func36 rfl (by decide) args w⟩
noncomputable def AF (p0 : List (Int × (Int × (Int × Int × Int × Int) × (Int × Int × Int × Int)) × (List (Int × Int × Int)))) (p1c0 : Int × (Int × (Int × (Int × Int × Int × Int) × (Int × Int × Int × Int)) × (List (Int × Int × Int))) × Bool) : Option Bool := (A1 p0 p1c0).bind fun x1 => some (decide (0 ≤ x1))
theorem Db (Y : Nat → Prop) (w0 : World) (v1 : Value) (q_p1c0 : Nat) (v2 : Value) (p0 : List (Int × (Int × (Int × Int × Int × Int) × (Int × Int × Int × Int)) × (List (Int × Int × Int)))) (p1c0 : Int × (Int × (Int × (Int × Int × Int × Int) × (Int × Int × Int × Int)) × (List (Int × Int × Int))) × Bool) (r : Bool) (H : AF p0 p1c0 = some r) (h_v1 : Sl w0 (NX []) A6 v1 p0) (h_v2 : Sl w0 (NX []) Br v2 p1c0.2.1.2.2) (a_q_p1c0 : At ⟨Y, [], w0⟩ q_p1c0 0 [.int .i64 p1c0.1, .int .i64 p1c0.2.1.1, .int .i64 p1c0.2.1.2.1.1, .int .i64 p1c0.2.1.2.1.2.1.1, .int .i64 p1c0.2.1.2.1.2.1.2.1, .int .i64 p1c0.2.1.2.1.2.1.2.2.1, .int .i64 p1c0.2.1.2.1.2.1.2.2.2, .int .i64 p1c0.2.1.2.1.2.2.1, .int .i64 p1c0.2.1.2.1.2.2.2.1, .int .i64 p1c0.2.1.2.1.2.2.2.2.1, .int .i64 p1c0.2.1.2.1.2.2.2.2.2, v2, .bool p1c0.2.2]) :
    Calls Try.prog 44 #[v1, .func (.func 60) #[] #[.pointer (some ⟨q_p1c0, 0, none⟩)]] w0 fun e w' => e = .returned (.bool r) ∧ Below w0.heap.size w0 w' := by
 refine enter Try.func44 Aa Try.ntmps44 Aa fun a F => ?_
 have W := Stw.start Y w0
 obtain ⟨v3, h1, h_v1⟩ := h_v1.ex Bo
 unfold AF at H
 refine Ak (Ae ?_)
 refine ls F W Aa (Af F Aa).q fun a w F W => ?_
 refine Ag (Ad (Ak (Ae ?_)))
 iterate 2 refine ls F W Aa (Ah F Aa).q fun a w F W => ?_
 obtain ⟨x1, h2, H⟩ := Aq H
 refine ls F W Aa (A4 (v := Value.int .i64 x1) F Mw Aa (fun w W => DB any w (v1) q_p1c0 (v2) p0 p1c0 _ h2 (((A7 Bo h1 (Av h_v1)) : Dc _ _ _ _ _ _) w W).nx (((Av h_v2) : Dc _ _ _ _ _ _) w W).nx (At.re a_q_p1c0 W))) fun a w F W => ?_
 refine ls F W Aa (Ez F Aa Aa).q fun a w F W => ?_
 refine ls F W Aa (Af F Aa).q fun a w F W => ?_
 refine Ag (Ad (Ay ?_))
 have H := AZ H
 subst H
 refine AO (.inl Aa) F W Aa (Au F Aa) ?_
 exact ⟨rfl, W.done⟩
theorem M4 : Has Try.prog 44 := ⟨fun args w => An Try.func44 rfl (by decide) args w⟩
def Ab (p0 : Int × (Int × (Int × Int × Int × Int) × (Int × Int × Int × Int)) × (List (Int × Int × Int))) : (Int × (Int × (Int × Int × Int × Int) × (Int × Int × Int × Int)) × (List (Int × Int × Int))) := p0
theorem C4 (Y : Nat → Prop) (w0 : World) (v1 : Value) (p0 : Int × (Int × (Int × Int × Int × Int) × (Int × Int × Int × Int)) × (List (Int × Int × Int))) (r : (Int × (Int × (Int × Int × Int × Int) × (Int × Int × Int × Int)) × (List (Int × Int × Int)))) (H : Ab p0 = r) (s_v1 : Sl w0 Y Br v1 p0.2.2) :
    Calls Try.prog 45 #[.agg #[.int .i64 p0.1, .int .i64 p0.2.1.1, .int .i64 p0.2.1.2.1.1, .int .i64 p0.2.1.2.1.2.1, .int .i64 p0.2.1.2.1.2.2.1, .int .i64 p0.2.1.2.1.2.2.2, .int .i64 p0.2.1.2.2.1, .int .i64 p0.2.1.2.2.2.1, .int .i64 p0.2.1.2.2.2.2.1, .int .i64 p0.2.1.2.2.2.2.2, v1]] w0 fun e w' => ∃ x : Nat × Value, e = .returned (.func (.func 66) #[] #[.pointer (some ⟨x.1, 0, none⟩)]) ∧ Stw ⟨Y, [], w0⟩ [(x.1, [.int .i64 r.1, .int .i64 r.2.1.1, .int .i64 r.2.1.2.1.1, .int .i64 r.2.1.2.1.2.1, .int .i64 r.2.1.2.1.2.2.1, .int .i64 r.2.1.2.1.2.2.2, .int .i64 r.2.1.2.2.1, .int .i64 r.2.1.2.2.2.1, .int .i64 r.2.1.2.2.2.2.1, .int .i64 r.2.1.2.2.2.2.2, x.2])] [BP (x.2) Br r.2.2] w' := by
 refine enter Try.func45 Aa Try.ntmps45 Aa fun a F => ?_
 have W := Stw.start Y w0
 have h_v1 := W.nx s_v1
 unfold Ab at H
 refine Ak (Ae ?_)
 refine B2 (cs := [.int .i64 p0.1, .int .i64 p0.2.1.1, .int .i64 p0.2.1.2.1.1, .int .i64 p0.2.1.2.1.2.1, .int .i64 p0.2.1.2.1.2.2.1, .int .i64 p0.2.1.2.1.2.2.2, .int .i64 p0.2.1.2.2.1, .int .i64 p0.2.1.2.2.2.1, .int .i64 p0.2.1.2.2.2.2.1, .int .i64 p0.2.1.2.2.2.2.2, v1]) F W Aa Aa Aa fun b1 a w F W => ?_
 refine ls F W Aa (Af F Aa).q fun a w F W => ?_
 refine Ag (Ad (Ak (Ae ?_)))
 refine ls F W Aa (ES (us := []) (vs := [.pointer (some ⟨b1, 0, none⟩)]) F Aa Aa).q fun a w F W => ?_
 refine ls F W Aa (Af F Aa).q fun a w F W => ?_
 refine Ag (Ad (Ay ?_))
 subst H
 refine AO (.inl Aa) F W Aa (Au F Aa) ?_
 have W := W.note (W.old s_v1)
 exact ⟨(b1, (v1)), Aa, W⟩
theorem My : Has Try.prog 45 := ⟨fun args w => An Try.func45 rfl (by decide) args w⟩
def F7 (p0 : Int × (Int × (Int × Int × Int × Int) × (Int × Int × Int × Int)) × (List (Int × Int × Int))) (p1 : Int × (Int × (Int × Int × Int × Int) × (Int × Int × Int × Int)) × (List (Int × Int × Int))) : Bool := (decide (p0.1 = p1.1) && decide (p0.2.1.1 = p1.2.1.1 ∧ p0.2.1.2.1.1 = p1.2.1.2.1.1 ∧ p0.2.1.2.1.2.1 = p1.2.1.2.1.2.1 ∧ p0.2.1.2.1.2.2.1 = p1.2.1.2.1.2.2.1 ∧ p0.2.1.2.1.2.2.2 = p1.2.1.2.1.2.2.2 ∧ p0.2.1.2.2.1 = p1.2.1.2.2.1 ∧ p0.2.1.2.2.2.1 = p1.2.1.2.2.2.1 ∧ p0.2.1.2.2.2.2.1 = p1.2.1.2.2.2.2.1 ∧ p0.2.1.2.2.2.2.2 = p1.2.1.2.2.2.2.2))
theorem JB (Y : Nat → Prop) (w0 : World) (v1 : Value) (v2 : Value) (p0 : Int × (Int × (Int × Int × Int × Int) × (Int × Int × Int × Int)) × (List (Int × Int × Int))) (p1 : Int × (Int × (Int × Int × Int × Int) × (Int × Int × Int × Int)) × (List (Int × Int × Int))) (r : Bool) (H : F7 p0 p1 = r) (h_v1 : Sl w0 (NX []) Br v1 p0.2.2) (h_v2 : Sl w0 (NX []) Br v2 p1.2.2) :
    Calls Try.prog 25 #[.agg #[.int .i64 p0.1, .int .i64 p0.2.1.1, .int .i64 p0.2.1.2.1.1, .int .i64 p0.2.1.2.1.2.1, .int .i64 p0.2.1.2.1.2.2.1, .int .i64 p0.2.1.2.1.2.2.2, .int .i64 p0.2.1.2.2.1, .int .i64 p0.2.1.2.2.2.1, .int .i64 p0.2.1.2.2.2.2.1, .int .i64 p0.2.1.2.2.2.2.2, v1], .agg #[.int .i64 p1.1, .int .i64 p1.2.1.1, .int .i64 p1.2.1.2.1.1, .int .i64 p1.2.1.2.1.2.1, .int .i64 p1.2.1.2.1.2.2.1, .int .i64 p1.2.1.2.1.2.2.2, .int .i64 p1.2.1.2.2.1, .int .i64 p1.2.1.2.2.2.1, .int .i64 p1.2.1.2.2.2.2.1, .int .i64 p1.2.1.2.2.2.2.2, v2]] w0 fun e w' => e = .returned (.bool r) ∧ Below w0.heap.size w0 w' := by
 refine enter Try.func25 Aa Try.ntmps25 Aa fun a F => ?_
 have W := Stw.start Y w0
 unfold F7 at H
 refine Ak (Ae ?_)
 refine B2 (cs := [.int .i64 p0.1, .int .i64 p0.2.1.1, .int .i64 p0.2.1.2.1.1, .int .i64 p0.2.1.2.1.2.1, .int .i64 p0.2.1.2.1.2.2.1, .int .i64 p0.2.1.2.1.2.2.2, .int .i64 p0.2.1.2.2.1, .int .i64 p0.2.1.2.2.2.1, .int .i64 p0.2.1.2.2.2.2.1, .int .i64 p0.2.1.2.2.2.2.2, v1]) F W Aa Aa Aa fun b1 a w F W => ?_
 refine B2 (cs := [.int .i64 p1.1, .int .i64 p1.2.1.1, .int .i64 p1.2.1.2.1.1, .int .i64 p1.2.1.2.1.2.1, .int .i64 p1.2.1.2.1.2.2.1, .int .i64 p1.2.1.2.1.2.2.2, .int .i64 p1.2.1.2.2.1, .int .i64 p1.2.1.2.2.2.1, .int .i64 p1.2.1.2.2.2.2.1, .int .i64 p1.2.1.2.2.2.2.2, v2]) F W Aa Aa Aa fun b2 a w F W => ?_
 refine ls F W Aa (Af F Aa).q fun a w F W => ?_
 refine Ag (Ad ?_)
 refine AY (fun a w => Fr 17 [] [(4, .bool (decide (p0.1 = p1.1) && decide (p0.2.1.1 = p1.2.1.1 ∧ p0.2.1.2.1.1 = p1.2.1.2.1.1 ∧ p0.2.1.2.1.2.1 = p1.2.1.2.1.2.1 ∧ p0.2.1.2.1.2.2.1 = p1.2.1.2.1.2.2.1 ∧ p0.2.1.2.1.2.2.2 = p1.2.1.2.1.2.2.2 ∧ p0.2.1.2.2.1 = p1.2.1.2.2.1 ∧ p0.2.1.2.2.2.1 = p1.2.1.2.2.2.1 ∧ p0.2.1.2.2.2.2.1 = p1.2.1.2.2.2.2.1 ∧ p0.2.1.2.2.2.2.2 = p1.2.1.2.2.2.2.2)))] a ∧ Stw ⟨Y, [], w0⟩ [(b2, [.int .i64 p1.1, .int .i64 p1.2.1.1, .int .i64 p1.2.1.2.1.1, .int .i64 p1.2.1.2.1.2.1, .int .i64 p1.2.1.2.1.2.2.1, .int .i64 p1.2.1.2.1.2.2.2, .int .i64 p1.2.1.2.2.1, .int .i64 p1.2.1.2.2.2.1, .int .i64 p1.2.1.2.2.2.2.1, .int .i64 p1.2.1.2.2.2.2.2, v2]), (b1, [.int .i64 p0.1, .int .i64 p0.2.1.1, .int .i64 p0.2.1.2.1.1, .int .i64 p0.2.1.2.1.2.1, .int .i64 p0.2.1.2.1.2.2.1, .int .i64 p0.2.1.2.1.2.2.2, .int .i64 p0.2.1.2.2.1, .int .i64 p0.2.1.2.2.2.1, .int .i64 p0.2.1.2.2.2.2.1, .int .i64 p0.2.1.2.2.2.2.2, v1])] [] w) ?_ ?_
 ·
  refine Ae ?_
  refine ls F W Aa (Al CA Aa Aa Aa T3 F Aa 0 Aa).q fun a w F W => ?_
  refine ls F W Aa (As (v := Value.int .i64 p0.1) 1 F Aa Aa T3 Aa).q fun a w F W => ?_
  refine ls F W Aa (Al CA Aa Aa Aa T3 F Aa 0 Aa).q fun a w F W => ?_
  refine ls F W Aa (As (v := Value.int .i64 p1.1) 0 F Aa Aa T3 Aa).q fun a w F W => ?_
  refine ls F W Aa (BJ F Aa Aa).q fun a w F W => ?_
  refine ls F W Aa (Ah F Aa).q fun a w F W => ?_
  rcases Bool.eq_false_or_eq_true (decide (p0.1 = p1.1)) with hb0 | hb0
  ·
   rw [hb0] at F
   refine AD F W (Aj F Aa Aa Aa Aa) Aa (Ap Aa) (Al CA Aa Aa Aa El F Aa 1 Aa).q fun a w F W => ?_
   refine AD F W (Aj F Aa Aa Aa Aa) Aa (Ap Aa) (As (v := Value.agg #[.int .i64 p0.2.1.1, .int .i64 p0.2.1.2.1.1, .int .i64 p0.2.1.2.1.2.1, .int .i64 p0.2.1.2.1.2.2.1, .int .i64 p0.2.1.2.1.2.2.2, .int .i64 p0.2.1.2.2.1, .int .i64 p0.2.1.2.2.2.1, .int .i64 p0.2.1.2.2.2.2.1, .int .i64 p0.2.1.2.2.2.2.2]) 1 F Aa Aa El Aa).q fun a w F W => ?_
   refine AD F W (Aj F Aa Aa Aa Aa) Aa (Ap Aa) (Al CA Aa Aa Aa El F Aa 1 Aa).q fun a w F W => ?_
   refine AD F W (Aj F Aa Aa Aa Aa) Aa (Ap Aa) (As (v := Value.agg #[.int .i64 p1.2.1.1, .int .i64 p1.2.1.2.1.1, .int .i64 p1.2.1.2.1.2.1, .int .i64 p1.2.1.2.1.2.2.1, .int .i64 p1.2.1.2.1.2.2.2, .int .i64 p1.2.1.2.2.1, .int .i64 p1.2.1.2.2.2.1, .int .i64 p1.2.1.2.2.2.2.1, .int .i64 p1.2.1.2.2.2.2.2]) 0 F Aa Aa El Aa).q fun a w F W => ?_
   refine AD F W (Aj F Aa Aa Aa Aa) Aa (Ap Aa) (JS (t := decide (p0.2.1.1 = p1.2.1.1 ∧ p0.2.1.2.1.1 = p1.2.1.2.1.1 ∧ p0.2.1.2.1.2.1 = p1.2.1.2.1.2.1 ∧ p0.2.1.2.1.2.2.1 = p1.2.1.2.1.2.2.1 ∧ p0.2.1.2.1.2.2.2 = p1.2.1.2.1.2.2.2 ∧ p0.2.1.2.2.1 = p1.2.1.2.2.1 ∧ p0.2.1.2.2.2.1 = p1.2.1.2.2.2.1 ∧ p0.2.1.2.2.2.2.1 = p1.2.1.2.2.2.2.1 ∧ p0.2.1.2.2.2.2.2 = p1.2.1.2.2.2.2.2)) MI (MQ _ _ _ _ _ _ _ _ _ _ _ _ _ _ _ _ _ _) F Aa Aa).q fun a w F W => ?_
   refine ls F W Aa (Aw F Aa Aa Aa).q fun a w F W => ?_
   refine ls F W Aa (Af F Aa).q fun a w F W => ?_
   refine Ag (Ad ?_)
   exact ⟨F.re ⟨(by show some (Value.bool (decide (p0.2.1.1 = p1.2.1.1 ∧ p0.2.1.2.1.1 = p1.2.1.2.1.1 ∧ p0.2.1.2.1.2.1 = p1.2.1.2.1.2.1 ∧ p0.2.1.2.1.2.2.1 = p1.2.1.2.1.2.2.1 ∧ p0.2.1.2.1.2.2.2 = p1.2.1.2.1.2.2.2 ∧ p0.2.1.2.2.1 = p1.2.1.2.2.1 ∧ p0.2.1.2.2.2.1 = p1.2.1.2.2.2.1 ∧ p0.2.1.2.2.2.2.1 = p1.2.1.2.2.2.2.1 ∧ p0.2.1.2.2.2.2.2 = p1.2.1.2.2.2.2.2))) = some (Value.bool (decide (p0.1 = p1.1) && decide (p0.2.1.1 = p1.2.1.1 ∧ p0.2.1.2.1.1 = p1.2.1.2.1.1 ∧ p0.2.1.2.1.2.1 = p1.2.1.2.1.2.1 ∧ p0.2.1.2.1.2.2.1 = p1.2.1.2.1.2.2.1 ∧ p0.2.1.2.1.2.2.2 = p1.2.1.2.1.2.2.2 ∧ p0.2.1.2.2.1 = p1.2.1.2.2.1 ∧ p0.2.1.2.2.2.1 = p1.2.1.2.2.2.1 ∧ p0.2.1.2.2.2.2.1 = p1.2.1.2.2.2.2.1 ∧ p0.2.1.2.2.2.2.2 = p1.2.1.2.2.2.2.2))); try rw [hb0]; all_goals simp only [Bool.not_true, Bool.not_false, Bool.true_and, Bool.false_and, Bool.true_or, Bool.false_or, Bool.and_true, Bool.or_false, cond_true, cond_false]), trivial⟩, W⟩
  rw [hb0] at F
  iterate 5 refine Ci F Aa Aa Aa Aa Aa Aa Aa fun a F => ?_
  refine ls F W Aa (Ao F Aa Aa Aa).q fun a w F W => ?_
  refine ls F W Aa (Af F Aa).q fun a w F W => ?_
  refine Ag (Ad ?_)
  exact ⟨F.re ⟨(by show some (Value.bool false) = some (Value.bool (decide (p0.1 = p1.1) && decide (p0.2.1.1 = p1.2.1.1 ∧ p0.2.1.2.1.1 = p1.2.1.2.1.1 ∧ p0.2.1.2.1.2.1 = p1.2.1.2.1.2.1 ∧ p0.2.1.2.1.2.2.1 = p1.2.1.2.1.2.2.1 ∧ p0.2.1.2.1.2.2.2 = p1.2.1.2.1.2.2.2 ∧ p0.2.1.2.2.1 = p1.2.1.2.2.1 ∧ p0.2.1.2.2.2.1 = p1.2.1.2.2.2.1 ∧ p0.2.1.2.2.2.2.1 = p1.2.1.2.2.2.2.1 ∧ p0.2.1.2.2.2.2.2 = p1.2.1.2.2.2.2.2))); try rw [hb0]; all_goals simp only [Bool.not_true, Bool.not_false, Bool.true_and, Bool.false_and, Bool.true_or, Bool.false_or, Bool.and_true, Bool.or_false, cond_true, cond_false]), trivial⟩, W⟩
 rintro a w ⟨F, W⟩
 refine Ay ?_
 subst H
 refine AO (.inl Aa) F W Aa (Au F Aa) ?_
 exact ⟨rfl, W.done⟩
theorem Oy : Has Try.prog 25 := ⟨fun args w => An Try.func25 rfl (by decide) args w⟩
def BC (p0 : Int × (Int × (Int × Int × Int × Int) × (Int × Int × Int × Int)) × (List (Int × Int × Int))) (p1 : Int × (Int × (Int × Int × Int × Int) × (Int × Int × Int × Int)) × (List (Int × Int × Int))) : Bool := (F7 p1 p0)
theorem Ew (Y : Nat → Prop) (w0 : World) (v1 : Value) (q_p1 : Nat) (v2 : Value) (p0 : Int × (Int × (Int × Int × Int × Int) × (Int × Int × Int × Int)) × (List (Int × Int × Int))) (p1 : Int × (Int × (Int × Int × Int × Int) × (Int × Int × Int × Int)) × (List (Int × Int × Int))) (r : Bool) (H : BC p0 p1 = r) (h_v1 : Sl w0 (NX []) Br v1 p0.2.2) (h_v2 : Sl w0 (NX []) Br v2 p1.2.2) (a_q_p1 : At ⟨Y, [], w0⟩ q_p1 0 [.int .i64 p1.1, .int .i64 p1.2.1.1, .int .i64 p1.2.1.2.1.1, .int .i64 p1.2.1.2.1.2.1, .int .i64 p1.2.1.2.1.2.2.1, .int .i64 p1.2.1.2.1.2.2.2, .int .i64 p1.2.1.2.2.1, .int .i64 p1.2.1.2.2.2.1, .int .i64 p1.2.1.2.2.2.2.1, .int .i64 p1.2.1.2.2.2.2.2, v2]) :
    Calls Try.prog 66 #[.agg #[.int .i64 p0.1, .int .i64 p0.2.1.1, .int .i64 p0.2.1.2.1.1, .int .i64 p0.2.1.2.1.2.1, .int .i64 p0.2.1.2.1.2.2.1, .int .i64 p0.2.1.2.1.2.2.2, .int .i64 p0.2.1.2.2.1, .int .i64 p0.2.1.2.2.2.1, .int .i64 p0.2.1.2.2.2.2.1, .int .i64 p0.2.1.2.2.2.2.2, v1], .pointer (some ⟨q_p1, 0, none⟩)] w0 fun e w' => e = .returned (.bool r) ∧ Below w0.heap.size w0 w' := by
 refine enter Try.func66 Aa Try.ntmps66 Aa fun a F => ?_
 have W := Stw.start Y w0
 unfold BC at H
 refine Ak (Ae ?_)
 refine B2 (cs := [.int .i64 p0.1, .int .i64 p0.2.1.1, .int .i64 p0.2.1.2.1.1, .int .i64 p0.2.1.2.1.2.1, .int .i64 p0.2.1.2.1.2.2.1, .int .i64 p0.2.1.2.1.2.2.2, .int .i64 p0.2.1.2.2.1, .int .i64 p0.2.1.2.2.2.1, .int .i64 p0.2.1.2.2.2.2.1, .int .i64 p0.2.1.2.2.2.2.2, v1]) F W Aa Aa Aa fun b1 a w F W => ?_
 refine ls F W Aa (Af F Aa).q fun a w F W => ?_
 refine Ag (Ad (Ak (Ae ?_)))
 refine ls F W Aa (EN (y := Value.agg #[.int .i64 p1.1, .int .i64 p1.2.1.1, .int .i64 p1.2.1.2.1.1, .int .i64 p1.2.1.2.1.2.1, .int .i64 p1.2.1.2.1.2.2.1, .int .i64 p1.2.1.2.1.2.2.2, .int .i64 p1.2.1.2.2.1, .int .i64 p1.2.1.2.2.2.1, .int .i64 p1.2.1.2.2.2.2.1, .int .i64 p1.2.1.2.2.2.2.2, v2]) (j := 0) F Aa (Nat.zero_add _).symm a_q_p1 Da Aa).q fun a w F W => ?_
 refine ls F W Aa (As (v := Value.agg #[.int .i64 p0.1, .int .i64 p0.2.1.1, .int .i64 p0.2.1.2.1.1, .int .i64 p0.2.1.2.1.2.1, .int .i64 p0.2.1.2.1.2.2.1, .int .i64 p0.2.1.2.1.2.2.2, .int .i64 p0.2.1.2.2.1, .int .i64 p0.2.1.2.2.2.1, .int .i64 p0.2.1.2.2.2.2.1, .int .i64 p0.2.1.2.2.2.2.2, v1]) 0 F Aa Aa Da Aa).q fun a w F W => ?_
 refine ls F W Aa (A4 (v := Value.bool (F7 p1 p0)) F Oy Aa (fun w W => JB any w (v2) (v1) p1 p0 _ Aa (((Av h_v2) : Dc _ _ _ _ _ _) w W).nx (((Av h_v1) : Dc _ _ _ _ _ _) w W).nx)) fun a w F W => ?_
 refine ls F W Aa (Af F Aa).q fun a w F W => ?_
 refine Ag (Ad (Ay ?_))
 subst H
 refine AO (.inl Aa) F W Aa (Au F Aa) ?_
 exact ⟨rfl, W.done⟩
theorem Nm : Has Try.prog 66 := ⟨fun args w => An Try.func66 rfl (by decide) args w⟩
noncomputable def AM (p0 : List (Int × (Int × (Int × Int × Int × Int) × (Int × Int × Int × Int)) × (List (Int × Int × Int)))) (p1c0 : Int × (Int × (Int × Int × Int × Int) × (Int × Int × Int × Int)) × (List (Int × Int × Int))) : Int → Option (Int ⊕ (Unit ⊕ Int))
  | x1 => (if x1 < (p0.length : Int) then (ix p0 x1).bind fun x2 => (if (BC x2 p1c0) = true then some (.inr (.inr x1)) else some (.inl (CG (x1 + 1)))) else some (.inr (.inl ())))
noncomputable def AG (p0 : List (Int × (Int × (Int × Int × Int × Int) × (Int × Int × Int × Int)) × (List (Int × Int × Int)))) (p1c0 : Int × (Int × (Int × Int × Int × Int) × (Int × Int × Int × Int)) × (List (Int × Int × Int))) : Option Int := FL (Bh (AM p0 p1c0) 0) fun _ => some (-1)
theorem Cg (Y : Nat → Prop) (w0 : World) (v1 : Value) (q_p1c0 : Nat) (v2 : Value) (p0 : List (Int × (Int × (Int × Int × Int × Int) × (Int × Int × Int × Int)) × (List (Int × Int × Int)))) (p1c0 : Int × (Int × (Int × Int × Int × Int) × (Int × Int × Int × Int)) × (List (Int × Int × Int))) (r : Int) (H : AG p0 p1c0 = some r) (h_v1 : Sl w0 (NX []) A6 v1 p0) (h_v2 : Sl w0 (NX []) Br v2 p1c0.2.2) (a_q_p1c0 : At ⟨Y, [], w0⟩ q_p1c0 0 [.int .i64 p1c0.1, .int .i64 p1c0.2.1.1, .int .i64 p1c0.2.1.2.1.1, .int .i64 p1c0.2.1.2.1.2.1, .int .i64 p1c0.2.1.2.1.2.2.1, .int .i64 p1c0.2.1.2.1.2.2.2, .int .i64 p1c0.2.1.2.2.1, .int .i64 p1c0.2.1.2.2.2.1, .int .i64 p1c0.2.1.2.2.2.2.1, .int .i64 p1c0.2.1.2.2.2.2.2, v2]) :
    Calls Try.prog 36 #[v1, .func (.func 66) #[] #[.pointer (some ⟨q_p1c0, 0, none⟩)]] w0 fun e w' => e = .returned (.int .i64 r) ∧ Below w0.heap.size w0 w' := by
 refine enter Try.func36 Aa Try.ntmps36 Aa fun a F => ?_
 have W := Stw.start Y w0
 obtain ⟨v3, h1, h_v1⟩ := h_v1.ex Bo
 unfold AG at H
 refine Ak (Ae ?_)
 refine ls F W Aa (Af F Aa).q fun a w F W => ?_
 refine Ag (Ad ?_)
 obtain ⟨o1, G1, K1, L1⟩ := IA H
 refine AY (fun a w => some (Sum.inl ()) = some o1 ∧ Fr 19 [] [(4, .int .i64 0)] a ∧ Stw ⟨Y, [], w0⟩ [] [] w) ?_ ?_
 ·
  have H := G1
  clear G1 K1
  refine Ak (Ae ?_)
  refine ls F W Aa (Ah F Aa).q fun a w F W => ?_
  refine ls F W Aa (B4 (r := A6) (l := p0) Em Aa F Aa (A7 Bo h1 (Av h_v1))).q fun a w F W => ?_
  refine ls F W Aa (Ah F Aa).q fun a w F W => ?_
  refine Ag (Ad (AB ?_))
  refine BU H (fun s a w => Fr 19 [] [(0, v1), (1, .func (.func 66) #[] #[.pointer (some ⟨q_p1c0, 0, none⟩)]), (4, .int .i64 0), (7, .int .i64 (p0.length : Int)), (8, .int .i64 s)] a ∧ Stw ⟨Y, [], w0⟩ [] [] w) ⟨F.re ⟨rfl, Aa, Aa, Aa, Aa, trivial⟩, W⟩ fun s o a w H L2 hR => ?_
  obtain ⟨x1, rfl⟩ : ∃ x, x = s := ⟨s, rfl⟩
  obtain ⟨F, W⟩ := hR
  have F : Fr 19 [] [(0, v1), (1, .func (.func 66) #[] #[.pointer (some ⟨q_p1c0, 0, none⟩)]), (4, .int .i64 0), (7, .int .i64 (p0.length : Int)), (8, .int .i64 x1)] a := F
  have W : Stw ⟨Y, [], w0⟩ [] [] w := W
  rw [AM] at H
  refine Ak (Ae ?_)
  refine ls F W Aa (BS F Aa Aa).q fun a w F W => ?_
  refine Ag (Ad (Ak ?_))
  refine AA F Aa (fun hb => ?_) fun hb => ?_
  ·
   have H := AU (Bd hb) H
   rw [hb] at F
   clear hb
   refine Az (Ad (Ak (AB (Ak (Ae ?_)))))
   refine ls F W Aa (Ah F Aa).q fun a w F W => ?_
   refine ls F W Aa (Af F Aa).q fun a w F W => ?_
   refine Ag (Ad (Ak (Ae ?_)))
   iterate 3 refine ls F W Aa (Ah F Aa).q fun a w F W => ?_
   obtain ⟨x2, h2, H⟩ := Aq H
   obtain ⟨v4, h3, h4⟩ := CO h1 h2
   have h5 : Cm v4 = [.int .i64 x2.1, .int .i64 x2.2.1.1, .int .i64 x2.2.1.2.1.1, .int .i64 x2.2.1.2.1.2.1, .int .i64 x2.2.1.2.1.2.2.1, .int .i64 x2.2.1.2.1.2.2.2, .int .i64 x2.2.1.2.2.1, .int .i64 x2.2.1.2.2.2.1, .int .i64 x2.2.1.2.2.2.2.1, .int .i64 x2.2.1.2.2.2.2.2, (v4.2.2.1)] := congrArg (fun q : Int × (Int × (Int × Int × Int × Int) × (Int × Int × Int × Int)) × (List (Int × Int × Int)) => ([.int .i64 q.1, .int .i64 q.2.1.1, .int .i64 q.2.1.2.1.1, .int .i64 q.2.1.2.1.2.1, .int .i64 q.2.1.2.1.2.2.1, .int .i64 q.2.1.2.1.2.2.2, .int .i64 q.2.1.2.2.1, .int .i64 q.2.1.2.2.2.1, .int .i64 q.2.1.2.2.2.2.1, .int .i64 q.2.1.2.2.2.2.2, (v4.2.2.1)] : List Value)) h4
   refine ls F W Aa (Bl (r := C1) Fa F Aa Aa (Av h_v1) h3).q fun a w F W => ?_
   refine ls F W Aa (Ba (y := Value.agg #[.int .i64 x2.1, .int .i64 x2.2.1.1, .int .i64 x2.2.1.2.1.1, .int .i64 x2.2.1.2.1.2.1, .int .i64 x2.2.1.2.1.2.2.1, .int .i64 x2.2.1.2.1.2.2.2, .int .i64 x2.2.1.2.2.1, .int .i64 x2.2.1.2.2.2.1, .int .i64 x2.2.1.2.2.2.2.1, .int .i64 x2.2.1.2.2.2.2.2, (v4.2.2.1)]) (j := 0) (i := x1) (enc := Cm) F Aa Aa (Av h_v1) h3 Es Da (by rw [h5]; rfl)).q fun a w F W => ?_
   refine ls F W Aa (EH (ws := [.agg #[.int .i64 x2.1, .int .i64 x2.2.1.1, .int .i64 x2.2.1.2.1.1, .int .i64 x2.2.1.2.1.2.1, .int .i64 x2.2.1.2.1.2.2.1, .int .i64 x2.2.1.2.1.2.2.2, .int .i64 x2.2.1.2.2.1, .int .i64 x2.2.1.2.2.2.1, .int .i64 x2.2.1.2.2.2.2.1, .int .i64 x2.2.1.2.2.2.2.2, (v4.2.2.1)], .pointer (some ⟨q_p1c0, 0, none⟩)]) (v := Value.bool (BC x2 p1c0)) F Nm Aa (fun w W => Ew any w ((v4.2.2.1)) q_p1c0 (v2) x2 p1c0 _ Aa (((DN (Av h_v1) h3 (Bv.snd (Bv.snd Bv.here)) (congrArg (fun q : Int × (Int × (Int × Int × Int × Int) × (Int × Int × Int × Int)) × (List (Int × Int × Int)) => q.2.2) h4)) : Dc _ _ _ _ _ _) w W).nx (((Av h_v2) : Dc _ _ _ _ _ _) w W).nx (At.re a_q_p1c0 W))) fun a w F W => ?_
   refine Ag (Ad ?_)
   refine AA F Aa (fun hb => ?_) fun hb => ?_
   ·
    have H := AU hb H
    rw [hb] at F
    clear hb
    refine Ak (Ae ?_)
    refine ls F W Aa (Ah F Aa).q fun a w F W => ?_
    refine ls F W Aa (Af F Aa).q fun a w F W => ?_
    refine Ag (Ad (Ay (AW ?_)))
    iterate 2 refine AC ?_
    refine AW (AC ?_)
    have H := L2 _ H
    have H := L1 _ H
    have H := AZ H
    subst H
    refine AO (.inl Aa) F W Aa (Au F Aa) ?_
    exact ⟨rfl, W.done⟩
   have H := AV (by rw [hb]; decide) H
   rw [hb] at F
   clear hb
   refine Az (A5 (Ad (Ae ?_)))
   refine ls F W Aa (Co F Aa Aa Aa).q fun a w F W => ?_
   refine ls F W Aa (Ah F Aa).q fun a w F W => ?_
   refine Ag (Ad ?_)
   exact ⟨_, H, F.re ⟨rfl, Aa, Aa, Aa, Aa, trivial⟩, W⟩
  have H := AV (Be hb) H
  rw [hb] at F
  clear hb
  refine BV ?_
  iterate 2 refine Ce ?_
  refine BT (Ad ?_)
  have H := L2 _ H
  exact ⟨H, F.re ⟨rfl, trivial⟩, W⟩
 rintro a w ⟨hj, F, W⟩
 have H := K1 _ hj
 clear hj G1 K1 L1
 refine Ak (Ae ?_)
 refine ls F W Aa (Af F Aa).q fun a w F W => ?_
 refine Ag (Ad (Ay ?_))
 have H := AZ H
 subst H
 refine AO (.inl Aa) F W Aa (Au F Aa) ?_
 exact ⟨rfl, W.done⟩
noncomputable def Ax (p0 : List (Int × (Int × (Int × Int × Int × Int) × (Int × Int × Int × Int)) × (List (Int × Int × Int)))) (p1c0 : Int × (Int × (Int × Int × Int × Int) × (Int × Int × Int × Int)) × (List (Int × Int × Int))) : Option Bool := (AG p0 p1c0).bind fun x1 => some (decide (0 ≤ x1))
theorem Bw (Y : Nat → Prop) (w0 : World) (v1 : Value) (q_p1c0 : Nat) (v2 : Value) (p0 : List (Int × (Int × (Int × Int × Int × Int) × (Int × Int × Int × Int)) × (List (Int × Int × Int)))) (p1c0 : Int × (Int × (Int × Int × Int × Int) × (Int × Int × Int × Int)) × (List (Int × Int × Int))) (r : Bool) (H : Ax p0 p1c0 = some r) (h_v1 : Sl w0 (NX []) A6 v1 p0) (h_v2 : Sl w0 (NX []) Br v2 p1c0.2.2) (a_q_p1c0 : At ⟨Y, [], w0⟩ q_p1c0 0 [.int .i64 p1c0.1, .int .i64 p1c0.2.1.1, .int .i64 p1c0.2.1.2.1.1, .int .i64 p1c0.2.1.2.1.2.1, .int .i64 p1c0.2.1.2.1.2.2.1, .int .i64 p1c0.2.1.2.1.2.2.2, .int .i64 p1c0.2.1.2.2.1, .int .i64 p1c0.2.1.2.2.2.1, .int .i64 p1c0.2.1.2.2.2.2.1, .int .i64 p1c0.2.1.2.2.2.2.2, v2]) :
    Calls Try.prog 44 #[v1, .func (.func 66) #[] #[.pointer (some ⟨q_p1c0, 0, none⟩)]] w0 fun e w' => e = .returned (.bool r) ∧ Below w0.heap.size w0 w' := by
 refine enter Try.func44 Aa Try.ntmps44 Aa fun a F => ?_
 have W := Stw.start Y w0
 obtain ⟨v3, h1, h_v1⟩ := h_v1.ex Bo
 unfold Ax at H
 refine Ak (Ae ?_)
 refine ls F W Aa (Af F Aa).q fun a w F W => ?_
 refine Ag (Ad (Ak (Ae ?_)))
 iterate 2 refine ls F W Aa (Ah F Aa).q fun a w F W => ?_
 obtain ⟨x1, h2, H⟩ := Aq H
 refine ls F W Aa (A4 (v := Value.int .i64 x1) F Mw Aa (fun w W => Cg any w (v1) q_p1c0 (v2) p0 p1c0 _ h2 (((A7 Bo h1 (Av h_v1)) : Dc _ _ _ _ _ _) w W).nx (((Av h_v2) : Dc _ _ _ _ _ _) w W).nx (At.re a_q_p1c0 W))) fun a w F W => ?_
 refine ls F W Aa (Ez F Aa Aa).q fun a w F W => ?_
 refine ls F W Aa (Af F Aa).q fun a w F W => ?_
 refine Ag (Ad (Ay ?_))
 have H := AZ H
 subst H
 refine AO (.inl Aa) F W Aa (Au F Aa) ?_
 exact ⟨rfl, W.done⟩
noncomputable def Cu (p0 : List (Int × (Int × (Int × Int × Int × Int) × (Int × Int × Int × Int)) × (List (Int × Int × Int)))) (p1 : Int × (Int × (Int × Int × Int × Int) × (Int × Int × Int × Int)) × (List (Int × Int × Int))) (p2c0 : Int × (Int × (Int × Int × Int × Int) × (Int × Int × Int × Int)) × (List (Int × Int × Int))) : ((List (Int × (Int × (Int × Int × Int × Int) × (Int × Int × Int × Int)) × (List (Int × Int × Int)))) × Int) → Option (((List (Int × (Int × (Int × Int × Int × Int) × (Int × Int × Int × Int)) × (List (Int × Int × Int)))) × Int) ⊕ (List (Int × (Int × (Int × Int × Int × Int) × (Int × Int × Int × Int)) × (List (Int × Int × Int)))))
  | (x2, x3) => (if x3 < (p0.length : Int) then ((ix x2 x3).bind fun x5 => (if (BC x5 p2c0) = true then (Bn p1).bind fun x6 => (ix x2 x3).bind fun x7 => some (Dk x2 x3 (x7.1, x7.2.1, x6.2.2)) else some x2)).bind fun x4 => some (.inl (x4, CG (x3 + 1))) else some (.inr x2))
noncomputable def B0 (p0 : List (Int × (Int × (Int × Int × Int × Int) × (Int × Int × Int × Int)) × (List (Int × Int × Int)))) (p1 : Int × (Int × (Int × Int × Int × Int) × (Int × Int × Int × Int)) × (List (Int × Int × Int))) (p2c0 : Int × (Int × (Int × Int × Int × Int) × (Int × Int × Int × Int)) × (List (Int × Int × Int))) : Option (List (Int × (Int × (Int × Int × Int × Int) × (Int × Int × Int × Int)) × (List (Int × Int × Int)))) := (Bh (Cu p0 p1 p2c0) (p0, 0)).bind fun x1 => some x1
theorem FN (Y : Nat → Prop) (X : List Nat) (w0 : World) (v1 : Value) (v2 : Value) (q_p2c0 : Nat) (v3 : Value) (p0 : List (Int × (Int × (Int × Int × Int × Int) × (Int × Int × Int × Int)) × (List (Int × Int × Int)))) (p1 : Int × (Int × (Int × Int × Int × Int) × (Int × Int × Int × Int)) × (List (Int × Int × Int))) (p2c0 : Int × (Int × (Int × Int × Int × Int) × (Int × Int × Int × Int)) × (List (Int × Int × Int))) (r : (List (Int × (Int × (Int × Int × Int × Int) × (Int × Int × Int × Int)) × (List (Int × Int × Int))))) (H : B0 p0 p1 p2c0 = some r) (s_v2 : Sl w0 Y Br v2 p1.2.2) (h_v3 : Sl w0 (NX X) Br v3 p2c0.2.2) (a_q_p2c0 : At ⟨Y, X, w0⟩ q_p2c0 0 [.int .i64 p2c0.1, .int .i64 p2c0.2.1.1, .int .i64 p2c0.2.1.2.1.1, .int .i64 p2c0.2.1.2.1.2.1, .int .i64 p2c0.2.1.2.1.2.2.1, .int .i64 p2c0.2.1.2.1.2.2.2, .int .i64 p2c0.2.1.2.2.1, .int .i64 p2c0.2.1.2.2.2.1, .int .i64 p2c0.2.1.2.2.2.2.1, .int .i64 p2c0.2.1.2.2.2.2.2, v3]) (hL : Stw ⟨Y, X, w0⟩ [] [row v1 40 A6 p0] w0) :
    Calls Try.prog 42 #[v1, .agg #[.int .i64 p1.1, .int .i64 p1.2.1.1, .int .i64 p1.2.1.2.1.1, .int .i64 p1.2.1.2.1.2.1, .int .i64 p1.2.1.2.1.2.2.1, .int .i64 p1.2.1.2.1.2.2.2, .int .i64 p1.2.1.2.2.1, .int .i64 p1.2.1.2.2.2.1, .int .i64 p1.2.1.2.2.2.2.1, .int .i64 p1.2.1.2.2.2.2.2, v2], .func (.func 66) #[] #[.pointer (some ⟨q_p2c0, 0, none⟩)]] w0 fun e w' => ∃ x : Value, e = .returned (x) ∧ Stw ⟨Y, X, w0⟩ [] [row (x) 40 A6 r] w' := by
 refine enter Try.func42 Aa Try.ntmps42 Aa fun a F => ?_
 have W := hL
 have h_v2 := W.nx s_v2
 unfold B0 at H
 refine Ak (Ae ?_)
 refine B2 (cs := [.int .i64 p1.1, .int .i64 p1.2.1.1, .int .i64 p1.2.1.2.1.1, .int .i64 p1.2.1.2.1.2.1, .int .i64 p1.2.1.2.1.2.2.1, .int .i64 p1.2.1.2.1.2.2.2, .int .i64 p1.2.1.2.2.1, .int .i64 p1.2.1.2.2.2.1, .int .i64 p1.2.1.2.2.2.2.1, .int .i64 p1.2.1.2.2.2.2.2, v2]) F W Aa Aa Aa fun b1 a w F W => ?_
 refine ls F W Aa (Af F Aa).q fun a w F W => ?_
 refine Ag (Ad ?_)
 obtain ⟨o1, G1, K1⟩ := Aq H
 refine AY (fun a w => ∃ x1 : List (Int × (Int × (Int × Int × Int × Int) × (Int × Int × Int × Int)) × (List (Int × Int × Int))), some (x1) = some o1 ∧ Fr 28 [] [(0, v1), (6, .slice none 0 0)] a ∧ Stw ⟨Y, X, w0⟩ [(b1, [.int .i64 p1.1, .int .i64 p1.2.1.1, .int .i64 p1.2.1.2.1.1, .int .i64 p1.2.1.2.1.2.1, .int .i64 p1.2.1.2.1.2.2.1, .int .i64 p1.2.1.2.1.2.2.2, .int .i64 p1.2.1.2.2.1, .int .i64 p1.2.1.2.2.2.1, .int .i64 p1.2.1.2.2.2.2.1, .int .i64 p1.2.1.2.2.2.2.2, v2])] [row v1 40 A6 x1] w) ?_ ?_
 ·
  have H := G1
  clear G1 K1
  refine Ak (Ae ?_)
  refine ls F W Aa (Ah F Aa).q fun a w F W => ?_
  refine ls F W Aa (B4 (r := A6) (l := p0) Em Aa F Aa (Bc 0 Aa)).q fun a w F W => ?_
  refine ls F W Aa (Ah F Aa).q fun a w F W => ?_
  refine Ag (Ad (AB ?_))
  refine BU H (fun s a w => Fr 28 [] [(0, v1), (2, .func (.func 66) #[] #[.pointer (some ⟨q_p2c0, 0, none⟩)]), (4, .pointer (some ⟨b1, 0, none⟩)), (6, .slice none 0 0), (9, v1), (10, .int .i64 (p0.length : Int)), (11, .int .i64 s.2)] a ∧ Stw ⟨Y, X, w0⟩ [(b1, [.int .i64 p1.1, .int .i64 p1.2.1.1, .int .i64 p1.2.1.2.1.1, .int .i64 p1.2.1.2.1.2.1, .int .i64 p1.2.1.2.1.2.2.1, .int .i64 p1.2.1.2.1.2.2.2, .int .i64 p1.2.1.2.2.1, .int .i64 p1.2.1.2.2.2.1, .int .i64 p1.2.1.2.2.2.2.1, .int .i64 p1.2.1.2.2.2.2.2, v2])] [row v1 40 A6 s.1] w) ⟨F.re ⟨rfl, Aa, Aa, Aa, Aa, Aa, Aa, trivial⟩, W⟩ fun s o a w H L2 hR => ?_
  obtain ⟨x2, x3⟩ := s
  obtain ⟨F, W⟩ := hR
  have F : Fr 28 [] [(0, v1), (2, .func (.func 66) #[] #[.pointer (some ⟨q_p2c0, 0, none⟩)]), (4, .pointer (some ⟨b1, 0, none⟩)), (6, .slice none 0 0), (9, v1), (10, .int .i64 (p0.length : Int)), (11, .int .i64 x3)] a := F
  have W : Stw ⟨Y, X, w0⟩ [(b1, [.int .i64 p1.1, .int .i64 p1.2.1.1, .int .i64 p1.2.1.2.1.1, .int .i64 p1.2.1.2.1.2.1, .int .i64 p1.2.1.2.1.2.2.1, .int .i64 p1.2.1.2.1.2.2.2, .int .i64 p1.2.1.2.2.1, .int .i64 p1.2.1.2.2.2.1, .int .i64 p1.2.1.2.2.2.2.1, .int .i64 p1.2.1.2.2.2.2.2, v2])] [row v1 40 A6 x2] w := W
  rw [Cu] at H
  refine Ak (Ae ?_)
  refine ls F W Aa (BS F Aa Aa).q fun a w F W => ?_
  refine Ag (Ad (Ak ?_))
  refine AA F Aa (fun hb => ?_) fun hb => ?_
  ·
   have H := AU (Bd hb) H
   rw [hb] at F
   clear hb
   refine Az (Ad ?_)
   obtain ⟨o3, G3, K3⟩ := Aq H
   refine AY (fun a w => ∃ x4 : List (Int × (Int × (Int × Int × Int × Int) × (Int × Int × Int × Int)) × (List (Int × Int × Int))), some (x4) = some o3 ∧ Fr 28 [] [(0, v1), (2, .func (.func 66) #[] #[.pointer (some ⟨q_p2c0, 0, none⟩)]), (4, .pointer (some ⟨b1, 0, none⟩)), (6, .slice none 0 0), (9, v1), (10, .int .i64 (p0.length : Int)), (11, .int .i64 x3)] a ∧ Stw ⟨Y, X, w0⟩ [(b1, [.int .i64 p1.1, .int .i64 p1.2.1.1, .int .i64 p1.2.1.2.1.1, .int .i64 p1.2.1.2.1.2.1, .int .i64 p1.2.1.2.1.2.2.1, .int .i64 p1.2.1.2.1.2.2.2, .int .i64 p1.2.1.2.2.1, .int .i64 p1.2.1.2.2.2.1, .int .i64 p1.2.1.2.2.2.2.1, .int .i64 p1.2.1.2.2.2.2.2, v2])] [row v1 40 A6 x4] w) ?_ ?_
   ·
    have H := G3
    clear G3 K3
    refine AB (Ak ?_)
    obtain ⟨v4, h1, W⟩ := W.exR Bo
    refine Ae ?_
    refine ls F W Aa (Ah F Aa).q fun a w F W => ?_
    obtain ⟨x5, h2, H⟩ := Aq H
    obtain ⟨v5, h3, h4⟩ := CO h1 h2
    have h5 : Cm v5 = [.int .i64 x5.1, .int .i64 x5.2.1.1, .int .i64 x5.2.1.2.1.1, .int .i64 x5.2.1.2.1.2.1, .int .i64 x5.2.1.2.1.2.2.1, .int .i64 x5.2.1.2.1.2.2.2, .int .i64 x5.2.1.2.2.1, .int .i64 x5.2.1.2.2.2.1, .int .i64 x5.2.1.2.2.2.2.1, .int .i64 x5.2.1.2.2.2.2.2, (v5.2.2.1)] := congrArg (fun q : Int × (Int × (Int × Int × Int × Int) × (Int × Int × Int × Int)) × (List (Int × Int × Int)) => ([.int .i64 q.1, .int .i64 q.2.1.1, .int .i64 q.2.1.2.1.1, .int .i64 q.2.1.2.1.2.1, .int .i64 q.2.1.2.1.2.2.1, .int .i64 q.2.1.2.1.2.2.2, .int .i64 q.2.1.2.2.1, .int .i64 q.2.1.2.2.2.1, .int .i64 q.2.1.2.2.2.2.1, .int .i64 q.2.1.2.2.2.2.2, (v5.2.2.1)] : List Value)) h4
    refine ls F W Aa (Bl (r := C1) Fa F Aa Aa (Bc 0 Aa) h3).q fun a w F W => ?_
    refine ls F W Aa (Ba (y := Value.agg #[.int .i64 x5.1, .int .i64 x5.2.1.1, .int .i64 x5.2.1.2.1.1, .int .i64 x5.2.1.2.1.2.1, .int .i64 x5.2.1.2.1.2.2.1, .int .i64 x5.2.1.2.1.2.2.2, .int .i64 x5.2.1.2.2.1, .int .i64 x5.2.1.2.2.2.1, .int .i64 x5.2.1.2.2.2.2.1, .int .i64 x5.2.1.2.2.2.2.2, (v5.2.2.1)]) (j := 0) (i := x3) (enc := Cm) F Aa Aa (Bc 0 Aa) h3 Es Da (by rw [h5]; rfl)).q fun a w F W => ?_
    have W := W.note (W.rowAt (k := 0) Aa h3 (Bv.snd (Bv.snd Bv.here)) (congrArg (fun q : Int × (Int × (Int × Int × Int × Int) × (Int × Int × Int × Int)) × (List (Int × Int × Int)) => q.2.2) h4))
    refine Cp (cs := [.int .i64 0, .int .i64 0, .int .i64 0, .int .i64 0, .int .i64 0, .int .i64 0, .int .i64 0, .int .i64 0, .int .i64 0, .int .i64 0, .slice none 0 0]) F W Aa Kn Aa fun b2 a w F W => ?_
    refine ls F W Aa (Af F Aa).q fun a w F W => ?_
    refine BN (vs := [.int .i64 x5.1, .int .i64 x5.2.1.1, .int .i64 x5.2.1.2.1.1, .int .i64 x5.2.1.2.1.2.1, .int .i64 x5.2.1.2.1.2.2.1, .int .i64 x5.2.1.2.1.2.2.2, .int .i64 x5.2.1.2.2.1, .int .i64 x5.2.1.2.2.2.1, .int .i64 x5.2.1.2.2.2.2.1, .int .i64 x5.2.1.2.2.2.2.2, (v5.2.2.1)]) (M' := [(b2, [.int .i64 x5.1, .int .i64 x5.2.1.1, .int .i64 x5.2.1.2.1.1, .int .i64 x5.2.1.2.1.2.1, .int .i64 x5.2.1.2.1.2.2.1, .int .i64 x5.2.1.2.1.2.2.2, .int .i64 x5.2.1.2.2.1, .int .i64 x5.2.1.2.2.2.1, .int .i64 x5.2.1.2.2.2.2.1, .int .i64 x5.2.1.2.2.2.2.2, (v5.2.2.1)]), (b1, [.int .i64 p1.1, .int .i64 p1.2.1.1, .int .i64 p1.2.1.2.1.1, .int .i64 p1.2.1.2.1.2.1, .int .i64 p1.2.1.2.1.2.2.1, .int .i64 p1.2.1.2.1.2.2.2, .int .i64 p1.2.1.2.2.1, .int .i64 p1.2.1.2.2.2.1, .int .i64 p1.2.1.2.2.2.2.1, .int .i64 p1.2.1.2.2.2.2.2, v2])]) 0 F W Aa Aa Aa Da Aa Aa Aa (Am Aa (Am Aa (Am Aa (Am Aa (Am Aa (Am Aa (Am Aa (Am Aa (Am Aa (Am Aa (Am (W.oneF (k := 0) Aa) C9))))))))))) Aa fun w W => ?_
    refine Ag (Ad (Ak (Ae ?_)))
    refine ls F W Aa (Ah F Aa).q fun a w F W => ?_
    refine ls F W Aa (As (v := Value.agg #[.int .i64 x5.1, .int .i64 x5.2.1.1, .int .i64 x5.2.1.2.1.1, .int .i64 x5.2.1.2.1.2.1, .int .i64 x5.2.1.2.1.2.2.1, .int .i64 x5.2.1.2.1.2.2.2, .int .i64 x5.2.1.2.2.1, .int .i64 x5.2.1.2.2.2.1, .int .i64 x5.2.1.2.2.2.2.1, .int .i64 x5.2.1.2.2.2.2.2, (v5.2.2.1)]) 0 F Aa Aa Da Aa).q fun a w F W => ?_
    refine ls F W Aa (EH (ws := [.agg #[.int .i64 x5.1, .int .i64 x5.2.1.1, .int .i64 x5.2.1.2.1.1, .int .i64 x5.2.1.2.1.2.1, .int .i64 x5.2.1.2.1.2.2.1, .int .i64 x5.2.1.2.1.2.2.2, .int .i64 x5.2.1.2.2.1, .int .i64 x5.2.1.2.2.2.1, .int .i64 x5.2.1.2.2.2.2.1, .int .i64 x5.2.1.2.2.2.2.2, (v5.2.2.1)], .pointer (some ⟨q_p2c0, 0, none⟩)]) (v := Value.bool (BC x5 p2c0)) F Nm Aa (fun w W => Ew any w ((v5.2.2.1)) q_p2c0 (v3) x5 p2c0 _ Aa (((CT 0 Aa) : Dc _ _ _ _ _ _) w W).nx (((Av h_v3) : Dc _ _ _ _ _ _) w W).nx (At.re a_q_p2c0 W))) fun a w F W => ?_
    refine Ag (Ad ?_)
    refine AA F Aa (fun hb => ?_) fun hb => ?_
    ·
     have H := AU hb H
     rw [hb] at F
     clear hb
     refine Ae ?_
     iterate 2 refine ls F W Aa (Ah F Aa).q fun a w F W => ?_
     refine ls F W Aa (As (v := Value.agg #[.int .i64 p1.1, .int .i64 p1.2.1.1, .int .i64 p1.2.1.2.1.1, .int .i64 p1.2.1.2.1.2.1, .int .i64 p1.2.1.2.1.2.2.1, .int .i64 p1.2.1.2.1.2.2.2, .int .i64 p1.2.1.2.2.1, .int .i64 p1.2.1.2.2.2.1, .int .i64 p1.2.1.2.2.2.2.1, .int .i64 p1.2.1.2.2.2.2.2, v2]) 1 F Aa Aa Da Aa).q fun a w F W => ?_
     obtain ⟨x6, h6, H⟩ := Aq H
     refine Bq (Ml := []) (Zl := []) (M := [(b2, [.int .i64 x5.1, .int .i64 x5.2.1.1, .int .i64 x5.2.1.2.1.1, .int .i64 x5.2.1.2.1.2.1, .int .i64 x5.2.1.2.1.2.2.1, .int .i64 x5.2.1.2.1.2.2.2, .int .i64 x5.2.1.2.2.1, .int .i64 x5.2.1.2.2.2.1, .int .i64 x5.2.1.2.2.2.2.1, .int .i64 x5.2.1.2.2.2.2.2, (v5.2.2.1)]), (b1, [.int .i64 p1.1, .int .i64 p1.2.1.1, .int .i64 p1.2.1.2.1.1, .int .i64 p1.2.1.2.1.2.1, .int .i64 p1.2.1.2.1.2.2.1, .int .i64 p1.2.1.2.1.2.2.2, .int .i64 p1.2.1.2.2.1, .int .i64 p1.2.1.2.2.2.1, .int .i64 p1.2.1.2.2.2.2.1, .int .i64 p1.2.1.2.2.2.2.2, v2])]) (Z := [BP (v5.2.2.1) Br x5.2.2, row v1 40 C1 v4]) (β := Value) (rv := fun x => .agg #[.int .i64 x6.1, .int .i64 x6.2.1.1, .int .i64 x6.2.1.2.1.1, .int .i64 x6.2.1.2.1.2.1, .int .i64 x6.2.1.2.1.2.2.1, .int .i64 x6.2.1.2.1.2.2.2, .int .i64 x6.2.1.2.2.1, .int .i64 x6.2.1.2.2.2.1, .int .i64 x6.2.1.2.2.2.2.1, .int .i64 x6.2.1.2.2.2.2.2, x]) (MM := fun x => []) (ZZ := fun x => [row x 61 Br x6.2.2]) F W M7 Aa Aa (fun hL => CR _ w (v2) p1 _ h6 (W.old s_v2)) fun x a w F W => ?_
     obtain ⟨v6, rfl⟩ : ∃ y, y = x := ⟨x, rfl⟩
     have W : Stw ⟨Y, X, w0⟩ [(b2, [.int .i64 x5.1, .int .i64 x5.2.1.1, .int .i64 x5.2.1.2.1.1, .int .i64 x5.2.1.2.1.2.1, .int .i64 x5.2.1.2.1.2.2.1, .int .i64 x5.2.1.2.1.2.2.2, .int .i64 x5.2.1.2.2.1, .int .i64 x5.2.1.2.2.2.1, .int .i64 x5.2.1.2.2.2.2.1, .int .i64 x5.2.1.2.2.2.2.2, (v5.2.2.1)]), (b1, [.int .i64 p1.1, .int .i64 p1.2.1.1, .int .i64 p1.2.1.2.1.1, .int .i64 p1.2.1.2.1.2.1, .int .i64 p1.2.1.2.1.2.2.1, .int .i64 p1.2.1.2.1.2.2.2, .int .i64 p1.2.1.2.2.1, .int .i64 p1.2.1.2.2.2.1, .int .i64 p1.2.1.2.2.2.2.1, .int .i64 p1.2.1.2.2.2.2.2, v2])] [row v6 61 Br x6.2.2, BP (v5.2.2.1) Br x5.2.2, row v1 40 C1 v4] w := W
     refine ls F W Aa (JQ (v := v6) CA Aa Aa Aa Hv F Aa Aa).q fun a w F W => ?_
     obtain ⟨x7, h7, H⟩ := Aq H
     obtain ⟨v7, h8, h9⟩ := CO h1 h7
     have h10 : Cm v7 = [.int .i64 x7.1, .int .i64 x7.2.1.1, .int .i64 x7.2.1.2.1.1, .int .i64 x7.2.1.2.1.2.1, .int .i64 x7.2.1.2.1.2.2.1, .int .i64 x7.2.1.2.1.2.2.2, .int .i64 x7.2.1.2.2.1, .int .i64 x7.2.1.2.2.2.1, .int .i64 x7.2.1.2.2.2.2.1, .int .i64 x7.2.1.2.2.2.2.2, (v7.2.2.1)] := congrArg (fun q : Int × (Int × (Int × Int × Int × Int) × (Int × Int × Int × Int)) × (List (Int × Int × Int)) => ([.int .i64 q.1, .int .i64 q.2.1.1, .int .i64 q.2.1.2.1.1, .int .i64 q.2.1.2.1.2.1, .int .i64 q.2.1.2.1.2.2.1, .int .i64 q.2.1.2.1.2.2.2, .int .i64 q.2.1.2.2.1, .int .i64 q.2.1.2.2.2.1, .int .i64 q.2.1.2.2.2.2.1, .int .i64 q.2.1.2.2.2.2.2, (v7.2.2.1)] : List Value)) h9
     refine ls F W Aa (Bl (r := C1) Fa F Aa Aa (Bc 2 Aa) h8).q fun a w F W => ?_
     refine ls F W Aa (Al CA Aa Aa Aa Hv F Aa (EI v1 + (x3).toNat * 11 + 10) Aa).q fun a w F W => ?_
     have W := W.freeze
     have W := W.frontZ (i := 2) Aa Aa
     have W := W.hideR Bo h1
     refine EY (r := A6) (i := x3) (j := 10) (vs := [v6]) (x' := (x7.1, x7.2.1, x6.2.2)) F W rfl rfl rfl (k := 0) rfl rfl h7 Hv (Fe (W.oneF (k := 1) rfl)) rfl rfl (Am (W.oneF (k := 1) rfl) C9) (fun A cs hA hc => by obtain ⟨z, hz, hc⟩ := Bo.to hc; have e1 := Es hc; have e2 : Cm z = [.int .i64 x7.1, .int .i64 x7.2.1.1, .int .i64 x7.2.1.2.1.1, .int .i64 x7.2.1.2.1.2.1, .int .i64 x7.2.1.2.1.2.2.1, .int .i64 x7.2.1.2.1.2.2.2, .int .i64 x7.2.1.2.2.1, .int .i64 x7.2.1.2.2.2.1, .int .i64 x7.2.1.2.2.2.2.1, .int .i64 x7.2.1.2.2.2.2.2, (z.2.2.1)] := (congrArg (fun q : Int × (Int × (Int × Int × Int × Int) × (Int × Int × Int × Int)) × (List (Int × Int × Int)) => ([.int .i64 q.1, .int .i64 q.2.1.1, .int .i64 q.2.1.2.1.1, .int .i64 q.2.1.2.1.2.1, .int .i64 q.2.1.2.1.2.2.1, .int .i64 q.2.1.2.1.2.2.2, .int .i64 q.2.1.2.2.1, .int .i64 q.2.1.2.2.2.1, .int .i64 q.2.1.2.2.2.2.1, .int .i64 q.2.1.2.2.2.2.2, (z.2.2.1)] : List Value)) hz); rw [e1, e2]; exact ⟨[Value.int .i64 x7.1], [Value.int .i64 x7.2.1.1, Value.int .i64 x7.2.1.2.1.1, Value.int .i64 x7.2.1.2.1.2.1, Value.int .i64 x7.2.1.2.1.2.2.1, Value.int .i64 x7.2.1.2.1.2.2.2, Value.int .i64 x7.2.1.2.2.1, Value.int .i64 x7.2.1.2.2.2.1, Value.int .i64 x7.2.1.2.2.2.2.1, Value.int .i64 x7.2.1.2.2.2.2.2, v6], rfl, rfl, ⟨[Value.int .i64 x7.2.1.1, Value.int .i64 x7.2.1.2.1.1, Value.int .i64 x7.2.1.2.1.2.1, Value.int .i64 x7.2.1.2.1.2.2.1, Value.int .i64 x7.2.1.2.1.2.2.2, Value.int .i64 x7.2.1.2.2.1, Value.int .i64 x7.2.1.2.2.2.1, Value.int .i64 x7.2.1.2.2.2.2.1, Value.int .i64 x7.2.1.2.2.2.2.2], [v6], rfl, ⟨[Value.int .i64 x7.2.1.1], [Value.int .i64 x7.2.1.2.1.1, Value.int .i64 x7.2.1.2.1.2.1, Value.int .i64 x7.2.1.2.1.2.2.1, Value.int .i64 x7.2.1.2.1.2.2.2, Value.int .i64 x7.2.1.2.2.1, Value.int .i64 x7.2.1.2.2.2.1, Value.int .i64 x7.2.1.2.2.2.2.1, Value.int .i64 x7.2.1.2.2.2.2.2], rfl, rfl, ⟨[Value.int .i64 x7.2.1.2.1.1, Value.int .i64 x7.2.1.2.1.2.1, Value.int .i64 x7.2.1.2.1.2.2.1, Value.int .i64 x7.2.1.2.1.2.2.2], [Value.int .i64 x7.2.1.2.2.1, Value.int .i64 x7.2.1.2.2.2.1, Value.int .i64 x7.2.1.2.2.2.2.1, Value.int .i64 x7.2.1.2.2.2.2.2], rfl, ⟨[Value.int .i64 x7.2.1.2.1.1], [Value.int .i64 x7.2.1.2.1.2.1, Value.int .i64 x7.2.1.2.1.2.2.1, Value.int .i64 x7.2.1.2.1.2.2.2], rfl, rfl, ⟨[Value.int .i64 x7.2.1.2.1.2.1], [Value.int .i64 x7.2.1.2.1.2.2.1, Value.int .i64 x7.2.1.2.1.2.2.2], rfl, rfl, ⟨[Value.int .i64 x7.2.1.2.1.2.2.1], [Value.int .i64 x7.2.1.2.1.2.2.2], rfl, rfl, rfl⟩⟩⟩, ⟨[Value.int .i64 x7.2.1.2.2.1], [Value.int .i64 x7.2.1.2.2.2.1, Value.int .i64 x7.2.1.2.2.2.2.1, Value.int .i64 x7.2.1.2.2.2.2.2], rfl, rfl, ⟨[Value.int .i64 x7.2.1.2.2.2.1], [Value.int .i64 x7.2.1.2.2.2.2.1, Value.int .i64 x7.2.1.2.2.2.2.2], rfl, rfl, ⟨[Value.int .i64 x7.2.1.2.2.2.2.1], [Value.int .i64 x7.2.1.2.2.2.2.2], rfl, rfl, rfl⟩⟩⟩⟩⟩, ⟨_, rfl, (Sl.stab (W.item (i := 1) rfl) (fun b hb _ => ⟨hA b hb, rfl⟩))⟩⟩⟩) fun w W => ?_
     refine Ag (A5 (Ad ?_))
     have W := W.frontM (i := 1) Aa Aa
     have W := W.sub (M' := [(b1, [.int .i64 p1.1, .int .i64 p1.2.1.1, .int .i64 p1.2.1.2.1.1, .int .i64 p1.2.1.2.1.2.1, .int .i64 p1.2.1.2.1.2.2.1, .int .i64 p1.2.1.2.1.2.2.2, .int .i64 p1.2.1.2.2.1, .int .i64 p1.2.1.2.2.2.1, .int .i64 p1.2.1.2.2.2.2.1, .int .i64 p1.2.1.2.2.2.2.2, v2])]) (Z' := [row v1 40 A6 (Dk x2 x3 (x7.1, x7.2.1, x6.2.2))]) (List.Sublist.cons_cons _ (List.nil_sublist _)) (List.Sublist.cons_cons _ (List.nil_sublist _))
     exact ⟨_, H, F.re ⟨rfl, Aa, Aa, Aa, Aa, Aa, Aa, trivial⟩, W⟩
    have H := AV (by rw [hb]; decide) H
    rw [hb] at F
    clear hb
    refine Az (A5 (Ad ?_))
    have W := W.frontZ (i := 1) Aa Aa
    have W := W.hideR Bo h1
    have W := W.frontM (i := 1) Aa Aa
    have W := W.sub (M' := [(b1, [.int .i64 p1.1, .int .i64 p1.2.1.1, .int .i64 p1.2.1.2.1.1, .int .i64 p1.2.1.2.1.2.1, .int .i64 p1.2.1.2.1.2.2.1, .int .i64 p1.2.1.2.1.2.2.2, .int .i64 p1.2.1.2.2.1, .int .i64 p1.2.1.2.2.2.1, .int .i64 p1.2.1.2.2.2.2.1, .int .i64 p1.2.1.2.2.2.2.2, v2])]) (Z' := [row v1 40 A6 x2]) (List.Sublist.cons_cons _ (List.nil_sublist _)) (List.Sublist.cons_cons _ (List.nil_sublist _))
    exact ⟨_, H, F.re ⟨rfl, Aa, Aa, Aa, Aa, Aa, Aa, trivial⟩, W⟩
   rintro a w ⟨x4, hj, F, W⟩
   have hj := AZ hj
   subst hj
   have H := K3
   clear G3 K3
   refine Ae ?_
   refine ls F W Aa (Co F Aa Aa Aa).q fun a w F W => ?_
   refine ls F W Aa (Ah F Aa).q fun a w F W => ?_
   refine Ag (Ad ?_)
   exact ⟨_, H, F.re ⟨rfl, Aa, Aa, Aa, Aa, Aa, Aa, trivial⟩, W⟩
  have H := AV (Be hb) H
  rw [hb] at F
  clear hb
  refine BV ?_
  iterate 2 refine Ce ?_
  refine BT (Ad ?_)
  have H := L2 _ H
  exact ⟨_, H, F.re ⟨rfl, Aa, trivial⟩, W⟩
 rintro a w ⟨x1, hj, F, W⟩
 have hj := AZ hj
 subst hj
 have H := K1
 clear G1 K1
 refine Ak (Ae ?_)
 refine ls F W Aa (Ah F Aa).q fun a w F W => ?_
 refine ls F W Aa (Af F Aa).q fun a w F W => ?_
 refine Ag (Ad (Ay ?_))
 have H := AZ H
 subst H
 refine AO (.inl Aa) F W Aa (Au F Aa) ?_
 have W := W.sub (M' := []) (Z' := [row v1 40 A6 x1]) (List.nil_sublist _) (List.Sublist.refl _)
 exact ⟨(v1), Aa, W⟩
theorem Nl : Has Try.prog 42 := ⟨fun args w => An Try.func42 rfl (by decide) args w⟩
def Fy (p0 : Int × (Int × (Int × Int × Int × Int) × (Int × Int × Int × Int)) × (List (Int × Int × Int))) (p1 : Int × (Int × (Int × Int × Int × Int) × (Int × Int × Int × Int)) × (List (Int × Int × Int))) : Bool := decide (p1.1 < p0.1)
theorem ID (Y : Nat → Prop) (w0 : World) (v1 : Value) (v2 : Value) (p0 : Int × (Int × (Int × Int × Int × Int) × (Int × Int × Int × Int)) × (List (Int × Int × Int))) (p1 : Int × (Int × (Int × Int × Int × Int) × (Int × Int × Int × Int)) × (List (Int × Int × Int))) (r : Bool) (H : Fy p0 p1 = r) (h_v1 : Sl w0 (NX []) Br v1 p0.2.2) (h_v2 : Sl w0 (NX []) Br v2 p1.2.2) :
    Calls Try.prog 31 #[.agg #[.int .i64 p0.1, .int .i64 p0.2.1.1, .int .i64 p0.2.1.2.1.1, .int .i64 p0.2.1.2.1.2.1, .int .i64 p0.2.1.2.1.2.2.1, .int .i64 p0.2.1.2.1.2.2.2, .int .i64 p0.2.1.2.2.1, .int .i64 p0.2.1.2.2.2.1, .int .i64 p0.2.1.2.2.2.2.1, .int .i64 p0.2.1.2.2.2.2.2, v1], .agg #[.int .i64 p1.1, .int .i64 p1.2.1.1, .int .i64 p1.2.1.2.1.1, .int .i64 p1.2.1.2.1.2.1, .int .i64 p1.2.1.2.1.2.2.1, .int .i64 p1.2.1.2.1.2.2.2, .int .i64 p1.2.1.2.2.1, .int .i64 p1.2.1.2.2.2.1, .int .i64 p1.2.1.2.2.2.2.1, .int .i64 p1.2.1.2.2.2.2.2, v2]] w0 fun e w' => e = .returned (.bool r) ∧ Below w0.heap.size w0 w' := by
 refine enter Try.func31 Aa Try.ntmps31 Aa fun a F => ?_
 have W := Stw.start Y w0
 unfold Fy at H
 refine Ak (Ae ?_)
 refine B2 (cs := [.int .i64 p0.1, .int .i64 p0.2.1.1, .int .i64 p0.2.1.2.1.1, .int .i64 p0.2.1.2.1.2.1, .int .i64 p0.2.1.2.1.2.2.1, .int .i64 p0.2.1.2.1.2.2.2, .int .i64 p0.2.1.2.2.1, .int .i64 p0.2.1.2.2.2.1, .int .i64 p0.2.1.2.2.2.2.1, .int .i64 p0.2.1.2.2.2.2.2, v1]) F W Aa Aa Aa fun b1 a w F W => ?_
 refine B2 (cs := [.int .i64 p1.1, .int .i64 p1.2.1.1, .int .i64 p1.2.1.2.1.1, .int .i64 p1.2.1.2.1.2.1, .int .i64 p1.2.1.2.1.2.2.1, .int .i64 p1.2.1.2.1.2.2.2, .int .i64 p1.2.1.2.2.1, .int .i64 p1.2.1.2.2.2.1, .int .i64 p1.2.1.2.2.2.2.1, .int .i64 p1.2.1.2.2.2.2.2, v2]) F W Aa Aa Aa fun b2 a w F W => ?_
 refine ls F W Aa (Af F Aa).q fun a w F W => ?_
 refine Ag (Ad (Ak (Ae ?_)))
 refine ls F W Aa (Al CA Aa Aa Aa T3 F Aa 0 Aa).q fun a w F W => ?_
 refine ls F W Aa (As (v := Value.int .i64 p0.1) 1 F Aa Aa T3 Aa).q fun a w F W => ?_
 refine ls F W Aa (Al CA Aa Aa Aa T3 F Aa 0 Aa).q fun a w F W => ?_
 refine ls F W Aa (As (v := Value.int .i64 p1.1) 0 F Aa Aa T3 Aa).q fun a w F W => ?_
 refine ls F W Aa (Fu F Aa Aa).q fun a w F W => ?_
 refine ls F W Aa (Af F Aa).q fun a w F W => ?_
 refine Ag (Ad (Ay ?_))
 subst H
 refine AO (.inl Aa) F W Aa (Au F Aa) ?_
 exact ⟨rfl, W.done⟩
theorem NT : Has Try.prog 31 := ⟨fun args w => An Try.func31 rfl (by decide) args w⟩
def Ee (p0 : Int × (Int × (Int × Int × Int × Int) × (Int × Int × Int × Int)) × (List (Int × Int × Int))) (p1 : Int × (Int × (Int × (Int × Int × Int × Int) × (Int × Int × Int × Int)) × (List (Int × Int × Int))) × Bool) : Bool := (Fy p1.2.1 p0)
theorem H6 (Y : Nat → Prop) (w0 : World) (v1 : Value) (q_p1 : Nat) (v2 : Value) (p0 : Int × (Int × (Int × Int × Int × Int) × (Int × Int × Int × Int)) × (List (Int × Int × Int))) (p1 : Int × (Int × (Int × (Int × Int × Int × Int) × (Int × Int × Int × Int)) × (List (Int × Int × Int))) × Bool) (r : Bool) (H : Ee p0 p1 = r) (h_v1 : Sl w0 (NX []) Br v1 p0.2.2) (h_v2 : Sl w0 (NX []) Br v2 p1.2.1.2.2) (a_q_p1 : At ⟨Y, [], w0⟩ q_p1 0 [.int .i64 p1.1, .int .i64 p1.2.1.1, .int .i64 p1.2.1.2.1.1, .int .i64 p1.2.1.2.1.2.1.1, .int .i64 p1.2.1.2.1.2.1.2.1, .int .i64 p1.2.1.2.1.2.1.2.2.1, .int .i64 p1.2.1.2.1.2.1.2.2.2, .int .i64 p1.2.1.2.1.2.2.1, .int .i64 p1.2.1.2.1.2.2.2.1, .int .i64 p1.2.1.2.1.2.2.2.2.1, .int .i64 p1.2.1.2.1.2.2.2.2.2, v2, .bool p1.2.2]) :
    Calls Try.prog 62 #[.agg #[.int .i64 p0.1, .int .i64 p0.2.1.1, .int .i64 p0.2.1.2.1.1, .int .i64 p0.2.1.2.1.2.1, .int .i64 p0.2.1.2.1.2.2.1, .int .i64 p0.2.1.2.1.2.2.2, .int .i64 p0.2.1.2.2.1, .int .i64 p0.2.1.2.2.2.1, .int .i64 p0.2.1.2.2.2.2.1, .int .i64 p0.2.1.2.2.2.2.2, v1], .pointer (some ⟨q_p1, 0, none⟩)] w0 fun e w' => e = .returned (.bool r) ∧ Below w0.heap.size w0 w' := by
 refine enter Try.func62 Aa Try.ntmps62 Aa fun a F => ?_
 have W := Stw.start Y w0
 unfold Ee at H
 refine Ak (Ae ?_)
 refine B2 (cs := [.int .i64 p0.1, .int .i64 p0.2.1.1, .int .i64 p0.2.1.2.1.1, .int .i64 p0.2.1.2.1.2.1, .int .i64 p0.2.1.2.1.2.2.1, .int .i64 p0.2.1.2.1.2.2.2, .int .i64 p0.2.1.2.2.1, .int .i64 p0.2.1.2.2.2.1, .int .i64 p0.2.1.2.2.2.2.1, .int .i64 p0.2.1.2.2.2.2.2, v1]) F W Aa Aa Aa fun b1 a w F W => ?_
 refine ls F W Aa (Af F Aa).q fun a w F W => ?_
 refine Ag (Ad (Ak (Ae ?_)))
 refine ls F W Aa (Al FB Aa Aa Aa Da F Aa 1 Aa).q fun a w F W => ?_
 refine ls F W Aa (EN (y := Value.agg #[.int .i64 p1.2.1.1, .int .i64 p1.2.1.2.1.1, .int .i64 p1.2.1.2.1.2.1.1, .int .i64 p1.2.1.2.1.2.1.2.1, .int .i64 p1.2.1.2.1.2.1.2.2.1, .int .i64 p1.2.1.2.1.2.1.2.2.2, .int .i64 p1.2.1.2.1.2.2.1, .int .i64 p1.2.1.2.1.2.2.2.1, .int .i64 p1.2.1.2.1.2.2.2.2.1, .int .i64 p1.2.1.2.1.2.2.2.2.2, v2]) (j := 1) F Aa (Nat.zero_add _).symm a_q_p1 Da Aa).q fun a w F W => ?_
 refine ls F W Aa (As (v := Value.agg #[.int .i64 p0.1, .int .i64 p0.2.1.1, .int .i64 p0.2.1.2.1.1, .int .i64 p0.2.1.2.1.2.1, .int .i64 p0.2.1.2.1.2.2.1, .int .i64 p0.2.1.2.1.2.2.2, .int .i64 p0.2.1.2.2.1, .int .i64 p0.2.1.2.2.2.1, .int .i64 p0.2.1.2.2.2.2.1, .int .i64 p0.2.1.2.2.2.2.2, v1]) 0 F Aa Aa Da Aa).q fun a w F W => ?_
 refine ls F W Aa (A4 (v := Value.bool (Fy p1.2.1 p0)) F NT Aa (fun w W => ID any w (v2) (v1) p1.2.1 p0 _ Aa (((Av h_v2) : Dc _ _ _ _ _ _) w W).nx (((Av h_v1) : Dc _ _ _ _ _ _) w W).nx)) fun a w F W => ?_
 refine ls F W Aa (Af F Aa).q fun a w F W => ?_
 refine Ag (Ad (Ay ?_))
 subst H
 refine AO (.inl Aa) F W Aa (Au F Aa) ?_
 exact ⟨rfl, W.done⟩
theorem Ov : Has Try.prog 62 := ⟨fun args w => An Try.func62 rfl (by decide) args w⟩
noncomputable def AL (p0 : List (Int × (Int × (Int × Int × Int × Int) × (Int × Int × Int × Int)) × (List (Int × Int × Int)))) (p1c0 : Int × (Int × (Int × (Int × Int × Int × Int) × (Int × Int × Int × Int)) × (List (Int × Int × Int))) × Bool) : Int → Option (Int ⊕ (Unit ⊕ Int))
  | x1 => (if x1 < (p0.length : Int) then (ix p0 x1).bind fun x2 => (if (Ee x2 p1c0) = true then some (.inr (.inr x1)) else some (.inl (CG (x1 + 1)))) else some (.inr (.inl ())))
noncomputable def AH (p0 : List (Int × (Int × (Int × Int × Int × Int) × (Int × Int × Int × Int)) × (List (Int × Int × Int)))) (p1c0 : Int × (Int × (Int × (Int × Int × Int × Int) × (Int × Int × Int × Int)) × (List (Int × Int × Int))) × Bool) : Option Int := FL (Bh (AL p0 p1c0) 0) fun _ => some (-1)
theorem Dl (Y : Nat → Prop) (w0 : World) (v1 : Value) (q_p1c0 : Nat) (v2 : Value) (p0 : List (Int × (Int × (Int × Int × Int × Int) × (Int × Int × Int × Int)) × (List (Int × Int × Int)))) (p1c0 : Int × (Int × (Int × (Int × Int × Int × Int) × (Int × Int × Int × Int)) × (List (Int × Int × Int))) × Bool) (r : Int) (H : AH p0 p1c0 = some r) (h_v1 : Sl w0 (NX []) A6 v1 p0) (h_v2 : Sl w0 (NX []) Br v2 p1c0.2.1.2.2) (a_q_p1c0 : At ⟨Y, [], w0⟩ q_p1c0 0 [.int .i64 p1c0.1, .int .i64 p1c0.2.1.1, .int .i64 p1c0.2.1.2.1.1, .int .i64 p1c0.2.1.2.1.2.1.1, .int .i64 p1c0.2.1.2.1.2.1.2.1, .int .i64 p1c0.2.1.2.1.2.1.2.2.1, .int .i64 p1c0.2.1.2.1.2.1.2.2.2, .int .i64 p1c0.2.1.2.1.2.2.1, .int .i64 p1c0.2.1.2.1.2.2.2.1, .int .i64 p1c0.2.1.2.1.2.2.2.2.1, .int .i64 p1c0.2.1.2.1.2.2.2.2.2, v2, .bool p1c0.2.2]) :
    Calls Try.prog 36 #[v1, .func (.func 62) #[] #[.pointer (some ⟨q_p1c0, 0, none⟩)]] w0 fun e w' => e = .returned (.int .i64 r) ∧ Below w0.heap.size w0 w' := by
 refine enter Try.func36 Aa Try.ntmps36 Aa fun a F => ?_
 have W := Stw.start Y w0
 obtain ⟨v3, h1, h_v1⟩ := h_v1.ex Bo
 unfold AH at H
 refine Ak (Ae ?_)
 refine ls F W Aa (Af F Aa).q fun a w F W => ?_
 refine Ag (Ad ?_)
 obtain ⟨o1, G1, K1, L1⟩ := IA H
 refine AY (fun a w => some (Sum.inl ()) = some o1 ∧ Fr 19 [] [(4, .int .i64 0)] a ∧ Stw ⟨Y, [], w0⟩ [] [] w) ?_ ?_
 ·
  have H := G1
  clear G1 K1
  refine Ak (Ae ?_)
  refine ls F W Aa (Ah F Aa).q fun a w F W => ?_
  refine ls F W Aa (B4 (r := A6) (l := p0) Em Aa F Aa (A7 Bo h1 (Av h_v1))).q fun a w F W => ?_
  refine ls F W Aa (Ah F Aa).q fun a w F W => ?_
  refine Ag (Ad (AB ?_))
  refine BU H (fun s a w => Fr 19 [] [(0, v1), (1, .func (.func 62) #[] #[.pointer (some ⟨q_p1c0, 0, none⟩)]), (4, .int .i64 0), (7, .int .i64 (p0.length : Int)), (8, .int .i64 s)] a ∧ Stw ⟨Y, [], w0⟩ [] [] w) ⟨F.re ⟨rfl, Aa, Aa, Aa, Aa, trivial⟩, W⟩ fun s o a w H L2 hR => ?_
  obtain ⟨x1, rfl⟩ : ∃ x, x = s := ⟨s, rfl⟩
  obtain ⟨F, W⟩ := hR
  have F : Fr 19 [] [(0, v1), (1, .func (.func 62) #[] #[.pointer (some ⟨q_p1c0, 0, none⟩)]), (4, .int .i64 0), (7, .int .i64 (p0.length : Int)), (8, .int .i64 x1)] a := F
  have W : Stw ⟨Y, [], w0⟩ [] [] w := W
  rw [AL] at H
  refine Ak (Ae ?_)
  refine ls F W Aa (BS F Aa Aa).q fun a w F W => ?_
  refine Ag (Ad (Ak ?_))
  refine AA F Aa (fun hb => ?_) fun hb => ?_
  ·
   have H := AU (Bd hb) H
   rw [hb] at F
   clear hb
   refine Az (Ad (Ak (AB (Ak (Ae ?_)))))
   refine ls F W Aa (Ah F Aa).q fun a w F W => ?_
   refine ls F W Aa (Af F Aa).q fun a w F W => ?_
   refine Ag (Ad (Ak (Ae ?_)))
   iterate 3 refine ls F W Aa (Ah F Aa).q fun a w F W => ?_
   obtain ⟨x2, h2, H⟩ := Aq H
   obtain ⟨v4, h3, h4⟩ := CO h1 h2
   have h5 : Cm v4 = [.int .i64 x2.1, .int .i64 x2.2.1.1, .int .i64 x2.2.1.2.1.1, .int .i64 x2.2.1.2.1.2.1, .int .i64 x2.2.1.2.1.2.2.1, .int .i64 x2.2.1.2.1.2.2.2, .int .i64 x2.2.1.2.2.1, .int .i64 x2.2.1.2.2.2.1, .int .i64 x2.2.1.2.2.2.2.1, .int .i64 x2.2.1.2.2.2.2.2, (v4.2.2.1)] := congrArg (fun q : Int × (Int × (Int × Int × Int × Int) × (Int × Int × Int × Int)) × (List (Int × Int × Int)) => ([.int .i64 q.1, .int .i64 q.2.1.1, .int .i64 q.2.1.2.1.1, .int .i64 q.2.1.2.1.2.1, .int .i64 q.2.1.2.1.2.2.1, .int .i64 q.2.1.2.1.2.2.2, .int .i64 q.2.1.2.2.1, .int .i64 q.2.1.2.2.2.1, .int .i64 q.2.1.2.2.2.2.1, .int .i64 q.2.1.2.2.2.2.2, (v4.2.2.1)] : List Value)) h4
   refine ls F W Aa (Bl (r := C1) Fa F Aa Aa (Av h_v1) h3).q fun a w F W => ?_
   refine ls F W Aa (Ba (y := Value.agg #[.int .i64 x2.1, .int .i64 x2.2.1.1, .int .i64 x2.2.1.2.1.1, .int .i64 x2.2.1.2.1.2.1, .int .i64 x2.2.1.2.1.2.2.1, .int .i64 x2.2.1.2.1.2.2.2, .int .i64 x2.2.1.2.2.1, .int .i64 x2.2.1.2.2.2.1, .int .i64 x2.2.1.2.2.2.2.1, .int .i64 x2.2.1.2.2.2.2.2, (v4.2.2.1)]) (j := 0) (i := x1) (enc := Cm) F Aa Aa (Av h_v1) h3 Es Da (by rw [h5]; rfl)).q fun a w F W => ?_
   refine ls F W Aa (EH (ws := [.agg #[.int .i64 x2.1, .int .i64 x2.2.1.1, .int .i64 x2.2.1.2.1.1, .int .i64 x2.2.1.2.1.2.1, .int .i64 x2.2.1.2.1.2.2.1, .int .i64 x2.2.1.2.1.2.2.2, .int .i64 x2.2.1.2.2.1, .int .i64 x2.2.1.2.2.2.1, .int .i64 x2.2.1.2.2.2.2.1, .int .i64 x2.2.1.2.2.2.2.2, (v4.2.2.1)], .pointer (some ⟨q_p1c0, 0, none⟩)]) (v := Value.bool (Ee x2 p1c0)) F Ov Aa (fun w W => H6 any w ((v4.2.2.1)) q_p1c0 (v2) x2 p1c0 _ Aa (((DN (Av h_v1) h3 (Bv.snd (Bv.snd Bv.here)) (congrArg (fun q : Int × (Int × (Int × Int × Int × Int) × (Int × Int × Int × Int)) × (List (Int × Int × Int)) => q.2.2) h4)) : Dc _ _ _ _ _ _) w W).nx (((Av h_v2) : Dc _ _ _ _ _ _) w W).nx (At.re a_q_p1c0 W))) fun a w F W => ?_
   refine Ag (Ad ?_)
   refine AA F Aa (fun hb => ?_) fun hb => ?_
   ·
    have H := AU hb H
    rw [hb] at F
    clear hb
    refine Ak (Ae ?_)
    refine ls F W Aa (Ah F Aa).q fun a w F W => ?_
    refine ls F W Aa (Af F Aa).q fun a w F W => ?_
    refine Ag (Ad (Ay (AW ?_)))
    iterate 2 refine AC ?_
    refine AW (AC ?_)
    have H := L2 _ H
    have H := L1 _ H
    have H := AZ H
    subst H
    refine AO (.inl Aa) F W Aa (Au F Aa) ?_
    exact ⟨rfl, W.done⟩
   have H := AV (by rw [hb]; decide) H
   rw [hb] at F
   clear hb
   refine Az (A5 (Ad (Ae ?_)))
   refine ls F W Aa (Co F Aa Aa Aa).q fun a w F W => ?_
   refine ls F W Aa (Ah F Aa).q fun a w F W => ?_
   refine Ag (Ad ?_)
   exact ⟨_, H, F.re ⟨rfl, Aa, Aa, Aa, Aa, trivial⟩, W⟩
  have H := AV (Be hb) H
  rw [hb] at F
  clear hb
  refine BV ?_
  iterate 2 refine Ce ?_
  refine BT (Ad ?_)
  have H := L2 _ H
  exact ⟨H, F.re ⟨rfl, trivial⟩, W⟩
 rintro a w ⟨hj, F, W⟩
 have H := K1 _ hj
 clear hj G1 K1 L1
 refine Ak (Ae ?_)
 refine ls F W Aa (Af F Aa).q fun a w F W => ?_
 refine Ag (Ad (Ay ?_))
 have H := AZ H
 subst H
 refine AO (.inl Aa) F W Aa (Au F Aa) ?_
 exact ⟨rfl, W.done⟩
end Go.Proofs.Ytkjjioigbpkifaa
